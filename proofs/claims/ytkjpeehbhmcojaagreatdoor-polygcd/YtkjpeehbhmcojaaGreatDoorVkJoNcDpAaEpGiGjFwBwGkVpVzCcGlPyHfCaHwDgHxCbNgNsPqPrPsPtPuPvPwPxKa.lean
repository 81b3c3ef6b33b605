/-
  ashlarlaw3.few.
-/
import Derived.Test.YtkjpeehbhmcojaaGreatDoorCyViDsAeVuWxUpUq
import Derived.Test.YtkjpeehbhmcojaaGreatDoorOaOfJpCwDj
import Derived.Test.YtkjpeehbhmcojaaGreatDoorRtDhVeRsVfVcAjDqDrBmBqDuAkBrAlApAqNrNaHdNbFvOiDyEo
import Derived.Test.YtkjpeehbhmcojaaGreatDoorHeVvCu
import Derived.Test.YtkjpeehbhmcojaaGreatDoorUaVgOnWhPn
import Derived.Deep.Slices
import Derived.Deep.DeepFit
import Derived.Test.YtkjpeehbhmcojaaGreatDoorEq
import Derived.Test.YtkjpeehbhmcojaaGreatDoorUoDmVtAfBpBnBoAhAdBsDtAgWvUhAiRzVd
import Derived.Test.YtkjpeehbhmcojaaGreatDoorFyDdDvPmHuVyFpCdDeGaGbKp
import Derived.Test.YtkjpeehbhmcojaaGreatDoorByUxUtUvUw
import Derived.LoopNIn
import Derived.LoopIn
import Derived.Test.YtkjpeehbhmcojaaGreatDoorUeUfUg
import Derived.Test.YtkjpeehbhmcojaaGreatDoorBbCvNjUbUcUdOwRaWmBe
import Derived.Test.YtkjpeehbhmcojaaGreatDoorRmRpDkDlDbRiRjRg
import Derived.Test.YtkjpeehbhmcojaaGreatDoorRoVbDaCxRb
import Derived.Test.YtkjpeehbhmcojaaGreatDoorDcUjLeUk
import Derived.Test.YtkjpeehbhmcojaaGreatDoorRkUiVq
import Derived.Test.YtkjpeehbhmcojaaGreatDoorUyUzUr
import Derived.Test.YtkjpeehbhmcojaaGreatDoorGgUnWfUu
import Derived.Test.YtkjpeehbhmcojaaGreatDoorUmVs
import Derived.Test.YtkjpeehbhmcojaaGreatDoorWaWbWc
import Derived.Deep.RegionHeld3
import Derived.Deep.CutRange
import Derived.Laws.OwnMore
import Derived.Test.YtkjpeehbhmcojaaGreatDoorGcGdGe
import Derived.Test.YtkjpeehbhmcojaaGreatDoorWiWjUl
namespace Go.Proofs.YtkjpeehbhmcojaaGreatDoor
open Go.RowKit
set_option linter.unusedVariables false
set_option linter.unusedSimpArgs false
set_option maxHeartbeats 8000000
open Go.RowKit Go.Shelf
def Behind (zs : List Int) (j : Nat) : Prop := j = 0 ∨ ∃ i, j = i + 1 ∧ ¬ gx zs i = 0
def Marks (B U : Nat) (W : World) : List Deferred → Prop
  | [] => True
  | d :: ds => (∃ D, d = { target := .collected D, args := #[] } ∧ B ≤ D ∧ D < U ∧ W.heap[D]? = some (.deferred (some [])) ∧ ∀ e ∈ ds, e.target ≠ .collected D) ∧ Marks B U W ds
theorem Marks.lt {B U : Nat} {W : World} : ∀ {ds : List Deferred}, Marks B U W ds → ∀ e ∈ ds, ∃ D, e.target = .collected D ∧ D < U
  | _ :: _, ⟨⟨D, e, _, h2, _⟩, h⟩, x, hx => by
    rcases List.mem_cons.1 hx with rfl | hx
    · exact ⟨D, by rw [e], h2⟩
    · exact Marks.lt h x hx
open Go.ChangeShapes Go.WideShapes Go.ChangeAt Go.RowKit Go.Joins
structure LB {α : Type} (E : World → Nat → Nat → α → Hdr → Prop) : Prop where
  go : ∀ (w w' : World) (B T : Nat) (z : α) (h : Hdr), E w B T z h → T ≤ w.heap.size → (∀ b, B ≤ b → b < T → w'.heap[b]? = w.heap[b]?) → E w' B T z h
section
variable {α : Type} {E : World → Nat → Nat → α → Hdr → Prop} {lo : Nat} {X Y : Nat → Prop} {w w' : World} {z : α} {h : Hdr}
end
section
variable {K lo : Nat} {X Y : Nat → Prop} {w w' : World} {y : Int} {u : Ent}
end
def One (w : World) (b o : Nat) (u : Ent) : Prop := w.cell? ⟨b, o, none⟩ = some (.bool u.s) ∧ w.cell? ⟨b, o + 1, none⟩ = some (.slice u.p u.n u.c)
section
variable {w v : World} {lo : Nat} {X : Nat → Prop}
end
theorem block_kept {W W' : World} {row : Option Nat} {b : Nat} {cs : Array Value} {t : TypeId} {x : Nat × Nat} (h : W.heap[b]? = some (.cells cs t x)) (hg : W.grownBy W' row) (hr : ∀ r, row = some r → ∃ o : Obj, W.heap[r]? = some o ∧ o.isCells = false) : W'.heap[b]? = some (.cells cs t x) := by
  refine (hg.block b (Array.getElem?_eq_some_iff.1 h).1 fun e => ?_).trans h
  obtain ⟨o, ho, hc⟩ := hr b (by first | exact e | exact e.symm)
  rw [h] at ho
  cases ho
  cases hc
theorem NV.same {B : Nat} {V V' : World} {K : Nat} {z : Int} {e : Ent} (h : NV B V K z e) (hs : V.heap.size ≤ V'.heap.size) (hb : 0 < e.n → ∀ a, e.p = some a → V'.heap[a.block]? = V.heap[a.block]?) : NV B V' K z e := by
  obtain ⟨xs, k, h2⟩ := h
  rcases Nat.eq_zero_or_pos e.n with h0 | h0
  · have hp := k.pn h0
    refine ⟨xs, ⟨k.len, fun hx => ?_, k.u, k.nrm, k.sg, k.pn, k.v, k.fr, fun a ha => ?_⟩, h2⟩
    · rw [k.len] at hx
      omega
    · rw [hp] at ha
      cases ha
  · refine ⟨xs, ⟨k.len, k.rd.same fun a ha _ => hb h0 a ha, k.u, k.nrm, k.sg, k.pn, k.v, k.fr, fun a ha => ⟨Nat.lt_of_lt_of_le (k.fz a ha).1 hs, fun i => ?_⟩⟩, h2⟩
    have h4 := (k.fz a ha).2 i
    have h3 := hb h0 a ha
    simp only [World.frozen?] at h4 ⊢
    rw [h3]
    exact h4
theorem NV.offc {B : Nat} {V : World} {K : Nat} {z : Int} {e : Ent} (h : NV B V K z e) {g : Nat} (hc : ∀ (o : Nat) (y : Int), V.cell? ⟨g, o, none⟩ ≠ some (.int .u32 y)) : 0 < e.n → ∀ a, e.p = some a → a.block ≠ g := fun hn a ha hg => by
  obtain ⟨xs, k, h2⟩ := h
  have hx : 0 < xs.length := by rw [k.len]; exact hn
  obtain ⟨b, o, hp, hcl⟩ := k.rd hx
  rw [hp] at ha
  cases ha
  simp only at hg
  subst hg
  exact hc _ _ (hcl 0 hx)
theorem NV.setc {B : Nat} {V : World} {K : Nat} {z : Int} {e : Ent} (h : NV B V K z e) {g o : Nat} (v : Value) (hc : ∀ (o : Nat) (y : Int), V.cell? ⟨g, o, none⟩ ≠ some (.int .u32 y)) : NV B (V.setCell ⟨g, o, none⟩ v) K z e :=
  h.same (by simp [World.setCell]) fun hn a ha => heap_setCell_other V ⟨g, o, none⟩ a.block v (h.offc hc hn a ha)
structure DiV (w : World) (gq gr go gp ga : Nat) (e : Ent) (q : Int) (L K m k i : Nat) (xs : List Int) (up : Ent) (es : List Ent) (V : World) : Prop where
  bw : Below w.heap.size w V
  hq : V.heap[gq]? = some (.cells #[.bool e.s, .slice e.p e.n e.c] 47)
  ho : V.heap[go]? = some (.cells #[.slice (some ⟨gr, 0, none⟩) m m] 23)
  hp : V.heap[gp]? = some (.cells #[.bool up.s, .slice up.p up.n up.c] 47)
  ha : V.heap[ga]? = some (.cells #[.int .i64 i] 3)
  hr : Row2 V gr 47 es
  el : es.length = m
  pv : NV w.heap.size V (L * i + 1) (q ^ i) up
  ev : ∀ j, j < m → NV w.heap.size V (K + L * 17 + 1) (if j < k then dl q xs j else 0) (ge es j)
theorem DiV.held {w : World} {gq gr go gp ga : Nat} {e : Ent} {q : Int} {L K m k i : Nat} {xs : List Int} {up : Ent} {es : List Ent} {V V' : World} {row : Option Nat} (h : DiV w gq gr go gp ga e q L K m k i xs up es V) (hb : Below w.heap.size w V') (hg : V.grownBy V' row) (hr : ∀ r, row = some r → ∃ o : Obj, V.heap[r]? = some o ∧ o.isCells = false) : DiV w gq gr go gp ga e q L K m k i xs up es V' :=
  ⟨hb, block_kept h.hq hg hr, block_kept h.ho hg hr, block_kept h.hp hg hr, block_kept h.ha hg hr, block_kept h.hr hg hr, h.el, h.pv.held hg hr, fun j hj => (h.ev j hj).held hg hr⟩
section
variable {w : World} {gq gr go gp ga : Nat} {e : Ent} {q : Int} {L K m k i j : Nat} {xs : List Int} {up : Ent} {es : List Ent} {V : World}
end
def DI (w : World) (gq gr go gp ga : Nat) (e : Ent) (q : Int) (L K m N0 : Nat) (xs : List Int) (pre : List (Nat × Ent)) (V : World) : Prop :=
  ∃ k i up es, DiV w gq gr go gp ga e q L K m k i xs up es V ∧ N0 ≤ V.heap.size ∧ Behind xs k ∧ pre.map (·.1) = idx xs k ∧ i = k - 1 ∧ k ≤ m
theorem DI.own {w : World} {gq gr go gp ga : Nat} {e : Ent} {q : Int} {L K m N0 : Nat} {xs : List Int} {B : Nat} (hB : w.heap.size ≤ B) : OwnFrom B (DI w gq gr go gp ga e q L K m N0 xs) := fun pre V V' row h hg hr => by
  obtain ⟨k, i, up, es, hd, hs, h2⟩ := h
  exact ⟨k, i, up, es, hd.held (ownFrom_below (Nat.le_refl _) hB () V V' row hd.bw hg hr) hg (fun r e => (hr r e).2), Nat.le_trans hs hg.size, h2⟩
def DA (w : World) (gq gr go gp ga : Nat) (e : Ent) (q : Int) (L K m N0 : Nat) (xs : List Int) (B0 : Nat) (pre : List (Nat × Ent)) (x : Nat × Ent) (b : Nat) (V : World) : Prop :=
  DI w gq gr go gp ga e q L K m N0 xs pre V ∧ Told xs m K B0 pre x V ∧ V.heap[b]? = some (.cells #[.bool x.2.s, .slice x.2.p x.2.n x.2.c] 47) ∧ B0 ≤ b
theorem DA.own {w : World} {gq gr go gp ga : Nat} {e : Ent} {q : Int} {L K m N0 : Nat} {xs : List Int} {B B0 : Nat} (hB : w.heap.size ≤ B) (pre : List (Nat × Ent)) (x : Nat × Ent) (b : Nat) : OwnFrom B fun (_ : Unit) V => DA w gq gr go gp ga e q L K m N0 xs B0 pre x b V := fun _ V V' row h hg hr =>
  ⟨DI.own hB pre V V' row h.1 hg hr, told_own B xs m K B0 pre x () V V' row h.2.1 hg hr, block_kept h.2.2.1 hg fun r e => (hr r e).2, h.2.2.2⟩
attribute [local go_sem] Oper.semAt_some
structure SR (B : Nat) (wr : World) (g M n : Nat) (us : List Ent) (F : Nat → Int) : Prop where
  row : Row2 wr g 47 us
  len : us.length = n
  ev : ∀ t, t < n → NV B wr M (F t) (ge us t) ∧ (0 < (ge us t).n → Off g (ge us t).p)
theorem SR.set {B : Nat} {wr : World} {g M n : Nat} {us : List Ent} {F G : Nat → Int} (h : SR B wr g M n us F) (t : Nat) (e : Ent) (ht : t < n) (hv : NV B wr M (G t) e) (ho : 0 < e.n → Off g e.p) (hG : ∀ s, s < n → s ≠ t → G s = F s) :
    SR B ((wr.setCell ⟨g, t * 2, none⟩ (.bool e.s)).setCell ⟨g, t * 2 + 1, none⟩ (.slice e.p e.n e.c)) g M n (us.set t e) G := by
  have hl := h.len
  refine ⟨h.row.set t e (by omega), by simpa using hl, fun s hs => ?_⟩
  by_cases he : s = t
  · subst he
    rw [ge_set_same _ _ _ (by omega)]
    exact ⟨hv.set2o ho, ho⟩
  · rw [ge_set_other _ _ _ _ he, hG s hs he]
    exact ⟨(h.ev s hs).1.set2o (h.ev s hs).2, (h.ev s hs).2⟩
def PrC (zs : List Int) (N : Nat) (w : World) (e : Ending) (w' : World) : Prop :=
  ∃ p n nc es, e = .returned (.slice p n nc) ∧ PR w' N p n nc es zs ∧ Below w.heap.size w w'
theorem PrP.c {zs : List Int} {N M : Nat} {w : World} {e : Ending} {w' : World} (h : PrP zs N w e w') (hz : ∀ t, ((gx zs t).natAbs : Int) < pw M) : PrC zs (2 * M) w e w' := by
  obtain ⟨p, n, es, a, b, -, -, c⟩ := h
  exact ⟨p, n, n, es, a, b.tight hz, c⟩
section
variable {w wr w' : World} {g3 g7 g8 g9 g10 W n i M : Nat} {u one base cr : Ent} {xs : List Int} {d : Nat → Int} {us : List Ent} {c : Int}
end
set_option maxRecDepth 100000 in
theorem sum_ge (p q : Option Addr) (n nc m mc : Nat) (xs ys : List Int) (w : World) (hn : xs.length = n) (hm : ys.length = m) (hmn : m ≤ n) (hnb : n ≤ 1000000000)
    (hX : Rd w p .u32 xs) (hXu : U32 xs) (hY : Rd w q .u32 ys) (hYu : U32 ys) :
    Calls Tryz.prog 105 #[.slice p n nc, .slice q m mc] w fun e w' => ∃ zs, e = .returned (.slice (some ⟨w.heap.size, 0, none⟩) (n + 1) (n + 1)) ∧ zs.length = n + 1 ∧ U32 zs ∧ val zs = val xs + val ys ∧
      Row w' w.heap.size 78 .u32 zs ∧ Below w.heap.size w w' := by
  have hl' : ¬ (n : Int) < m := by omega
  have hmx : max (n : Int) (m : Int) = (n : Int) := by omega
  have hmk := mk_u32 (n + 1) (by omega)
  have ec : ((n + 1 : Nat) : Int) = (n : Int) + 1 := by omega
  rw [ec] at hmk
  clear ec
  have hcp := fun ty => copy_u32 ty w p n nc (n + 1) xs hX hn (by omega)
  have hlen : (xs ++ zeros 1).length = n + 1 := by simp [zeros]; omega
  go_enter Tryz.func105, Tryz.ntmps105
  go_wp2_with fail
  refine (addTo_any w.heap.size 0 (n + 1) (n + 1) (xs ++ zeros 1) q m mc ys _ (by omega) (by omega) (Nat.le_refl _) (Row.new w _ _ _) (u32_append hXu (u32_zeros _)) hm (by omega) (hY.alloc _) hYu (fun h => hY.off (Nat.le_refl _) (by omega))).mono ?_
  rintro e w' ⟨c, new, rfl, h1, h2, h3, h4, h5, h6, h7⟩
  go_wp2
  go_ret
  have hs := sum_top xs ys new n m (n + 1) c hn hm (by omega) (by omega) hXu hYu h2 h1 h3 h4 (by
    rw [h5, List.drop_zero, List.take_of_length_le (by omega), val_append, val_zero, Int.mul_zero, Int.add_zero])
  refine ⟨new, rfl, h1, h2, hs, ?_, ?_⟩
  · rw [List.take_zero, List.nil_append, Nat.zero_add, List.drop_of_length_le (by omega), List.append_nil] at h6
    exact h6
  · exact below_grown ((Below.refl _ _).alloc (Nat.le_refl _) _) h7 (by simp) (Nat.le_refl _)
theorem rd_drop {w : World} {b off : Nat} {k : IntKind} {xs : List Int} (h : Rd w (some ⟨b, off, none⟩) k xs) (j : Nat) : Rd w (some ⟨b, off + j, none⟩) k (xs.drop j) := fun hx => by
  have hl : j < xs.length := by simp at hx; omega
  obtain ⟨b', off', e, hc⟩ := h (by omega)
  cases e
  refine ⟨b, off + j, rfl, fun i hi => ?_⟩
  have := hc (j + i) (by simp at hi; omega)
  rw [gx_drop, Nat.add_assoc]; exact this
theorem gx_mid (Z R : List Int) (o j : Nat) (h : o + R.length ≤ Z.length) : gx (mid Z o R) j = if o ≤ j ∧ j < o + R.length then gx R (j - o) else gx Z j := by
  by_cases hc : o ≤ j ∧ j < o + R.length
  · rw [if_pos hc]
    have := mid_gx Z R o (j - o) h (by omega)
    rwa [show o + (j - o) = j by omega] at this
  · rw [if_neg hc]
    rcases Nat.lt_or_ge j o with h1 | h1
    · unfold mid
      rw [List.append_assoc, gx_append_left _ _ _ (by simp; omega), gx_take _ _ _ h1]
    · exact row_gx Z R o j h (by omega)
theorem mid_sub (Z RR new : List Int) (o h : Nat) (ho : o + RR.length ≤ Z.length) (hn : h + new.length = RR.length) : mid (mid Z o RR) (o + h) new = mid Z o (RR.take h ++ new) := by
  have l1 := mid_length Z RR o ho
  have l2 : (RR.take h ++ new).length = RR.length := by simp; omega
  refine gx_ext _ _ (by rw [mid_length _ _ _ (by rw [l1]; omega), l1, mid_length _ _ _ (by rw [l2]; omega)]) fun j hj => ?_
  rw [gx_mid _ _ _ _ (by rw [l1]; omega), gx_mid _ _ _ _ ho, gx_mid _ _ _ _ (by rw [l2]; omega), l2]
  by_cases h1 : o + h ≤ j ∧ j < o + h + new.length
  · rw [if_pos h1, if_pos (by omega), gx_append_right _ _ _ (by simp; omega)]
    congr 1; simp; omega
  · rw [if_neg h1]
    by_cases h2 : o ≤ j ∧ j < o + RR.length
    · rw [if_pos h2, if_pos (by omega), gx_append_left _ _ _ (by simp; omega), gx_take _ _ _ (by omega)]
    · rw [if_neg h2, if_neg (by omega)]
theorem kara {xl xh yl yh P md : Int} (h : md + xl * yl + xh * yh = (xl + xh) * (yl + yh)) : xl * yl + P * P * (xh * yh) + P * md = (xl + P * xh) * (yl + P * yh) := by
  have e : md = xl * yh + xh * yl := by grind
  rw [e]; grind
theorem mid_drop_part (Z RR : List Int) (o h m : Nat) (ho : o + RR.length ≤ Z.length) (hm : h + m = RR.length) : ((mid Z o RR).drop (o + h)).take m = RR.drop h := by
  have l1 := mid_length Z RR o ho
  refine gx_ext _ _ (by simp [l1]; omega) fun j hj => ?_
  have hj' : j < m := by simp at hj; omega
  rw [gx_take _ _ _ hj', gx_drop, gx_drop, gx_mid _ _ _ _ ho, if_pos (by omega)]
  congr 1; omega
theorem no_carry {a b c P : Int} (h : a + P * c = b) (ha : 0 ≤ a) (hb : b < P) (hc0 : 0 ≤ c) (hc1 : c ≤ 1) : c = 0 := by
  rcases (show c = 0 ∨ c = 1 by omega) with e | e
  · exact e
  · subst e; omega
theorem no_lack {a b d c P : Int} (h : a + b = d + P * c) (ha : a < P) (hd : b ≤ d) (hc0 : 0 ≤ c) (hc1 : c ≤ 1) : c = 0 := by
  rcases (show c = 0 ∨ c = 1 by omega) with e | e
  · exact e
  · subst e; omega
theorem rd_take_part {w : World} {g o : Nat} {e : TypeId} {Z R : List Int} {j m : Nat} (h : Row w g e .u32 (mid Z o R)) (ho : o + R.length ≤ Z.length) (hm : j + m ≤ R.length) : Rd w (some ⟨g, o + j, none⟩) .u32 ((R.drop j).take m) := fun hx => by
  refine ⟨g, o + j, rfl, fun i hi => ?_⟩
  have hi' : i < m := by simp at hi; omega
  have := h.mid_cell ho (j + i) (by omega)
  rw [gx_take _ _ _ hi', gx_drop, Nat.add_assoc]; exact this
theorem mid_midK (Z R1 R2 : List Int) (o : Nat) (h : o + (R1.length + R2.length) ≤ Z.length) : mid (mid Z o R1) (o + R1.length) R2 = mid Z o (R1 ++ R2) := by
  have l1 := mid_length Z R1 o (by omega)
  refine gx_ext _ _ (by rw [mid_length _ _ _ (by rw [l1]; omega), l1, mid_length _ _ _ (by simp; omega)]) fun j hj => ?_
  rw [gx_mid _ _ _ _ (by rw [l1]; omega), gx_mid _ _ _ _ (by omega), gx_mid _ _ _ _ (by simp; omega), List.length_append]
  by_cases h1 : o + R1.length ≤ j ∧ j < o + R1.length + R2.length
  · rw [if_pos h1, if_pos (by omega), gx_append_right _ _ _ (by omega)]
    congr 1; omega
  · rw [if_neg h1]
    by_cases h2 : o ≤ j ∧ j < o + R1.length
    · rw [if_pos h2, if_pos (by omega), gx_append_left _ _ _ (by omega)]
    · rw [if_neg h2, if_neg (by omega)]
theorem u32_mid {Z R : List Int} {o : Nat} (hZ : U32 Z) (hR : U32 R) : U32 (mid Z o R) := u32_append (u32_append (u32_take hZ _) hR) (u32_drop hZ _)
end Go.Proofs.YtkjpeehbhmcojaaGreatDoor
