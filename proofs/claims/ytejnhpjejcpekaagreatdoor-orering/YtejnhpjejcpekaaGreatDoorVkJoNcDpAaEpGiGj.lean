/-
  ashlarlaw3.few.
-/
import Derived.Test.YtejnhpjejcpekaaGreatDoorVbDaCxRbCyViDsAeVuWxUpUqRmRpDkDlDbRiRjRgRk
import Derived.Test.YtejnhpjejcpekaaGreatDoorCuOaOfJpCwDj
import Derived.Test.YtejnhpjejcpekaaGreatDoorApAqNrNaHdNb
import Derived.Test.YtejnhpjejcpekaaGreatDoorGaGbKpGcGdGeQaQbQcQdQgQhGfGgUnWfUuByUxUtUvUwUyUzUrUsHaHbHcHeVv
import Derived.Test.YtejnhpjejcpekaaGreatDoorUaVgOnWhPn
import Derived.Deep.Slices
import Derived.Deep.DeepFit
import Derived.Test.YtejnhpjejcpekaaGreatDoorDyEoEq
import Derived.Test.YtejnhpjejcpekaaGreatDoorUlUmVsUoDmVtAfBpBnBoAh
import Derived.Test.YtejnhpjejcpekaaGreatDoorAiRzVdRtDhVeRsVfVcAjDqDrBmBqDuAkBrAl
import Derived.Test.YtejnhpjejcpekaaGreatDoorFvOi
import Derived.Test.YtejnhpjejcpekaaGreatDoorFyDdDvPmHuVyFpCdDe
namespace Go.Proofs.YtejnhpjejcpekaaGreatDoor
open Go.RowKit
set_option linter.unusedVariables false
set_option linter.unusedSimpArgs false
set_option maxHeartbeats 8000000
theorem pz_lit {W : World} {g : Nat} {e : Ent} (h0 : W.cell? ⟨g, 0, none⟩ = some (.bool e.s)) (h1 : W.cell? ⟨g, 1, none⟩ = some (.slice e.p e.n e.c)) (hr : RawE W e) : PZ W (some ⟨g, 0, none⟩) 1 1 [e] :=
  ⟨rfl, Nat.le_refl _, by decide, nofun, fun _ => ⟨g, 0, rfl, fun j hj => by
    obtain rfl : j = 0 := by simp at hj; omega
    exact ⟨h0, h1⟩⟩, fun j hj => by
    obtain rfl : j = 0 := by omega
    exact hr⟩
theorem cells_lit (w : World) (x y : Value) (t : Nat) : (w.alloc (.cells #[x, y] t)).cell? ⟨w.heap.size, 0, none⟩ = some x ∧ (w.alloc (.cells #[x, y] t)).cell? ⟨w.heap.size, 1, none⟩ = some y := ⟨by simp [go_sem], by simp [go_sem]⟩
theorem rFrom_e {w : World} {K : Nat} {z : Int} {e : Ent} (h : EV w K z e) :
    Calls Tryz.prog 12 #[.agg #[.bool e.s, .slice e.p e.n e.c]] w fun r w' => ∃ u : Ent, r = .returned (.agg #[.bool u.s, .slice u.p u.n u.c]) ∧ RE w' (2 * K) z u ∧ Go.Proofs.YtejnhpjejcpekaaGreatDoor.From w.heap.size u.p ∧ Below w.heap.size w w' := by
  obtain ⟨xs, h1, h2, h3⟩ := h
  refine (From_ansF e.s e.p e.n e.c xs w h1).mono ?_
  rintro r w1 ⟨s, p, n, d, rfl, h4, h5, h6, h7, h8⟩
  exact ⟨⟨s, p, n, n⟩, rfl, ⟨⟨d, h4, by rw [h5, h2], by show n ≤ _; omega⟩, rfl⟩, h7, h8⟩
open Go.RowKit Go.Shelf
theorem idx_mem (zs : List Int) (k i : Nat) : i ∈ idx zs k ↔ i < k ∧ ¬ gx zs i = 0 := by simp [idx]
def Behind (zs : List Int) (j : Nat) : Prop := j = 0 ∨ ∃ i, j = i + 1 ∧ ¬ gx zs i = 0
theorem Behind.le {zs : List Int} {j m : Nat} (h : Behind zs j) (e : idx zs j = idx zs m) : j ≤ m := by
  rcases h with rfl | ⟨i, rfl, hi⟩
  · exact Nat.zero_le _
  · have : i ∈ idx zs (i + 1) := (idx_mem ..).2 ⟨by omega, hi⟩
    rw [e, idx_mem] at this
    omega
open Go.ChangeShapes Go.WideShapes Go.ChangeAt Go.RowKit Go.Joins
structure RZ (w : World) (p : Option Addr) (n nc : Nat) (hs : List Hdr) : Prop where
  el : hs.length = n
  cap : n ≤ nc
  bnd : nc ≤ maxLen
  pn : p = none → nc = 0
  hl : HL w p hs
  ev : ∀ j, j < n → ∃ es, PZ w (gh hs j).p (gh hs j).n (gh hs j).c es
theorem RZ.below {w w' : World} {p : Option Addr} {n nc : Nat} {hs : List Hdr} (h : RZ w p n nc hs) (hb : Below w.heap.size w w') : RZ w' p n nc hs :=
  ⟨h.el, h.cap, h.bnd, h.pn, h.hl.below hb, fun j hj => let ⟨es, he⟩ := h.ev j hj; ⟨es, he.below hb⟩⟩
set_option maxRecDepth 100000 in
theorem polyT {H : Type} {enc : TypeId × Value → H} {W : World} {fuel : Nat} {v : Value} {x : DataW H × List MemPlace} (hf : DataW.trod enc Tryz.prog W 0 (fun _ => true) true fuel 23 [v] = some x) :
    v = (hdrOf v).val ∧ ∃ es, PZ W (hdrOf v).p (hdrOf v).n (hdrOf v).c es := by
  rcases Go.Deep.open_slice_pairs Tryz.underlying23 Tryz.underlying26 cellsI2 rfl rfl cellsB cellsUs hf with ⟨hcs, -⟩ | ⟨a, len, cap, m, k, V0, V1, D0, D1, P0, P1, hcs, -, hl, hm, hmm, -, hcell⟩
  · simp only [List.cons.injEq, and_true] at hcs
    subst hcs
    exact ⟨rfl, [], rfl, Nat.le_refl _, Nat.zero_le _, fun _ => rfl, PL.nil, fun j hj => absurd hj (Nat.not_lt_zero j)⟩
  · simp only [List.cons.injEq, and_true] at hcs
    subst hcs
    simp only [if_true] at hmm
    have hr : ∀ i, i < len → V0 i = .bool (entOf (V0 i) (V1 i)).s ∧ V1 i = .slice (entOf (V0 i) (V1 i)).p (entOf (V0 i) (V1 i)).n (entOf (V0 i) (V1 i)).c ∧ RawE W (entOf (V0 i) (V1 i)) := fun i hi => by
      obtain ⟨-, -, g0, g1⟩ := hcell i (by omega)
      exact rawCells g0 g1
    have hge : ∀ i, i < len → ge ((List.range len).map fun i => entOf (V0 i) (V1 i)) i = entOf (V0 i) (V1 i) := fun i hi => by simp [ge, hi]
    refine ⟨rfl, (List.range len).map fun i => entOf (V0 i) (V1 i), by show _ = len; simp, hl, hm, nofun, ?_, fun j (hj : j < len) => by rw [hge j hj]; exact (hr j hj).2.2⟩
    intro hp
    have hp' : 0 < len := by simpa using hp
    obtain ⟨b, off, spot⟩ := a
    have hspot : spot = none := by simpa [Addr.add] using World.cell?_spot (hcell 0 (by omega)).1
    subst hspot
    refine ⟨b, off, rfl, fun j hj => ?_⟩
    have hj' : j < len := by simpa using hj
    obtain ⟨c0, c1, -, -⟩ := hcell j (by omega)
    obtain ⟨e0, e1, -⟩ := hr j hj'
    rw [hge j hj', ← e0, ← e1]
    rw [add_plain] at c0 c1
    exact ⟨c0, c1⟩
theorem cellsP : Tryz.prog.cellsOf 23 = 1 := by kernel_rfl
theorem sliceT {H : Type} {enc : TypeId × Value → H} {W : World} {fuel : Nat} {t e : TypeId} {v : Value} {x : DataW H × List MemPlace} (ht : Tryz.prog.underlying t = some (.slice e)) (hc : Tryz.prog.cellsOf e = 1) (hf : DataW.trod enc Tryz.prog W 0 (fun _ => true) true fuel t [v] = some x)
    {E : Hdr → Prop} (hE : ∀ (fuel : Nat) (u : Value) (y : DataW H × List MemPlace), DataW.trod enc Tryz.prog W 0 (fun _ => true) true fuel e [u] = some y → u = (hdrOf u).val ∧ E (hdrOf u)) :
    v = (hdrOf v).val ∧ (hdrOf v).n ≤ (hdrOf v).c ∧ (hdrOf v).c ≤ maxLen ∧ ((hdrOf v).p = none → (hdrOf v).c = 0) ∧ ∃ hs : List Hdr, hs.length = (hdrOf v).n ∧ HL W (hdrOf v).p hs ∧ ∀ j, j < (hdrOf v).n → E (gh hs j) := by
  rcases Go.Deep.open_slice1 ht hc hf with ⟨hcs, -⟩ | ⟨a, len, cap, m, n, V, D, Pl, hcs, -, hl, hm, hmm, -, hcell⟩
  · simp only [List.cons.injEq, and_true] at hcs
    subst hcs
    exact ⟨rfl, Nat.le_refl _, Nat.zero_le _, fun _ => rfl, [], rfl, fun h => absurd h (Nat.not_lt_zero 0), fun j hj => absurd hj (Nat.not_lt_zero j)⟩
  · simp only [List.cons.injEq, and_true] at hcs
    subst hcs
    simp only [if_true] at hmm
    have hg : ∀ i, i < len → gh ((List.range len).map fun i => hdrOf (V i)) i = hdrOf (V i) := fun i hi => by simp [gh, hi]
    refine ⟨rfl, hl, hm, nofun, (List.range len).map fun i => hdrOf (V i), by show _ = len; simp, fun hp => ?_, fun j (hj : j < len) => by rw [hg j hj]; exact (hE _ _ _ (hcell j (by omega)).2).2⟩
    have hp' : 0 < len := by simpa using hp
    obtain ⟨b, off, spot⟩ := a
    have hspot : spot = none := by simpa [Addr.add] using World.cell?_spot (hcell 0 (by omega)).1
    subst hspot
    refine ⟨b, off, rfl, fun j hj => ?_⟩
    have hj' : j < len := by simpa using hj
    obtain ⟨c0, g0⟩ := hcell j (by omega)
    rw [hg j hj', ← (hE _ _ _ g0).1]
    rw [add_plain] at c0
    exact c0
theorem info_op : (Tryz.prog.info? 23).map (fun i => (i.zero, i.size, i.bytes)) = some (some (.slice none 0 0), 1, 24) := by kernel_rfl
theorem ez_cut {n E L : Nat} {w w' : World} {q : Option Addr} {m mc : Nat} {fs : List Ent} {zs : List Int} (h : PA w' L q m mc fs zs) (hm : m = min n E) (h1 : Go.Proofs.YtejnhpjejcpekaaGreatDoor.From w.heap.size q) (h2 : ∀ j, j < m → 0 < (ge fs j).n → Go.Proofs.YtejnhpjejcpekaaGreatDoor.From w.heap.size (ge fs j).p) : EZ L E w' w.heap.size w'.heap.size zs ⟨q, m, mc⟩ := by
  refine ⟨fs, h, by show m ≤ E; omega, fun a ha hn => ⟨h1 a ha, ?_⟩, fun j hj hn a ha => ⟨h2 j hj hn a ha, (lasts_EV L).lt (h.ev j hj) hn a ha⟩⟩
  obtain ⟨b, o, hp, hlt⟩ := h.pl.lt (by rw [h.el]; exact hn)
  simp only at ha
  rw [hp] at ha
  cases ha
  exact hlt
def CoP (n R E L : Nat) (w : World) (e : Ending) (w' : World) : Prop :=
  ∃ h zss, e = .returned (Hdr.val h) ∧ h.n = min n R ∧ HR R (EZ L E) w' w.heap.size w'.heap.size zss h ∧ Below w.heap.size w w'
set_option maxRecDepth 100000 in
theorem Cut8_any {w : World} {p : Option Addr} {n nc : Nat} {hs0 : List Hdr} (h : RZ w p n nc hs0) (R E L : Nat) (hR : R ≤ 1000) (hE : E ≤ 1000) (hL : L ≤ 24) :
    Calls Tryz.prog 29 #[.slice p n nc, .int .i64 R, .int .i64 E, .int .i64 L] w (CoP n (R + 1) E L w) := by
  obtain ⟨i0, hi, hzz⟩ := Option.map_eq_some_iff.1 info_op
  simp only [Prod.mk.injEq] at hzz
  obtain ⟨hz0, hz1, hz2⟩ := hzz
  have HI : Hid (Tryz.prog.info? 23 = some i0 ∧ i0.zero = some (.slice none 0 0) ∧ i0.size = 1 ∧ i0.bytes = 24) := ⟨hi, hz0, hz1, hz2⟩
  clear hi hz0 hz1 hz2
  have HX : Hid (RZ w p n nc hs0) := h
  have hnm : n ≤ 9223372036854775807 := by have h1 := h.cap; have h2 := h.bnd; unfold maxLen at h2; omega
  clear h
  go_enter Tryz.func29, Tryz.ntmps29
  go_wp2_with fail
  go_loopw [9, 10] (fun rv jv wq => ∃ (j : Nat) (rs : List Hdr) (zss : List (List Int)), j ≤ min n (R + 1) ∧ jv = .int .i64 j ∧ Hid (rs.length = j ∧ LH w.heap.size 23 (EZ L E) wq rv rs zss ∧ Below w.heap.size w wq)) (fun _ jv _ => min n (R + 1) - (intOf jv).toNat)
  case atStart => exact ⟨0, [], [], Nat.zero_le _, by go_num, rfl, LH.nil _ _ _ _, Below.refl _ _⟩
  case round =>
    obtain ⟨j, rs, zss, hj, rfl, G⟩ := hrel
    rcases Nat.lt_or_ge j (min n (R + 1)) with hlt1 | hge1
    · obtain ⟨gel, gLH, gB⟩ := G.out
      have hN := HX.out.below gB
      obtain ⟨b1, o1, hp1, hc1⟩ := hN.hl (by rw [hN.el]; omega)
      subst hp1
      have c1 := hc1 j (by rw [hN.el]; omega)
      obtain ⟨es2, hP2⟩ := hN.ev j (by omega)
      generalize gh hs0 j = hd2 at c1 hP2
      obtain ⟨p2, n2, nc2⟩ := hd2
      simp only [Hdr.val] at c1 hP2
      have j1 : (j : Int) < (n : Int) := by omega
      have j2 : (j : Int) ≤ (R : Int) := by omega
      clear gel gLH gB hc1 hN
      go_wp2_with fail
      go_fit (Cut3_any hP2 E L hE hL)
      rintro e w1 ⟨q, m, mc, fs, zs, rfl, hPA, hm, hF1, hF2, hb1⟩
      have HE : Hid (EZ L E w1 wr.heap.size w1.heap.size zs ⟨q, m, mc⟩) := ez_cut hPA hm hF1 hF2
      have hown0 := own_below G.out.2.1.own hb1
      rw [G.out.1] at hown0
      have HO : Hid (w1.ownsRow w.heap.size 23 1 u9 j (rs.map Hdr.val)) := hown0
      have hsz : w.heap.size ≤ w1.heap.size := Nat.le_trans G.out.2.2.size hb1.size
      obtain ⟨hi, hz0, hz1, hz2⟩ := HI.out
      clear hown0 hPA hm hF1 hF2 c1 hP2
      go_wp2_with (refine wpList_append_lies _ rfl _ _ 51 rfl w.heap.size 23 i0 (.slice none 0 0) 1 24 Tryz.underlying51 hi hz0 hz1 hz2 rfl (by decide) u9 j (rs.map Hdr.val) rfl (HO.out.alloc _) ⟨w1.heap.size, 0, none⟩ 1 1 [.slice q m mc] rfl rfl ?_ (fun x hx => by simp at hx; subst hx; rfl) (by decide) (by unfold maxLen; omega) (by omega) (by simp; omega) _ rfl ?_; exact World.news_of_block (heap_alloc_new w1 _); intro g cap w3 hown3 hgrow3 hat3 hlt3; have hB3 : Below w.heap.size w w3 := ((bnext' G.out.2.2 hb1).alloc hsz _).grown hgrow3 (by simp; omega) (fun q hq => (HO.out.lt q hq).1); have HA : Hid (LH w.heap.size 23 (EZ L E) w3 (.slice (some ⟨g, 0, none⟩) (j + 1) cap) (rs ++ [⟨q, m, mc⟩]) (zss ++ [zs])) := LH.app (lasts_EZ L E) G.out.1 G.out.2.1 hb1 HE.out (Nat.le_refl _) (Nat.le_refl _) G.out.2.2.size hown3 hgrow3 hat3; clear hown3 hgrow3 hat3)
      refine ⟨⟨j + 1, rs ++ [⟨q, m, mc⟩], zss ++ [zs], by omega, by go_num, by have := G.out.1; simp; omega, HA.out, hB3⟩, by simp [intOf]; omega⟩
    · obtain ⟨gel, gLH, gB⟩ := G.out
      obtain ⟨q, cap, hv, hRow⟩ := gLH.row (lasts_EZ L E) (D := R + 1) (by omega)
      subst hv
      rw [gel] at hRow ⊢
      have HR' : Hid (CoP n (R + 1) E L w (.returned (.slice q j cap)) wr) := ⟨⟨q, j, cap⟩, zss, rfl, by show j = _; omega, ⟨rs, hRow⟩, gB⟩
      have hcs : Hid (¬ j < n ∨ (j < n ∧ ¬ j ≤ R)) := by show _ ∨ _; omega
      clear gLH gB hRow G gel
      rcases hcs.out with h1 | ⟨h1, h2⟩
      · have i1 : ¬ (j : Int) < (n : Int) := by omega
        clear h1
        go_wp2
        go_ret
        exact HR'.out
      · have i1 : (j : Int) < (n : Int) := by omega
        have i2 : ¬ (j : Int) ≤ (R : Int) := by omega
        clear h1 h2
        go_wp2
        go_ret
        exact HR'.out
structure LB {α : Type} (E : World → Nat → Nat → α → Hdr → Prop) : Prop where
  go : ∀ (w w' : World) (B T : Nat) (z : α) (h : Hdr), E w B T z h → T ≤ w.heap.size → (∀ b, B ≤ b → b < T → w'.heap[b]? = w.heap[b]?) → E w' B T z h
def Lies {α : Type} (E : World → Nat → Nat → α → Hdr → Prop) (lo : Nat) (X : Nat → Prop) (w : World) (z : α) (h : Hdr) : Prop := ∃ B T, E w B T z h ∧ T ≤ w.heap.size ∧ lo ≤ B ∧ ∀ b, X b → b < B ∨ T ≤ b
section
variable {α : Type} {E : World → Nat → Nat → α → Hdr → Prop} {lo : Nat} {X Y : Nat → Prop} {w w' : World} {z : α} {h : Hdr}
theorem Lies.below (k : Lies E lo X w z h) (L : LB E) (hb : Below w.heap.size w w') : Lies E lo X w' z h := by
  obtain ⟨B, T, h1, h2, h3, h4⟩ := k
  exact ⟨B, T, L.go _ _ _ _ _ _ h1 h2 fun b _ hb' => hb.block b (by omega), Nat.le_trans h2 hb.size, h3, h4⟩
end
def NumX (K lo : Nat) (X : Nat → Prop) (w : World) (y : Int) (u : Ent) : Prop := EV w K y u ∧ (0 < u.n → ∀ a, u.p = some a → lo ≤ a.block ∧ ¬ X a.block)
section
variable {K lo : Nat} {X Y : Nat → Prop} {w w' : World} {y : Int} {u : Ent}
theorem NumX.below (k : NumX K lo X w y u) (hb : Below w.heap.size w w') : NumX K lo X w' y u := ⟨k.1.below hb, k.2⟩
theorem NumX.add (k : NumX K lo X w y u) {c : Nat} (hc : w.heap.size ≤ c) : NumX K lo (fun b => X b ∨ b = c) w y u := ⟨k.1, fun hn a ha => ⟨(k.2 hn a ha).1, fun h => by
  rcases h with h | h
  · exact (k.2 hn a ha).2 h
  · have := (lasts_EV K).lt k.1 hn a ha
    omega⟩⟩
theorem NumX.sub (k : NumX K lo X w y u) (hs : ∀ b, Y b → X b) : NumX K lo Y w y u := ⟨k.1, fun hn a ha => ⟨(k.2 hn a ha).1, fun h => (k.2 hn a ha).2 (hs _ h)⟩⟩
end
def One (w : World) (b o : Nat) (u : Ent) : Prop := w.cell? ⟨b, o, none⟩ = some (.bool u.s) ∧ w.cell? ⟨b, o + 1, none⟩ = some (.slice u.p u.n u.c)
theorem One.below {w w' : World} {b o : Nat} {u : Ent} (h : One w b o u) (hb : Below w.heap.size w w') : One w' b o u := ⟨cell_later hb h.1, cell_later hb h.2⟩
def Ax.one (K lo : Nat) : Ax := ⟨fun X v w => ∃ b o c u y, v = .slice (some ⟨b, o, none⟩) 1 c ∧ One w b o u ∧ NumX K lo X w y u, fun ⟨b, o, c, u, y, a, h, k⟩ hb => ⟨b, o, c, u, y, a, h.below hb, k.below hb⟩, fun ⟨b, o, c, u, y, a, h, k⟩ hc => ⟨b, o, c, u, y, a, h, k.add hc⟩, fun ⟨b, o, c, u, y, a, h, k⟩ hs => ⟨b, o, c, u, y, a, h, k.sub hs⟩⟩
abbrev EOp (D E K : Nat) := HR D (EZ K E)
theorem lOp (D E K : Nat) : LB (EOp D E K) := ⟨fun _ _ _ _ _ _ a b c => lastsB_HR (E := EZ K E) (fun a b c => lastsB_EZ K E a b c) a b c⟩
section
variable {w v : World} {lo : Nat} {X : Nat → Prop}
theorem cut1_ax {b : Nat} {e : Ent} (hr : RawE w e) (hb : Below w.heap.size w v) (c0 : v.cell? ⟨b, 0, none⟩ = some (.bool e.s)) (c1 : v.cell? ⟨b, 1, none⟩ = some (.slice e.p e.n e.c)) (hX : ∀ c, X c → c < v.heap.size) (hlo : lo ≤ v.heap.size) (L : Nat) (hL : L ≤ 24) :
    Calls Tryz.prog 11 #[.slice (some ⟨b, 0, none⟩) 1 1, .int .i64 1, .int .i64 L] v fun e w' => ∃ u, e = .returned u ∧ (Ax.one L lo).is X u w' ∧ Below v.heap.size v w' := by
  refine (Cut3_any (pz_lit c0 c1 (hr.below hb)) 1 L (by decide) hL).mono ?_
  rintro r w' ⟨q2, n2, mc2, fs2, zs2, rfl, hP2, hm2, hF4, hG4, hb2⟩
  obtain rfl : n2 = 1 := hm2
  obtain ⟨b2, c2, hq2, hc2⟩ := hP2.pl (by rw [hP2.el]; decide)
  subst hq2
  obtain ⟨i0, i1⟩ := hc2 0 (by rw [hP2.el]; decide)
  rw [Nat.zero_mul, Nat.add_zero] at i0 i1
  exact ⟨_, rfl, ⟨b2, c2, mc2, _, _, rfl, ⟨i0, i1⟩, hP2.ev 0 (by decide), fun hn a ha => by
    have h1 := hG4 0 (by decide) hn a ha
    exact ⟨by omega, fun h => by have := hX _ h; omega⟩⟩, hb2⟩
end
theorem block_kept {W W' : World} {row : Option Nat} {b : Nat} {cs : Array Value} {t : TypeId} {x : Nat × Nat} (h : W.heap[b]? = some (.cells cs t x)) (hg : W.grownBy W' row) (hr : ∀ r, row = some r → ∃ o : Obj, W.heap[r]? = some o ∧ o.isCells = false) : W'.heap[b]? = some (.cells cs t x) := by
  refine (hg.block b (Array.getElem?_eq_some_iff.1 h).1 fun e => ?_).trans h
  obtain ⟨o, ho, hc⟩ := hr b (by first | exact e | exact e.symm)
  rw [h] at ho
  cases ho
  cases hc
theorem NV.same {B : Nat} {V V' : World} {K : Nat} {z : Int} {e : Ent} (h : NV B V K z e) (hs : V.heap.size ≤ V'.heap.size) (hb : 0 < e.n → ∀ a, e.p = some a → V'.heap[a.block]? = V.heap[a.block]?) : NV B V' K z e := by
  obtain ⟨xs, k, h2⟩ := h
  rcases Nat.eq_zero_or_pos e.n with h0 | h0
  · have hp := k.pn h0
    refine ⟨xs, ⟨k.len, fun hx => ?_, k.u, k.nrm, k.sg, k.pn, k.v, k.fr, fun a ha => ?_⟩, h2⟩
    · rw [k.len] at hx
      omega
    · rw [hp] at ha
      cases ha
  · refine ⟨xs, ⟨k.len, k.rd.same fun a ha _ => hb h0 a ha, k.u, k.nrm, k.sg, k.pn, k.v, k.fr, fun a ha => ⟨Nat.lt_of_lt_of_le (k.fz a ha).1 hs, fun i => ?_⟩⟩, h2⟩
    have h4 := (k.fz a ha).2 i
    have h3 := hb h0 a ha
    simp only [World.frozen?] at h4 ⊢
    rw [h3]
    exact h4
theorem NV.offc {B : Nat} {V : World} {K : Nat} {z : Int} {e : Ent} (h : NV B V K z e) {g : Nat} (hc : ∀ (o : Nat) (y : Int), V.cell? ⟨g, o, none⟩ ≠ some (.int .u32 y)) : 0 < e.n → ∀ a, e.p = some a → a.block ≠ g := fun hn a ha hg => by
  obtain ⟨xs, k, h2⟩ := h
  have hx : 0 < xs.length := by rw [k.len]; exact hn
  obtain ⟨b, o, hp, hcl⟩ := k.rd hx
  rw [hp] at ha
  cases ha
  simp only at hg
  subst hg
  exact hc _ _ (hcl 0 hx)
theorem row2_no {V : World} {g : Nat} {t : TypeId} {es : List Ent} (h : Row2 V g t es) : ∀ (o : Nat) (y : Int), V.cell? ⟨g, o, none⟩ ≠ some (.int .u32 y) := fun o y hc => by
  have h1 := cell_of_row V g o _ t (0, 0) h
  rw [h1] at hc
  have hlt : o < (ca2 es).size := (Array.getElem?_eq_some_iff.1 hc).1
  rw [size_ca2] at hlt
  obtain ⟨j, hj⟩ : ∃ j, o = j * 2 ∨ o = j * 2 + 1 := ⟨o / 2, by omega⟩
  have hj' : j < es.length := by omega
  obtain ⟨f0, f1⟩ := flat_get es j hj'
  simp only [ca2, List.getElem?_toArray] at hc
  rcases hj with hj | hj
  · rw [hj, f0] at hc
    cases hc
  · rw [hj, f1] at hc
    cases hc
theorem var2_no {V : World} {g : Nat} {s : Bool} {p : Option Addr} {n c : Nat} {t : TypeId} (h : V.heap[g]? = some (.cells #[.bool s, .slice p n c] t)) : ∀ (o : Nat) (y : Int), V.cell? ⟨g, o, none⟩ ≠ some (.int .u32 y) := fun o y hc => by
  match o, hc with
  | 0, hc => simp [World.cell?, h, go_sem] at hc
  | 1, hc => simp [World.cell?, h, go_sem] at hc
  | o + 2, hc => simp [World.cell?, h, go_sem] at hc
theorem var1_no {V : World} {g : Nat} {i : Int} {t : TypeId} (h : V.heap[g]? = some (.cells #[.int .i64 i] t)) : ∀ (o : Nat) (y : Int), V.cell? ⟨g, o, none⟩ ≠ some (.int .u32 y) := fun o y hc => by
  match o, hc with
  | 0, hc => simp [World.cell?, h, go_sem] at hc
  | o + 1, hc => simp [World.cell?, h, go_sem] at hc
structure DiV (w : World) (gq gr go gp ga : Nat) (e : Ent) (q : Int) (L K m k i : Nat) (xs : List Int) (up : Ent) (es : List Ent) (V : World) : Prop where
  bw : Below w.heap.size w V
  hq : V.heap[gq]? = some (.cells #[.bool e.s, .slice e.p e.n e.c] 26)
  ho : V.heap[go]? = some (.cells #[.slice (some ⟨gr, 0, none⟩) m m] 23)
  hp : V.heap[gp]? = some (.cells #[.bool up.s, .slice up.p up.n up.c] 26)
  ha : V.heap[ga]? = some (.cells #[.int .i64 i] 3)
  hr : Row2 V gr 26 es
  el : es.length = m
  pv : NV w.heap.size V (L * i + 1) (q ^ i) up
  ev : ∀ j, j < m → NV w.heap.size V (K + L * 17 + 1) (if j < k then dl q xs j else 0) (ge es j)
theorem DiV.held {w : World} {gq gr go gp ga : Nat} {e : Ent} {q : Int} {L K m k i : Nat} {xs : List Int} {up : Ent} {es : List Ent} {V V' : World} {row : Option Nat} (h : DiV w gq gr go gp ga e q L K m k i xs up es V) (hb : Below w.heap.size w V') (hg : V.grownBy V' row) (hr : ∀ r, row = some r → ∃ o : Obj, V.heap[r]? = some o ∧ o.isCells = false) : DiV w gq gr go gp ga e q L K m k i xs up es V' :=
  ⟨hb, block_kept h.hq hg hr, block_kept h.ho hg hr, block_kept h.hp hg hr, block_kept h.ha hg hr, block_kept h.hr hg hr, h.el, h.pv.held hg hr, fun j hj => (h.ev j hj).held hg hr⟩
theorem DiV.later {w : World} {gq gr go gp ga : Nat} {e : Ent} {q : Int} {L K m k i : Nat} {xs : List Int} {up : Ent} {es : List Ent} {V V' : World} (h : DiV w gq gr go gp ga e q L K m k i xs up es V) (hb : Below V.heap.size V V') : DiV w gq gr go gp ga e q L K m k i xs up es V' :=
  h.held (h.bw.trans (hb.mono h.bw.size)) (grownBy_below hb none) (fun _ e => by cases e)
section
variable {w : World} {gq gr go gp ga : Nat} {e : Ent} {q : Int} {L K m k i j : Nat} {xs : List Int} {up : Ent} {es : List Ent} {V : World}
theorem DiV.move (h : DiV w gq gr go gp ga e q L K m k i xs up es V) (hd : w.heap.size ≤ gq ∧ gq < gr ∧ gr < go ∧ go < gp ∧ gp < ga) {u : Ent} (hu : NV w.heap.size V (L * j + 1) (q ^ j) u) :
    DiV w gq gr go gp ga e q L K m k j xs u es (((V.setCell ⟨gp, 0, none⟩ (.bool u.s)).setCell ⟨gp, 1, none⟩ (.slice u.p u.n u.c)).setCell ⟨ga, 0, none⟩ (.int .i64 j)) := by
  obtain ⟨d0, d1, d2, d3, d4⟩ := hd
  have o2 : ∀ b, b ≠ gp → ((V.setCell ⟨gp, 0, none⟩ (.bool u.s)).setCell ⟨gp, 1, none⟩ (.slice u.p u.n u.c)).heap[b]? = V.heap[b]? := fun b hb => (heap_setCell_other _ ⟨gp, 1, none⟩ b _ hb).trans (heap_setCell_other _ ⟨gp, 0, none⟩ b _ hb)
  have o3 : ∀ b, b ≠ gp → b ≠ ga → (((V.setCell ⟨gp, 0, none⟩ (.bool u.s)).setCell ⟨gp, 1, none⟩ (.slice u.p u.n u.c)).setCell ⟨ga, 0, none⟩ (.int .i64 j)).heap[b]? = V.heap[b]? := fun b hb hb' => (heap_setCell_other _ ⟨ga, 0, none⟩ b _ hb').trans (o2 b hb)
  have nvs : ∀ {M : Nat} {z : Int} {f : Ent}, NV w.heap.size V M z f → NV w.heap.size (((V.setCell ⟨gp, 0, none⟩ (.bool u.s)).setCell ⟨gp, 1, none⟩ (.slice u.p u.n u.c)).setCell ⟨ga, 0, none⟩ (.int .i64 j)) M z f := fun {M z f} hf =>
    hf.same (by simp [World.setCell]) fun hn a ha => o3 _ (hf.offc (var2_no h.hp) hn a ha) (hf.offc (var1_no h.ha) hn a ha)
  refine ⟨?_, (o3 _ (by omega) (by omega)).trans h.hq, (o3 _ (by omega) (by omega)).trans h.ho, ?_, ?_, (o3 _ (by omega) (by omega)).trans h.hr, h.el, nvs hu, fun j hj => nvs (h.ev j hj)⟩
  · exact ((h.bw.setCell (p := ⟨gp, 0, none⟩) (by show _ ≤ gp; omega) _).setCell (p := ⟨gp, 1, none⟩) (by show _ ≤ gp; omega) _).setCell (p := ⟨ga, 0, none⟩) (by show _ ≤ ga; omega) _
  · refine (heap_setCell_other _ ⟨ga, 0, none⟩ gp _ (by show gp ≠ ga; omega)).trans ?_
    have h1 := heap_setCell_same V gp 0 _ 26 (.bool u.s) h.hp
    have h2 := heap_setCell_same _ gp 1 _ 26 (.slice u.p u.n u.c) h1
    rw [h2]
    rfl
  · have h1 := heap_setCell_same ((V.setCell ⟨gp, 0, none⟩ (.bool u.s)).setCell ⟨gp, 1, none⟩ (.slice u.p u.n u.c)) ga 0 _ 3 (.int .i64 j) ((o2 ga (by omega)).trans h.ha)
    rw [h1]
    rfl
theorem DiV.put (h : DiV w gq gr go gp ga e q L K m k j xs up es V) (hd : w.heap.size ≤ gq ∧ gq < gr ∧ gr < go ∧ go < gp ∧ gp < ga) (hj : j < m) (hk : k ≤ j) (hz : ∀ t, k ≤ t → t < j → dl q xs t = 0) {u : Ent} (hu : NV w.heap.size V (K + L * 17 + 1) (dl q xs j) u) :
    DiV w gq gr go gp ga e q L K m (j + 1) j xs up (es.set j u) ((V.setCell ⟨gr, j * 2, none⟩ (.bool u.s)).setCell ⟨gr, j * 2 + 1, none⟩ (.slice u.p u.n u.c)) := by
  obtain ⟨d0, d1, d2, d3, d4⟩ := hd
  have o2 : ∀ b, b ≠ gr → ((V.setCell ⟨gr, j * 2, none⟩ (.bool u.s)).setCell ⟨gr, j * 2 + 1, none⟩ (.slice u.p u.n u.c)).heap[b]? = V.heap[b]? := fun b hb => (heap_setCell_other _ ⟨gr, j * 2 + 1, none⟩ b _ hb).trans (heap_setCell_other _ ⟨gr, j * 2, none⟩ b _ hb)
  have nvs : ∀ {M : Nat} {z : Int} {f : Ent}, NV w.heap.size V M z f → NV w.heap.size ((V.setCell ⟨gr, j * 2, none⟩ (.bool u.s)).setCell ⟨gr, j * 2 + 1, none⟩ (.slice u.p u.n u.c)) M z f := fun {M z f} hf =>
    hf.same (by simp [World.setCell]) fun hn a ha => o2 _ (hf.offc (row2_no h.hr) hn a ha)
  refine ⟨?_, (o2 _ (by omega)).trans h.hq, (o2 _ (by omega)).trans h.ho, (o2 _ (by omega)).trans h.hp, (o2 _ (by omega)).trans h.ha, h.hr.set j u (by rw [h.el]; exact hj), by simp [h.el], nvs h.pv, fun t ht => ?_⟩
  · exact (h.bw.setCell (p := ⟨gr, j * 2, none⟩) (by show _ ≤ gr; omega) _).setCell (p := ⟨gr, j * 2 + 1, none⟩) (by show _ ≤ gr; omega) _
  · by_cases hjt : t = j
    · subst hjt
      rw [if_pos (by omega), ge_set_same _ _ _ (by rw [h.el]; exact hj)]
      exact nvs hu
    · rw [ge_set_other _ _ _ _ hjt]
      have h1 := nvs (h.ev t ht)
      rcases Nat.lt_or_ge t k with hlt | hge
      · rw [if_pos hlt] at h1
        rw [if_pos (by omega)]
        exact h1
      · rw [if_neg (by omega)] at h1
        rcases Nat.lt_or_ge t j with hlt2 | hge2
        · rw [if_pos (by omega), hz t hge hlt2]
          exact h1
        · rw [if_neg (by omega)]
          exact h1
end
def DI (w : World) (gq gr go gp ga : Nat) (e : Ent) (q : Int) (L K m N0 : Nat) (xs : List Int) (pre : List (Nat × Ent)) (V : World) : Prop :=
  ∃ k i up es, DiV w gq gr go gp ga e q L K m k i xs up es V ∧ N0 ≤ V.heap.size ∧ Behind xs k ∧ pre.map (·.1) = idx xs k ∧ i = k - 1 ∧ k ≤ m
theorem DI.own {w : World} {gq gr go gp ga : Nat} {e : Ent} {q : Int} {L K m N0 : Nat} {xs : List Int} {B : Nat} (hB : w.heap.size ≤ B) : OwnFrom B (DI w gq gr go gp ga e q L K m N0 xs) := fun pre V V' row h hg hr => by
  obtain ⟨k, i, up, es, hd, hs, h2⟩ := h
  exact ⟨k, i, up, es, hd.held (ownFrom_below (Nat.le_refl _) hB () V V' row hd.bw hg hr) hg (fun r e => (hr r e).2), Nat.le_trans hs hg.size, h2⟩
theorem DI.later {w : World} {gq gr go gp ga : Nat} {e : Ent} {q : Int} {L K m N0 : Nat} {xs : List Int} {pre : List (Nat × Ent)} {V V' : World} (h : DI w gq gr go gp ga e q L K m N0 xs pre V) (hb : Below V.heap.size V V') : DI w gq gr go gp ga e q L K m N0 xs pre V' := by
  obtain ⟨k, i, up, es, hd, hs, h2⟩ := h
  exact ⟨k, i, up, es, hd.later hb, Nat.le_trans hs hb.size, h2⟩
def DA (w : World) (gq gr go gp ga : Nat) (e : Ent) (q : Int) (L K m N0 : Nat) (xs : List Int) (B0 : Nat) (pre : List (Nat × Ent)) (x : Nat × Ent) (b : Nat) (V : World) : Prop :=
  DI w gq gr go gp ga e q L K m N0 xs pre V ∧ Told xs m K B0 pre x V ∧ V.heap[b]? = some (.cells #[.bool x.2.s, .slice x.2.p x.2.n x.2.c] 26) ∧ B0 ≤ b
theorem DA.own {w : World} {gq gr go gp ga : Nat} {e : Ent} {q : Int} {L K m N0 : Nat} {xs : List Int} {B B0 : Nat} (hB : w.heap.size ≤ B) (pre : List (Nat × Ent)) (x : Nat × Ent) (b : Nat) : OwnFrom B fun (_ : Unit) V => DA w gq gr go gp ga e q L K m N0 xs B0 pre x b V := fun _ V V' row h hg hr =>
  ⟨DI.own hB pre V V' row h.1 hg hr, told_own B xs m K B0 pre x () V V' row h.2.1 hg hr, block_kept h.2.2.1 hg fun r e => (hr r e).2, h.2.2.2⟩
theorem keeps_below' {V V' : World} (hb : Below V.heap.size V V') : KeepsOthers V V' := KeepsOthers.of_grownBy (row := none) (grownBy_below hb none) (fun _ _ e => by cases e)
end Go.Proofs.YtejnhpjejcpekaaGreatDoor
