/-
  Polynomials of the reference: Trim.
-/
import Derived.Test.YtejnhpjejcpekaaGreatDoorNiUa
import Derived.Test.YtejnhpjejcpekaaGreatDoorRfRhCqRrRw
import Derived.Test.YtejnhpjejcpekaaGreatDoorUbUcUdOwRaWmBe
namespace Go.Proofs.YtejnhpjejcpekaaGreatDoor
open Go.RowKit
set_option linter.unusedVariables false
set_option linter.unusedSimpArgs false
set_option maxHeartbeats 8000000
def RE (w : World) (N : Nat) (z : Int) (e : Ent) : Prop := RV w N z e.s e.p e.n ∧ e.c = e.n
structure PR (w : World) (N : Nat) (p : Option Addr) (n nc : Nat) (es : List Ent) (zs : List Int) : Prop where
  el : es.length = n
  zl : zs.length = n
  cap : n ≤ nc
  bnd : nc ≤ maxLen
  pl : PL w p es
  ev : ∀ j, j < n → RE w N (gx zs j) (ge es j)
section
variable {w w' : World} {N : Nat} {z : Int} {e : Ent} {p : Option Addr} {n nc : Nat} {es : List Ent} {zs : List Int}
theorem RE.below (h : RE w N z e) (hb : Below w.heap.size w w') : RE w' N z e := ⟨h.1.below hb, h.2⟩
theorem RE.drew (h : RE w N z e) : RE w.drew N z e := ⟨h.1.drew, h.2⟩
theorem PR.below (h : PR w N p n nc es zs) (hb : Below w.heap.size w w') : PR w' N p n nc es zs := ⟨h.el, h.zl, h.cap, h.bnd, h.pl.below hb, fun j hj => (h.ev j hj).below hb⟩
theorem PR.drew (h : PR w N p n nc es zs) : PR w.drew N p n nc es zs := ⟨h.el, h.zl, h.cap, h.bnd, h.pl.drew, fun j hj => (h.ev j hj).drew⟩
theorem PR.take (h : PR w N p n nc es zs) (m c : Nat) (hm : m ≤ n) (hc : m ≤ c) (hc' : c ≤ nc) : PR w N p m c (es.take m) (zs.take m) :=
  ⟨by have := h.el; simp; omega, by have := h.zl; simp; omega, hc, Nat.le_trans hc' h.bnd, h.pl.take m, fun j hj => by rw [gx_take _ _ _ hj, ge_take _ _ _ hj]; exact h.ev j (by omega)⟩
theorem rSign_e (h : RE w N z e) : Calls Tryz.prog 102 #[.agg #[.bool e.s, .slice e.p e.n e.c]] w fun r w' => r = .returned (.int .i64 (isgn z)) ∧ Below w.heap.size w w' := by
  obtain ⟨⟨ds, h1, rfl, h3⟩, h4⟩ := h
  rw [h4]
  exact rSign_any e.s e.p e.n e.n ds w h1.u h1.nrm
end
theorem rTrim_any (N : Nat) (p : Option Addr) (n nc : Nat) (es : List Ent) (zs : List Int) (w : World) (h : PR w N p n nc es zs) (hn : n ≤ 1000000) :
    Calls Tryz.prog 42 #[.slice p n nc] w fun e w' => e = .returned (.slice p (tlen zs) (tlen zs)) ∧ Below w.heap.size w w' := by
  have hle := h.el
  go_enter Tryz.func42, Tryz.ntmps42
  go_wp2
  go_loopw [3] (fun nv wr => ∃ k : Nat, k ≤ n ∧ nv = .int .i64 k ∧ Hid ((∀ j, k ≤ j → gx zs j = 0) ∧ Below w.heap.size w wr)) (fun nv _ => (intOf nv).toNat)
  case atStart => exact ⟨n, Nat.le_refl _, by go_num, fun j hj => gx_past zs n (by rw [h.zl]; exact Nat.le_refl _) j hj, Below.refl _ _⟩
  case round =>
    obtain ⟨k, hk, rfl, H⟩ := hrel
    rcases Nat.eq_zero_or_pos k with h0 | h0
    · subst h0
      have HT : Hid (tlen zs = 0) := tlen_eq zs 0 (fun j _ => H.out.1 j (Nat.zero_le _)) (.inl rfl)
      go_wp2
      go_ret
      exact ⟨by rw [HT.out]; rfl, H.out.2⟩
    · obtain ⟨i, rfl⟩ : ∃ i, k = i + 1 := ⟨k - 1, by omega⟩
      obtain ⟨H1, H2⟩ := H.out
      have HH : Hid ((∀ j, i + 1 ≤ j → gx zs j = 0) ∧ Below w.heap.size w wr) := ⟨H1, H2⟩
      have hw := h.below H2
      obtain ⟨b, o, hp, hc⟩ := hw.pl (by omega)
      subst hp
      obtain ⟨c0, c1⟩ := hc i (by omega)
      have hv := hw.ev i (by omega)
      have hcap := h.cap
      have hbnd := h.bnd
      unfold maxLen at hbnd
      clear H H1 H2 hc
      go_wp2_with fail
      refine (rSign_e hv).mono ?_
      rintro e w1 ⟨rfl, hb1⟩
      have hB := bnext' HH.out.2 hb1
      have hcs : Hid (gx zs i = 0 ∨ ¬ gx zs i = 0) := Classical.em _
      rcases hcs.out with hz | hz
      · rw [isgn_zero hz]
        have HZ : Hid (gx zs i = 0) := hz
        clear hz hcs c0 c1 hv
        go_wp2
        go_roundw
        case rel => exact ⟨i, by omega, by go_num, fun j hj => by
          rcases Nat.lt_or_ge i j with h | h
          · exact HH.out.1 j h
          · have : j = i := by omega
            subst this; exact HZ.out, hB⟩
        case measure => simp [intOf]
      · have HT : Hid (tlen zs = i + 1) := tlen_eq zs (i + 1) HH.out.1 (.inr hz)
        have hi : isgn (gx zs i) = 1 ∨ isgn (gx zs i) = -1 := by
          rcases (show 0 < gx zs i ∨ gx zs i < 0 by omega) with h | h
          · exact .inl (isgn_pos h)
          · exact .inr (isgn_neg h)
        clear hz hcs c0 c1 hv
        rcases hi with hi | hi
        all_goals
          rw [hi]
          clear hi
          go_wp2
          go_ret
          exact ⟨by rw [HT.out]; rfl, hB⟩
structure Lasts (E : World → Int → Ent → Prop) : Prop where
  grown : ∀ {w w' : World} {z : Int} {e : Ent} {row : Option Nat}, E w z e → w.grownBy w' row → (0 < e.n → ∀ a, e.p = some a → some a.block ≠ row) → E w' z e
  lt : ∀ {w : World} {z : Int} {e : Ent}, E w z e → 0 < e.n → ∀ a, e.p = some a → a.block < w.heap.size
theorem Lasts.below {E : World → Int → Ent → Prop} (L : Lasts E) {w w' : World} {z : Int} {e : Ent} (h : E w z e) (hb : Below w.heap.size w w') : E w' z e := L.grown h (grownBy_below hb none) (fun _ _ _ e => by cases e)
theorem rd_grown {w w' : World} {p : Option Addr} {k : IntKind} {xs : List Int} {row : Option Nat} (h : Rd w p k xs) (hg : w.grownBy w' row) (hne : 0 < xs.length → ∀ a, p = some a → some a.block ≠ row) : Rd w' p k xs := fun hx => h.kept hg (hne hx) hx
theorem rd_lt {w : World} {p : Option Addr} {k : IntKind} {xs : List Int} (h : Rd w p k xs) (hx : 0 < xs.length) : ∀ a, p = some a → a.block < w.heap.size := fun a ha => by
  obtain ⟨b, off, hp, hlt⟩ := h.lt hx
  rw [hp] at ha
  cases ha
  exact hlt
theorem lasts_EV (K : Nat) : Lasts (fun w z e => EV w K z e) := ⟨fun h hg hne => by
    obtain ⟨xs, h1, h2⟩ := h
    exact ⟨xs, ⟨h1.len, h1.cap, h1.bnd, h1.sml, rd_grown h1.rd hg (by rw [h1.len]; exact hne), h1.u⟩, h2⟩, fun h hn => by
    obtain ⟨xs, h1, h2⟩ := h
    exact rd_lt h1.rd (by rw [h1.len]; exact hn)⟩
def fl (es : List Ent) : List Value := es.flatMap fun e => [.bool e.s, .slice e.p e.n e.c]
theorem fl_snoc (es : List Ent) (e : Ent) : fl (es ++ [e]) = fl es ++ [.bool e.s, .slice e.p e.n e.c] := by simp [fl]
structure LG (base : Nat) (t : TypeId) (E : World → Int → Ent → Prop) (w : World) (v : Value) (es : List Ent) (zs : List Int) : Prop where
  own : w.ownsRow base t 2 v es.length (fl es)
  zl : zs.length = es.length
  ev : ∀ j, j < es.length → E w (gx zs j) (ge es j)
  off : ∀ j, j < es.length → 0 < (ge es j).n → ∀ a, (ge es j).p = some a → some a.block ≠ v.ownBlock
theorem LG.nil (base : Nat) (t : TypeId) (E : World → Int → Ent → Prop) (w : World) : LG base t E w (.slice none 0 0) [] [] := ⟨World.ownsRow_nil _ _ _ _, rfl, fun j hj => by simp at hj, fun j hj => by simp at hj⟩
theorem own_below {w w' : World} {base : Nat} {t : TypeId} {sz : Nat} {v : Value} {n : Nat} {xs : List Value} (h : w.ownsRow base t sz v n xs) (hb : Below w.heap.size w w') : w'.ownsRow base t sz v n xs :=
  h.kept (grownBy_below hb none) (Classical.em _)
theorem LG.below {base : Nat} {t : TypeId} {E : World → Int → Ent → Prop} (L : Lasts E) {w w' : World} {v : Value} {es : List Ent} {zs : List Int} (h : LG base t E w v es zs) (hb : Below w.heap.size w w') : LG base t E w' v es zs :=
  ⟨own_below h.own hb, h.zl, fun j hj => L.below (h.ev j hj) hb, h.off⟩
theorem LG.app {base : Nat} {t : TypeId} {E : World → Int → Ent → Prop} (L : Lasts E) {wr w1 w3 : World} {v : Value} {es : List Ent} {zs : List Int} {z : Int} {e : Ent} {o : Obj} {g cap k : Nat} (hk : es.length = k) (h : LG base t E wr v es zs) (hb1 : Below wr.heap.size wr w1) (hE : E w1 z e) (hF : 0 < e.n → ∀ a, e.p = some a → a.block < base ∨ wr.heap.size ≤ a.block)
    (hown : w3.ownsRow base t 2 (.slice (some ⟨g, 0, none⟩) (k + 1) cap) (k + 1) (fl es ++ [.bool e.s, .slice e.p e.n e.c])) (hgrow : (w1.alloc o).grownBy w3 v.ownBlock) (hat : v.ownBlock = some g ∨ g = (w1.alloc o).heap.size) :
    LG base t E w3 (.slice (some ⟨g, 0, none⟩) (k + 1) cap) (es ++ [e]) (zs ++ [z]) := by
  subst hk
  have hal : Below w1.heap.size w1 (w1.alloc o) := (Below.refl _ _).alloc (Nat.le_refl _) o
  have hs1 := hb1.size
  have hs2 := hal.size
  have old : ∀ j, j < es.length → E (w1.alloc o) (gx zs j) (ge es j) := fun j hj => L.below (L.below (h.ev j hj) hb1) hal
  have new : E (w1.alloc o) z e := L.below hE hal
  have noff : 0 < e.n → ∀ a, e.p = some a → some a.block ≠ v.ownBlock := fun hn a ha hq => by
    have h1 := (h.own.lt a.block hq.symm)
    have h2 := hF hn a ha
    omega
  refine ⟨by rw [List.length_append, fl_snoc]; exact hown, by simp [h.zl], fun j hj => ?_, fun j hj hn a ha hq => ?_⟩
  · rcases Nat.lt_or_ge j es.length with hlt | hge
    · rw [ge_append_left _ _ _ hlt, gx_append_left _ _ _ (by rw [h.zl]; exact hlt)]
      exact L.grown (old j hlt) hgrow (h.off j hlt)
    · have : j = es.length := by simp at hj; omega
      subst this
      have e1 : gx (zs ++ [z]) es.length = z := by rw [← h.zl, gx_append_right _ _ _ (Nat.le_refl _), Nat.sub_self]; rfl
      rw [ge_snoc, e1]
      exact L.grown new hgrow noff
  · have hq' : a.block = g := Option.some.inj hq
    rcases Nat.lt_or_ge j es.length with hlt | hge
    · rw [ge_append_left _ _ _ hlt] at hn ha
      rcases hat with h1 | h1
      · exact h.off j hlt hn a ha (by rw [h1, hq'])
      · have := L.lt (old j hlt) hn a ha
        omega
    · have : j = es.length := by simp at hj; omega
      subst this
      rw [ge_snoc] at hn ha
      rcases hat with h1 | h1
      · exact noff hn a ha (by rw [h1, hq'])
      · have := L.lt new hn a ha
        omega
theorem owns2_form {w : World} {B n : Nat} {t : TypeId} {v : Value} {xs : List Value} (h : w.ownsRow B t 2 v n xs) : ∃ q cap, v = .slice q n cap ∧ n ≤ cap ∧ cap ≤ maxLen ∧ Go.Proofs.YtejnhpjejcpekaaGreatDoor.From B q ∧ (q = none → cap = 0) := by
  rcases h.2 with ⟨h1, h2⟩ | ⟨g, cap, cur, h1, h2, h3, h4, h5, _⟩
  · exact ⟨none, 0, by rw [h1, h2], by omega, Nat.zero_le _, nofun, fun _ => rfl⟩
  · exact ⟨_, cap, h1, h4, h5, fun a ha => (by cases ha; exact h2), nofun⟩
theorem owns2_pl {w : World} {B cap : Nat} {t : TypeId} {q : Option Addr} {es : List Ent} (h : w.ownsRow B t 2 (.slice q es.length cap) es.length (fl es)) : PL w q es := fun hx => by
  obtain ⟨g, cap', h1, h2, _⟩ := h.form hx
  cases h1
  refine ⟨g, 0, rfl, fun j hj => ?_⟩
  obtain ⟨f0, f1⟩ := flat_get es j hj
  have e0 := h.cells (g := g) rfl (j * 2) _ f0
  have e1 := h.cells (g := g) rfl (j * 2 + 1) _ f1
  rw [Addr.add_mid] at e0 e1
  exact ⟨e0, e1⟩
theorem LG.pl {base : Nat} {t : TypeId} {E : World → Int → Ent → Prop} {w : World} {v : Value} {es : List Ent} {zs : List Int} (h : LG base t E w v es zs) : ∃ q cap, v = .slice q es.length cap ∧ es.length ≤ cap ∧ cap ≤ maxLen ∧ PL w q es ∧ Go.Proofs.YtejnhpjejcpekaaGreatDoor.From base q ∧ (q = none → cap = 0) := by
  obtain ⟨q, cap, h1, h2, h3, h4, h5⟩ := owns2_form h.own
  have ho := h.own
  rw [h1] at ho
  exact ⟨q, cap, h1, h2, h3, owns2_pl ho, h4, h5⟩
theorem take_snocg (xs : List Int) (k : Nat) (h : k < xs.length) : xs.take (k + 1) = xs.take k ++ [gx xs k] := by
  rw [gx_mem xs k h, List.take_succ_eq_append_getElem h]
theorem lg_app {base : Nat} {t : TypeId} {E : World → Int → Ent → Prop} (L : Lasts E) {wr w1 w3 : World} {v : Value} {es : List Ent} {zs : List Int} {z : Int} {s : Bool} {p : Option Addr} {n c k : Nat} {o : Obj} {g cap : Nat} (hk : es.length = k) (h : LG base t E wr v es zs) (hb1 : Below wr.heap.size wr w1) (hE : E w1 z ⟨s, p, n, c⟩) (hF : Go.Proofs.YtejnhpjejcpekaaGreatDoor.From wr.heap.size p)
    (hown : w3.ownsRow base t 2 (.slice (some ⟨g, 0, none⟩) (k + 1) cap) (k + 1) (fl es ++ [.bool s, .slice p n c])) (hgrow : (w1.alloc o).grownBy w3 v.ownBlock) (hat : v.ownBlock = some g ∨ g = (w1.alloc o).heap.size) :
    LG base t E w3 (.slice (some ⟨g, 0, none⟩) (k + 1) cap) (es ++ [⟨s, p, n, c⟩]) (zs ++ [z]) :=
  LG.app L hk h hb1 hE (fun _ a ha => .inr (hF a ha)) hown hgrow hat
set_option maxRecDepth 100000 in
theorem rOf_neg (a : Int) (w : World) (h0 : 0 < a) (h1 : a ≤ 9223372036854775808) :
    Calls Tryz.prog 41 #[.int .i64 (-a)] w (RAns 4 (-a) w) := by
  obtain ⟨i0, hi, hzz⟩ := Option.map_eq_some_iff.1 info_int
  simp only [Prod.mk.injEq] at hzz
  obtain ⟨hz0, hz1, hz2⟩ := hzz
  have HI : Hid (Tryz.prog.info? 3 = some i0 ∧ i0.zero = some (.int .i64 0) ∧ i0.size = 1 ∧ i0.bytes = 8) := ⟨hi, hz0, hz1, hz2⟩
  clear hi hz0 hz1 hz2
  have hcmp : -a < 0 := by omega
  go_enter Tryz.func41, Tryz.ntmps41
  go_wp2
  have hb2 : Bx (w.alloc (.cells #[.bool false, .slice none 0 0] 34)) w.heap.size (.bool false) (.slice none 0 0) := Bx.new _ _ _ rfl
  have hbw : Below w.heap.size w (w.alloc (.cells #[.bool false, .slice none 0 0] 34)) := (Below.refl _ _).alloc (Nat.le_refl _) _
  have hsz : (w.alloc (.cells #[.bool false, .slice none 0 0] 34)).heap.size = w.heap.size + 1 := by simp
  generalize (w.alloc (.cells #[.bool false, .slice none 0 0] 34)) = W at *
  have HS : Hid (W.heap.size = w.heap.size + 1) := hsz
  clear hsz
  go_loopw [0, 4, 5] (fun nv dv kv wr => ∃ (k : Nat) (m : Int) (ds : List Int), nv = .int .i64 (-m) ∧ 0 ≤ m ∧ m ≤ 9223372036854775808 ∧ ds.length = k ∧ Hid (a = vd ds + pd k * m ∧ U16 ds ∧ wr.ownsRow W.heap.size 3 1 dv k (ds.map (Value.int .i64)) ∧ Below W.heap.size W wr)) (fun nv _ _ _ => (intOf nv).natAbs)
  case atStart => exact ⟨0, a, [], rfl, by omega, by omega, rfl, by simp [vd, pd_zero], u16_nil, World.ownsRow_nil _ _ _ _, Below.refl _ _⟩
  case round =>
    obtain ⟨k, m, ds, rfl, hm0, hm1, hkl, H⟩ := hrel
    have hBr := H.out.2.2.2
    have HV : Hid (a = vd ds + pd k * m ∧ U16 ds) := ⟨H.out.1, H.out.2.1⟩
    have HO : Hid (wr.ownsRow W.heap.size 3 1 u4 k (ds.map (Value.int .i64))) := H.out.2.2.1
    clear H
    have hb2r := hb2.later hBr
    have HK : Hid (0 < m → k < 4) := fun hm => by
      rcases Nat.lt_or_ge k 4 with h | h
      · exact h
      · exfalso
        have e1 := pd_mono h
        have e2 : pd 4 = 18446744073709551616 := rfl
        have e3 := vd_nonneg HV.out.2
        have e4 : pd k * 1 ≤ pd k * m := Int.mul_le_mul_of_nonneg_left (by omega) (Int.le_of_lt (pd_pos k))
        have e5 := HV.out.1
        omega
    have HL : Hid (ds.length = k) := hkl
    by_cases hlt : 0 < m
    · have hk4 := HK.out hlt
      obtain ⟨hi, hz0, hz1, hz2⟩ := HI.out
      clear hkl
      have q1 : (-m).tmod 65536 = -(m % 65536) := by rw [Int.neg_tmod, Int.tmod_eq_emod_of_nonneg (by omega)]
      have q2 : (-m).tdiv 65536 = -(m / 65536) := by rw [Int.neg_tdiv, Int.tdiv_eq_ediv_of_nonneg (by omega)]
      have q5 : (-m != 0) = true := by rw [bne_iff_ne]; omega
      have hkl := HL.out
      clear hkl
      by_cases hm0 : m % 65536 = 0
      · have q6 : ¬ -(m % 65536) < 0 := by omega
        have q7 : -(m % 65536) = 0 := by omega
        go_wp2_with (refine wpList_append_lies _ rfl _ _ 32 rfl W.heap.size 3 i0 (.int .i64 0) 1 8 Tryz.underlying32 hi hz0 hz1 hz2 rfl (by decide) u4 k (ds.map (Value.int .i64)) rfl (HO.out.alloc _) ⟨wr.heap.size, 0, none⟩ 1 1 [.int .i64 (0)] rfl rfl ?_ (fun x hx => by simp at hx; subst hx; rfl) (by decide) (by unfold maxLen; omega) (by omega) (by have := hBr.size; simp; omega) _ rfl ?_; exact World.news_of_block (heap_alloc_new wr _); intro g cap w3 hown3 hgrow3 hat3 hlt3; have hB3 : Below W.heap.size W w3 := (bel_alw hBr).grown hgrow3 (by have := hBr.size; simp; omega) (fun q hq => (HO.out.lt q hq).1))
        refine ⟨⟨k + 1, m / 65536, ds ++ [0], by go_num, by omega, by omega, by have := HL.out; simp; omega, ?_, u16_append HV.out.2 (u16_one (by omega)), ?_, hB3⟩, by simp [intOf]; omega⟩
        · rw [vd_append, vd_one, pd_succ, HL.out, HV.out.1]
          have := cut16 (pd k) m
          rw [hm0] at this; omega
        · rw [List.map_append]
          exact hown3
      · have q6 : -(m % 65536) < 0 := by omega
        go_wp2_with (refine wpList_append_lies _ rfl _ _ 32 rfl W.heap.size 3 i0 (.int .i64 0) 1 8 Tryz.underlying32 hi hz0 hz1 hz2 rfl (by decide) u4 k (ds.map (Value.int .i64)) rfl (HO.out.alloc _) ⟨wr.heap.size, 0, none⟩ 1 1 [.int .i64 (m % 65536)] rfl rfl ?_ (fun x hx => by simp at hx; subst hx; rfl) (by decide) (by unfold maxLen; omega) (by omega) (by have := hBr.size; simp; omega) _ rfl ?_; exact World.news_of_block (heap_alloc_new wr _); intro g cap w3 hown3 hgrow3 hat3 hlt3; have hB3 : Below W.heap.size W w3 := (bel_alw hBr).grown hgrow3 (by have := hBr.size; simp; omega) (fun q hq => (HO.out.lt q hq).1))
        refine ⟨⟨k + 1, m / 65536, ds ++ [m % 65536], by go_num, by omega, by omega, by have := HL.out; simp; omega, ?_, u16_append HV.out.2 (u16_one (by omega)), ?_, hB3⟩, by simp [intOf]; omega⟩
        · rw [vd_append, vd_one, pd_succ, HL.out, HV.out.1]
          have := cut16 (pd k) m
          omega
        · rw [List.map_append]
          exact hown3
    · obtain rfl : m = 0 := by omega
      have hform : ∃ q cap, u4 = .slice q k cap ∧ k ≤ cap ∧ cap ≤ maxLen ∧ Rd wr q .i64 ds ∧ Go.Proofs.YtejnhpjejcpekaaGreatDoor.From W.heap.size q := by
        have hown := HO.out
        rcases hown.2 with ⟨h1, h2⟩ | ⟨g, cap, cur, h1, hbg, _, h4, h5, _⟩
        · refine ⟨none, 0, by rw [h1, h2], by omega, Nat.zero_le _, ?_, from_none⟩
          have : ds = [] := List.eq_nil_of_length_eq_zero (by omega)
          rw [this]; exact Rd.nil
        · subst h1
          exact ⟨_, cap, rfl, h4, h5, rd_owns hown, from_new hbg⟩
      obtain ⟨q, cap, rfl, hq1, hq2, hq3, hq4⟩ := hform
      have hva : a = vd ds := by have := HV.out.1; omega
      have HA : Hid (a = vd ds) := hva
      clear hva
      have hq2' := hq2
      unfold maxLen at hq2'
      go_wp2_with fail
      refine (rtrim_any true q k cap ds _ hkl hq1 hq2 hq3).mono ?_
      rintro e w4 ⟨rfl, hb4⟩
      obtain ⟨z0, z1, z2, z3⟩ := resbox hb4 hb2r.c0 hb2r.c1 hb2r.f0 hb2r.f1
      go_wp2
      have hsW := HS.out
      have htl : tlen ds ≤ 4 := by
        rcases Nat.lt_or_ge 4 (tlen ds) with h | h
        · exfalso
          have e1 := vd_pos_of_top HV.out.2 (by omega)
          have e2 : pd 4 ≤ pd (tlen ds - 1) := pd_mono (by omega)
          have e3 : pd 4 = 18446744073709551616 := rfl
          have e5 := HA.out
          omega
        · exact h
      refine bodyPost_ret (v := .agg #[.bool (nsg true ds), .slice q (tlen ds) (tlen ds)]) (by simp [results, Tryz.results41, go_sem, z0, z1]) rfl ?_
      exact end_rn hbw (Nat.le_refl _) (by omega) hBr hb4 hq3 hq4 HV.out.2 (by omega) (by rw [HA.out]; rfl) htl
set_option maxRecDepth 100000 in
theorem rOf_pos (a : Int) (w : World) (h0 : 0 ≤ a) (h1 : a ≤ 9223372036854775807) :
    Calls Tryz.prog 41 #[.int .i64 (a)] w (RAns 4 (a) w) := by
  obtain ⟨i0, hi, hzz⟩ := Option.map_eq_some_iff.1 info_int
  simp only [Prod.mk.injEq] at hzz
  obtain ⟨hz0, hz1, hz2⟩ := hzz
  have HI : Hid (Tryz.prog.info? 3 = some i0 ∧ i0.zero = some (.int .i64 0) ∧ i0.size = 1 ∧ i0.bytes = 8) := ⟨hi, hz0, hz1, hz2⟩
  clear hi hz0 hz1 hz2
  have hcmp : ¬ a < 0 := by omega
  go_enter Tryz.func41, Tryz.ntmps41
  go_wp2
  have hb2 : Bx (w.alloc (.cells #[.bool false, .slice none 0 0] 34)) w.heap.size (.bool false) (.slice none 0 0) := Bx.new _ _ _ rfl
  have hbw : Below w.heap.size w (w.alloc (.cells #[.bool false, .slice none 0 0] 34)) := (Below.refl _ _).alloc (Nat.le_refl _) _
  have hsz : (w.alloc (.cells #[.bool false, .slice none 0 0] 34)).heap.size = w.heap.size + 1 := by simp
  generalize (w.alloc (.cells #[.bool false, .slice none 0 0] 34)) = W at *
  have HS : Hid (W.heap.size = w.heap.size + 1) := hsz
  clear hsz
  go_loopw [0, 4, 5] (fun nv dv kv wr => ∃ (k : Nat) (m : Int) (ds : List Int), nv = .int .i64 (m) ∧ 0 ≤ m ∧ m ≤ 9223372036854775808 ∧ ds.length = k ∧ Hid (a = vd ds + pd k * m ∧ U16 ds ∧ wr.ownsRow W.heap.size 3 1 dv k (ds.map (Value.int .i64)) ∧ Below W.heap.size W wr)) (fun nv _ _ _ => (intOf nv).natAbs)
  case atStart => exact ⟨0, a, [], rfl, by omega, by omega, rfl, by simp [vd, pd_zero], u16_nil, World.ownsRow_nil _ _ _ _, Below.refl _ _⟩
  case round =>
    obtain ⟨k, m, ds, rfl, hm0, hm1, hkl, H⟩ := hrel
    have hBr := H.out.2.2.2
    have HV : Hid (a = vd ds + pd k * m ∧ U16 ds) := ⟨H.out.1, H.out.2.1⟩
    have HO : Hid (wr.ownsRow W.heap.size 3 1 u4 k (ds.map (Value.int .i64))) := H.out.2.2.1
    clear H
    have hb2r := hb2.later hBr
    have HK : Hid (0 < m → k < 4) := fun hm => by
      rcases Nat.lt_or_ge k 4 with h | h
      · exact h
      · exfalso
        have e1 := pd_mono h
        have e2 : pd 4 = 18446744073709551616 := rfl
        have e3 := vd_nonneg HV.out.2
        have e4 : pd k * 1 ≤ pd k * m := Int.mul_le_mul_of_nonneg_left (by omega) (Int.le_of_lt (pd_pos k))
        have e5 := HV.out.1
        omega
    have HL : Hid (ds.length = k) := hkl
    by_cases hlt : 0 < m
    · have hk4 := HK.out hlt
      obtain ⟨hi, hz0, hz1, hz2⟩ := HI.out
      clear hkl
      have q1 : m.tmod 65536 = m % 65536 := Int.tmod_eq_emod_of_nonneg (by omega)
      have q2 : m.tdiv 65536 = m / 65536 := Int.tdiv_eq_ediv_of_nonneg (by omega)
      have q5 : (m != 0) = true := by rw [bne_iff_ne]; omega
      have hkl := HL.out
      clear hkl
      · have q6 : ¬ m % 65536 < 0 := by omega
        go_wp2_with (refine wpList_append_lies _ rfl _ _ 32 rfl W.heap.size 3 i0 (.int .i64 0) 1 8 Tryz.underlying32 hi hz0 hz1 hz2 rfl (by decide) u4 k (ds.map (Value.int .i64)) rfl (HO.out.alloc _) ⟨wr.heap.size, 0, none⟩ 1 1 [.int .i64 (m % 65536)] rfl rfl ?_ (fun x hx => by simp at hx; subst hx; rfl) (by decide) (by unfold maxLen; omega) (by omega) (by have := hBr.size; simp; omega) _ rfl ?_; exact World.news_of_block (heap_alloc_new wr _); intro g cap w3 hown3 hgrow3 hat3 hlt3; have hB3 : Below W.heap.size W w3 := (bel_alw hBr).grown hgrow3 (by have := hBr.size; simp; omega) (fun q hq => (HO.out.lt q hq).1))
        refine ⟨⟨k + 1, m / 65536, ds ++ [m % 65536], by go_num, by omega, by omega, by have := HL.out; simp; omega, ?_, u16_append HV.out.2 (u16_one (by omega)), ?_, hB3⟩, by simp [intOf]; omega⟩
        · rw [vd_append, vd_one, pd_succ, HL.out, HV.out.1]
          have := cut16 (pd k) m
          omega
        · rw [List.map_append]
          exact hown3
    · obtain rfl : m = 0 := by omega
      have hform : ∃ q cap, u4 = .slice q k cap ∧ k ≤ cap ∧ cap ≤ maxLen ∧ Rd wr q .i64 ds ∧ Go.Proofs.YtejnhpjejcpekaaGreatDoor.From W.heap.size q := by
        have hown := HO.out
        rcases hown.2 with ⟨h1, h2⟩ | ⟨g, cap, cur, h1, hbg, _, h4, h5, _⟩
        · refine ⟨none, 0, by rw [h1, h2], by omega, Nat.zero_le _, ?_, from_none⟩
          have : ds = [] := List.eq_nil_of_length_eq_zero (by omega)
          rw [this]; exact Rd.nil
        · subst h1
          exact ⟨_, cap, rfl, h4, h5, rd_owns hown, from_new hbg⟩
      obtain ⟨q, cap, rfl, hq1, hq2, hq3, hq4⟩ := hform
      have hva : a = vd ds := by have := HV.out.1; omega
      have HA : Hid (a = vd ds) := hva
      clear hva
      have hq2' := hq2
      unfold maxLen at hq2'
      go_wp2_with fail
      refine (rtrim_any false q k cap ds _ hkl hq1 hq2 hq3).mono ?_
      rintro e w4 ⟨rfl, hb4⟩
      obtain ⟨z0, z1, z2, z3⟩ := resbox hb4 hb2r.c0 hb2r.c1 hb2r.f0 hb2r.f1
      go_wp2
      have hsW := HS.out
      have htl : tlen ds ≤ 4 := by
        rcases Nat.lt_or_ge 4 (tlen ds) with h | h
        · exfalso
          have e1 := vd_pos_of_top HV.out.2 (by omega)
          have e2 : pd 4 ≤ pd (tlen ds - 1) := pd_mono (by omega)
          have e3 : pd 4 = 18446744073709551616 := rfl
          have e5 := HA.out
          omega
        · exact h
      refine bodyPost_ret (v := .agg #[.bool (nsg false ds), .slice q (tlen ds) (tlen ds)]) (by simp [results, Tryz.results41, go_sem, z0, z1]) rfl ?_
      exact end_rn hbw (Nat.le_refl _) (by omega) hBr hb4 hq3 hq4 HV.out.2 (by omega) (by rw [HA.out]; rfl) htl
theorem rOf_any (z : Int) (w : World) (h0 : -9223372036854775808 ≤ z) (h1 : z ≤ 9223372036854775807) : Calls Tryz.prog 41 #[.int .i64 z] w (RAns 4 z w) := by
  by_cases h : z < 0
  · have := rOf_neg (-z) w (by omega) (by omega)
    rwa [Int.neg_neg] at this
  · exact rOf_pos z w (by omega) h1
end Go.Proofs.YtejnhpjejcpekaaGreatDoor
