/-
  Polynomials of the reference: Trim.
-/
import Derived.Test.YtebdbfbicbndlaaGreatDoorUa
import Derived.Test.YtebdbfbicbndlaaGreatDoorRrRw
import Derived.Test.YtebdbfbicbndlaaGreatDoorUbUc
namespace Go.Proofs.YtebdbfbicbndlaaGreatDoor
open Go.RowKit
set_option linter.unusedVariables false
set_option linter.unusedSimpArgs false

/-- The number of an element of the reference. -/
def RE (w : World) (N : Nat) (z : Int) (e : Ent) : Prop := RV w N z e.s e.p e.n ∧ e.c = e.n
/-- A list of the reference's numbers. -/
structure PR (w : World) (N : Nat) (p : Option Addr) (n nc : Nat) (es : List Ent) (zs : List Int) : Prop where
  el : es.length = n
  zl : zs.length = n
  cap : n ≤ nc
  bnd : nc ≤ maxLen
  pl : PL w p es
  ev : ∀ j, j < n → RE w N (gx zs j) (ge es j)
section
variable {w w' : World} {N : Nat} {z : Int} {e : Ent} {p : Option Addr} {n nc : Nat} {es : List Ent} {zs : List Int}
theorem RE.below (h : RE w N z e) (hb : Below w.heap.size w w') : RE w' N z e := ⟨h.1.below hb, h.2⟩
theorem RE.drew (h : RE w N z e) : RE w.drew N z e := ⟨h.1.drew, h.2⟩
theorem PR.below (h : PR w N p n nc es zs) (hb : Below w.heap.size w w') : PR w' N p n nc es zs := ⟨h.el, h.zl, h.cap, h.bnd, h.pl.below hb, fun j hj => (h.ev j hj).below hb⟩
theorem PR.drew (h : PR w N p n nc es zs) : PR w.drew N p n nc es zs := ⟨h.el, h.zl, h.cap, h.bnd, h.pl.drew, fun j hj => (h.ev j hj).drew⟩
theorem PR.take (h : PR w N p n nc es zs) (m c : Nat) (hm : m ≤ n) (hc : m ≤ c) (hc' : c ≤ nc) : PR w N p m c (es.take m) (zs.take m) :=
  ⟨by have := h.el; simp; omega, by have := h.zl; simp; omega, hc, Nat.le_trans hc' h.bnd, h.pl.take m, fun j hj => by rw [gx_take _ _ _ hj, ge_take _ _ _ hj]; exact h.ev j (by omega)⟩
theorem rSign_e (h : RE w N z e) : Calls Tryz.prog 43 #[.agg #[.bool e.s, .slice e.p e.n e.c]] w fun r w' => r = .returned (.int .i64 (isgn z)) ∧ Below w.heap.size w w' := by
  obtain ⟨⟨ds, h1, rfl, h3⟩, h4⟩ := h
  rw [h4]
  exact rSign_any e.s e.p e.n e.n ds w h1.u h1.nrm
end
set_option maxHeartbeats 1000000 in
/-- ashlarref3.Trim. -/
theorem rTrim_any (N : Nat) (p : Option Addr) (n nc : Nat) (es : List Ent) (zs : List Int) (w : World) (h : PR w N p n nc es zs) (hn : n ≤ 1000000) :
    Calls Tryz.prog 20 #[.slice p n nc] w fun e w' => e = .returned (.slice p (tlen zs) (tlen zs)) ∧ Below w.heap.size w w' := by
  have hle := h.el
  go_enter Tryz.func20, Tryz.ntmps20
  go_wp2
  go_loopw [3] (fun nv wr => ∃ k : Nat, k ≤ n ∧ nv = .int .i64 k ∧ Hid ((∀ j, k ≤ j → gx zs j = 0) ∧ Below w.heap.size w wr)) (fun nv _ => (intOf nv).toNat)
  case atStart => exact ⟨n, Nat.le_refl _, by go_num, fun j hj => gx_past zs n (by rw [h.zl]; exact Nat.le_refl _) j hj, Below.refl _ _⟩
  case round =>
    obtain ⟨k, hk, rfl, H⟩ := hrel
    rcases Nat.eq_zero_or_pos k with h0 | h0
    · subst h0
      have HT : Hid (tlen zs = 0) := tlen_eq zs 0 (fun j _ => H.out.1 j (Nat.zero_le _)) (.inl rfl)
      go_wp2
      go_ret
      exact ⟨by rw [HT.out]; rfl, H.out.2⟩
    · obtain ⟨i, rfl⟩ : ∃ i, k = i + 1 := ⟨k - 1, by omega⟩
      obtain ⟨H1, H2⟩ := H.out
      have HH : Hid ((∀ j, i + 1 ≤ j → gx zs j = 0) ∧ Below w.heap.size w wr) := ⟨H1, H2⟩
      have hw := h.below H2
      obtain ⟨b, o, hp, hc⟩ := hw.pl (by omega)
      subst hp
      obtain ⟨c0, c1⟩ := hc i (by omega)
      have hv := hw.ev i (by omega)
      have hcap := h.cap
      have hbnd := h.bnd
      unfold maxLen at hbnd
      clear H H1 H2 hc
      go_wp2_with fail
      refine (rSign_e hv).mono ?_
      rintro e w1 ⟨rfl, hb1⟩
      have hB := bnext' HH.out.2 hb1
      have hcs : Hid (gx zs i = 0 ∨ ¬ gx zs i = 0) := Classical.em _
      rcases hcs.out with hz | hz
      · rw [isgn_zero hz]
        have HZ : Hid (gx zs i = 0) := hz
        clear hz hcs c0 c1 hv
        go_wp2
        go_roundw
        case rel => exact ⟨i, by omega, by go_num, fun j hj => by
          rcases Nat.lt_or_ge i j with h | h
          · exact HH.out.1 j h
          · have : j = i := by omega
            subst this; exact HZ.out, hB⟩
        case measure => simp [intOf]
      · have HT : Hid (tlen zs = i + 1) := tlen_eq zs (i + 1) HH.out.1 (.inr hz)
        have hi : isgn (gx zs i) = 1 ∨ isgn (gx zs i) = -1 := by
          rcases (show 0 < gx zs i ∨ gx zs i < 0 by omega) with h | h
          · exact .inl (isgn_pos h)
          · exact .inr (isgn_neg h)
        clear hz hcs c0 c1 hv
        rcases hi with hi | hi
        all_goals
          rw [hi]
          clear hi
          go_wp2
          go_ret
          exact ⟨by rw [HT.out]; rfl, hB⟩
end Go.Proofs.YtebdbfbicbndlaaGreatDoor
