/-
  Estimates of operators that are cut: the program's and the reference's.
-/
import Derived.Test.YtcdfckjlmifjiaaEpKp
import Derived.Test.YtcdfckjlmifjiaaEiEl
import Derived.Test.YtcdfckjlmifjiaaAyEmDx
import Derived.Test.YtcdfckjlmifjiaaEeEaEcBuBvEj
namespace Go.Proofs.Ytcdfckjlmifjiaa
open Go.RowKit
set_option linter.unusedVariables false
set_option linter.unusedSimpArgs false

theorem szO_oz (z : List (List Int)) : max ((olen z : Int) - 1) 0 = rszO (oz z) := by
  rw [rszO, length_oz]
  split <;> omega
theorem oz_nil {z : List (List Int)} (h : olen z = 0) : oz z = [] := by rw [oz, h]; rfl
theorem szD_oz (z : List (List Int)) : max (odeg z) 0 = rszD (oz z) := by
  rw [rszD, length_oz, ← odeg_oz]
  split
  · rename_i h
    rw [oz_nil h]
    rfl
  · rename_i h
    rw [odeg_oz]
    have h0 : 0 < olen z := by omega
    have hl : olen z ≤ z.length := olen_le z
    have h1 := odeg_take z (olen z - 1) (by omega)
    have h2 : tlen (gt z (olen z - 1)) ≠ 0 := by
      intro e
      have h3 := tlen_top (z.map fun z => (tlen z : Int)) h0
      rw [gx_tlens] at h3
      exact h3 (by show (tlen (gt z (olen z - 1)) : Int) = 0; rw [e]; rfl)
    have h5 : ∀ k, olen z - 1 + 1 + k ≤ z.length → 0 ≤ odeg (z.take (olen z - 1 + 1 + k)) := by
      intro k
      induction k with
      | zero => intro _; rw [Nat.add_zero, h1]; omega
      | succ k ih =>
        intro hk
        have := ih (by omega)
        rw [← Nat.add_assoc, odeg_take z _ (by omega)]
        omega
    have h6 := h5 (z.length - olen z) (by omega)
    rw [show olen z - 1 + 1 + (z.length - olen z) = z.length by omega, List.take_length] at h6
    omega
theorem szB_oz (z : List (List Int)) : (obit z : Int) = rszB (oz z) := by
  rw [rszB, length_oz, ← obit_oz]
  split
  · rename_i h
    rw [oz_nil h]
    rfl
  · rfl
theorem szb_op {D E K : Nat} {w : World} {B T : Nat} {z : List (List Int)} {h : Hdr} (H : HR D (EZ K E) w B T z h) (hD : D ≤ 1000000) (hE : E ≤ 1000000) (hK : K ≤ 1000) : SzB (oz z) := by
  unfold SzB
  rw [← szO_oz, ← szD_oz, ← szB_oz]
  have hlen := hr_len H
  obtain ⟨hs, k⟩ := H
  have h1 := olen_le z
  have h2 := k.tl
  have h3 := k.few
  have h4 := odeg_bd z hlen z.length (Nat.le_refl _)
  have h5 := obit_bd (E := 32 * K) z (fun j hj => by
    obtain ⟨fs, a, -⟩ := k.ev j (by omega)
    exact pb_few a) z.length (Nat.le_refl _)
  rw [List.take_length] at h4 h5
  omega
section
variable {D E K N lo lo' D' E' : Nat} {X Y : Nat → Prop} {w v : World} {z y : List (List Int)} {h g : Hdr} {zq : Int} {uq un : Ent}
theorem of_at (k : Lies (EOp D E K) lo X w z h) (hb : Below w.heap.size w v) (hD : D ≤ 1000000) (hE : E ≤ 1000000) (hK : K ≤ 1000) :
    Calls Try.prog 11 #[.slice h.p h.n h.c] v fun e w' => e = .returned (.agg #[.int .i64 (rszO (oz z)), .int .i64 (rszD (oz z)), .int .i64 (rszB (oz z))]) ∧ Below v.heap.size v w' := by
  obtain ⟨B, T, h1, h2, -, -⟩ := k.below (lOp _ _ _) hb
  have := gOf_any h1 h2 hD hE hK
  rwa [szO_oz, szD_oz, szB_oz] at this
theorem size_at {l : List (List Int)} (k : Lies (EOr D E N) lo X w l h) (hb : Below w.heap.size w v) (hD : D ≤ 1000000) (hE : E ≤ 1000000) (hN : N ≤ 1000) :
    Calls Try.prog 12 #[.slice h.p h.n h.c] v fun e w' => e = .returned (.tuple #[.int .i64 (rszO l), .int .i64 (rszD l), .int .i64 (rszB l)]) ∧ Below v.heap.size v w' := by
  obtain ⟨B, T, h1, h2, -, -⟩ := k.below (lOr _ _ _) hb
  exact rSize8_any h1 h2 hD hE hN
theorem szb_at (k : Lies (EOp D E K) lo X w z h) (hD : D ≤ 1000000) (hE : E ≤ 1000000) (hK : K ≤ 1000) : SzB (oz z) := by
  obtain ⟨B, T, h1, h2, -, -⟩ := k
  exact szb_op h1 hD hE hK
theorem bits_at (k : NumX K lo X w zq uq) (hb : Below w.heap.size w v) : Calls Try.prog 37 #[.agg #[.bool uq.s, .slice uq.p uq.n uq.c]] v fun e w' => e = .returned (.int .i64 (zb zq)) ∧ Below v.heap.size v w' := Bits_ev (k.1.below hb)
theorem inI_of {x : Int} {m : Int} (h : 0 ≤ x ∧ x ≤ m) (hm : m ≤ 9223372036854775807) : InI x := ⟨h.1, by omega⟩
/-- The estimate of a product. -/
def vMul (x y : List (List Int)) (q : Int) : Int := tms [rszO x + 1, rszO y + 1, rszD x + rszD y + 2, sms [rszB x, rszB y, pmf (rszO x + 1) (rszD y + 1), pmf (pmf (rszO x) (rszD y + 1)) (zb q : Int), 8]]
def vDivide (x y : List (List Int)) (q : Int) : Int := tms [rszO x + 1, rszO y + 1, rszO x + rszO y + 2, rszD x + rszD y + 2, sms [rszB x, rszB y, pmf (rszO x + 1) ((zb q : Int) + 2), 8]]
def vCommon (x y : List (List Int)) (q : Int) : Int := tms [rszO x + rszO y + 2, rszO x + rszO y + 2, rszO x + rszO y + 2, smf (pmf (rszO x + rszO y + 2) (rszD x + rszD y)) 2, sms [rszB x, rszB y, pmf (rszO x + rszO y + 1) ((zb q : Int) + 2), 8]]
def vApply (x : List (List Int)) (f : List Int) (q : Int) : Int := tms [rszO x + 1, rszD x + ((tlen f : Int) - 1) + 3, sms [rszB x, (pb f : Int), pmf (pmf (rszO x + 1) ((tlen f : Int) - 1 + 2)) ((zb q : Int) + 8)]]
theorem gmul_at (k : Lies (EOp D E K) lo X w z h) (k2 : Lies (EOp D E K) lo' Y w y g) (kq : ∃ lo X, NumX K lo X w zq uq) (hb : Below w.heap.size w v) (hD : D ≤ 1000000) (hE : E ≤ 1000000) (hK : K ≤ 1000) :
    Calls Try.prog 13 #[.slice h.p h.n h.c, .slice g.p g.n g.c, .agg #[.bool uq.s, .slice uq.p uq.n uq.c]] v fun e w' => e = .returned (.int .i64 (vMul (oz z) (oz y) zq)) ∧ Below v.heap.size v w' := by
  obtain ⟨_, _, kq⟩ := kq
  have b1 := szb_at k hD hE hK
  have b2 := szb_at k2 hD hE hK
  have b3 := zb_le kq.1
  refine gMul_lay (fun w' hb' => of_at k (bnext' hb hb') hD hE hK) (fun w' hb' => of_at k2 (bnext' hb hb') hD hE hK) (fun w' hb' => bits_at kq (bnext' hb hb')) (fun w' => ?_)
  have := eMul_any w' (rszO (oz z)) (rszD (oz z)) (rszB (oz z)) (rszO (oz y)) (rszD (oz y)) (rszB (oz y)) (zb zq : Int) (inI_of b1.1 (by decide)) (inI_of b1.2.1 (by decide)) (inI_of b1.2.2 (by decide)) (inI_of b2.1 (by decide)) (inI_of b2.2.1 (by decide)) (inI_of b2.2.2 (by decide)) ⟨by omega, by omega⟩
  rwa [emul_ref b1.1 b1.2.1 b1.2.2 b2.1 b2.2.1 b2.2.2 (by omega)] at this
theorem gdivide_at (k : Lies (EOp D E K) lo X w z h) (k2 : Lies (EOp D E K) lo' Y w y g) (kq : ∃ lo X, NumX K lo X w zq uq) (hb : Below w.heap.size w v) (hD : D ≤ 1000000) (hE : E ≤ 1000000) (hK : K ≤ 1000) :
    Calls Try.prog 17 #[.slice h.p h.n h.c, .slice g.p g.n g.c, .agg #[.bool uq.s, .slice uq.p uq.n uq.c]] v fun e w' => e = .returned (.int .i64 (vDivide (oz z) (oz y) zq)) ∧ Below v.heap.size v w' := by
  obtain ⟨_, _, kq⟩ := kq
  have b1 := szb_at k hD hE hK
  have b2 := szb_at k2 hD hE hK
  have b3 := zb_le kq.1
  refine gDivide_lay (fun w' hb' => of_at k (bnext' hb hb') hD hE hK) (fun w' hb' => of_at k2 (bnext' hb hb') hD hE hK) (fun w' hb' => bits_at kq (bnext' hb hb')) (fun w' => ?_)
  have := eDivide_any w' (rszO (oz z)) (rszD (oz z)) (rszB (oz z)) (rszO (oz y)) (rszD (oz y)) (rszB (oz y)) (zb zq : Int) (inI_of b1.1 (by decide)) (inI_of b1.2.1 (by decide)) (inI_of b1.2.2 (by decide)) (inI_of b2.1 (by decide)) (inI_of b2.2.1 (by decide)) (inI_of b2.2.2 (by decide)) ⟨by omega, by omega⟩
  rwa [edivide_ref b1.1 b1.2.1 b2.1 b2.2.1 (by omega)] at this
theorem gcommon_at (k : Lies (EOp D E K) lo X w z h) (k2 : Lies (EOp D E K) lo' Y w y g) (kq : ∃ lo X, NumX K lo X w zq uq) (hb : Below w.heap.size w v) (hD : D ≤ 1000000) (hE : E ≤ 1000000) (hK : K ≤ 1000) :
    Calls Try.prog 19 #[.slice h.p h.n h.c, .slice g.p g.n g.c, .agg #[.bool uq.s, .slice uq.p uq.n uq.c]] v fun e w' => e = .returned (.int .i64 (vCommon (oz z) (oz y) zq)) ∧ Below v.heap.size v w' := by
  obtain ⟨_, _, kq⟩ := kq
  have b1 := szb_at k hD hE hK
  have b2 := szb_at k2 hD hE hK
  have b3 := zb_le kq.1
  refine gCommon_lay (fun w' hb' => of_at k (bnext' hb hb') hD hE hK) (fun w' hb' => of_at k2 (bnext' hb hb') hD hE hK) (fun w' hb' => bits_at kq (bnext' hb hb')) (fun w' => ?_)
  have := eCommon_any w' (rszO (oz z)) (rszD (oz z)) (rszB (oz z)) (rszO (oz y)) (rszD (oz y)) (rszB (oz y)) (zb zq : Int) (inI_of b1.1 (by decide)) (inI_of b1.2.1 (by decide)) (inI_of b1.2.2 (by decide)) (inI_of b2.1 (by decide)) (inI_of b2.2.1 (by decide)) (inI_of b2.2.2 (by decide)) ⟨by omega, by omega⟩
  rwa [ecommon_ref b1.1 b1.2.1 b2.1 b2.2.1 (by omega)] at this
theorem gapply_at {F M : Nat} {zf : List Int} {hf : Hdr} (k : Lies (EOp D E K) lo X w z h) (kf : ∃ lo X, Lies (EZ M F) lo X w zf hf) (kq : ∃ lo X, NumX K lo X w zq uq) (hb : Below w.heap.size w v) (hD : D ≤ 1000000) (hE : E ≤ 1000000) (hK : K ≤ 1000) (hF : F ≤ 1000000) (hM : M ≤ 1000) :
    Calls Try.prog 15 #[.slice h.p h.n h.c, .slice hf.p hf.n hf.c, .agg #[.bool uq.s, .slice uq.p uq.n uq.c]] v fun e w' => e = .returned (.int .i64 (vApply (oz z) zf zq)) ∧ Below v.heap.size v w' := by
  obtain ⟨_, _, kq⟩ := kq
  obtain ⟨_, _, kf⟩ := kf
  have b1 := szb_at k hD hE hK
  have b3 := zb_le kq.1
  have hpa : ∀ w', Below w.heap.size w w' → ∃ fs, PA w' M hf.p hf.n hf.c fs zf ∧ hf.n ≤ F := fun w' hb' => by
    obtain ⟨B, T, ⟨fs, a, b, -, -⟩, -⟩ := kf.below (lEZ _ _) hb'
    exact ⟨fs, a, b⟩
  have b4 : (tlen zf : Int) - 1 ≤ 1000000 ∧ -1 ≤ (tlen zf : Int) - 1 := by
    obtain ⟨fs, a, b⟩ := hpa w (Below.refl _ _)
    have h1 := tlen_le zf
    have h2 := a.zl
    omega
  have b5 : pb zf ≤ 32 * M := by
    obtain ⟨fs, a, b⟩ := hpa w (Below.refl _ _)
    exact pb_few a
  refine gApply_lay (fun w' hb' => of_at k (bnext' hb hb') hD hE hK) (fun w' hb' => ?_) (fun w' hb' => ?_) (fun w' hb' => bits_at kq (bnext' hb hb')) (g0 := (tlen zf : Int) - 1) (l0 := (pb zf : Int)) (fun w' => ?_)
  · obtain ⟨fs, a, b⟩ := hpa w' (bnext' hb hb')
    exact uDeg_any M hf.p hf.n hf.c fs zf w' a (by omega)
  · obtain ⟨fs, a, b⟩ := hpa w' (bnext' hb hb')
    refine (uBits_any a (by omega) hM).mono ?_
    rintro e w2 ⟨h1, -, h2⟩
    exact ⟨h1, h2⟩
  have := eApply_any w' (rszO (oz z)) (rszD (oz z)) (rszB (oz z)) ((tlen zf : Int) - 1) (pb zf : Int) (zb zq : Int) (inI_of b1.1 (by decide)) (inI_of b1.2.1 (by decide)) (inI_of b1.2.2 (by decide)) ⟨b4.2, by omega⟩ ⟨by omega, by omega⟩ ⟨by omega, by omega⟩
  rwa [eapply_ref b1.1 b1.2.1 ⟨b4.2, b4.1⟩ (by omega)] at this
theorem rmul_at {l m : List (List Int)} (k : Lies (EOr D E N) lo X w l h) (k2 : Lies (EOr D E N) lo' Y w m g) (kq : ∃ lo X, RnX N lo X w zq un) (b1 : SzB l) (b2 : SzB m) (hb : Below w.heap.size w v) (hD : D ≤ 1000000) (hE : E ≤ 1000000) (hN : N ≤ 1000) :
    Calls Try.prog 14 #[.slice h.p h.n h.c, .slice g.p g.n g.c, .agg #[.bool un.s, .slice un.p un.n un.c]] v fun e w' => e = .returned (.int .i64 (vMul l m zq)) ∧ Below v.heap.size v w' := by
  obtain ⟨_, _, kq⟩ := kq
  obtain ⟨B, T, h1, h2, -, -⟩ := k.below (lOr _ _ _) hb
  obtain ⟨B2, T2, h3, h4, -, -⟩ := k2.below (lOr _ _ _) hb
  exact rMul9_any h1 h3 h2 h4 (kq.1.below hb) hD hE hN hN hN b1 b2
theorem rdivide_at {l m : List (List Int)} (k : Lies (EOr D E N) lo X w l h) (k2 : Lies (EOr D E N) lo' Y w m g) (kq : ∃ lo X, RnX N lo X w zq un) (b1 : SzB l) (b2 : SzB m) (hb : Below w.heap.size w v) (hD : D ≤ 1000000) (hE : E ≤ 1000000) (hN : N ≤ 1000) :
    Calls Try.prog 18 #[.slice h.p h.n h.c, .slice g.p g.n g.c, .agg #[.bool un.s, .slice un.p un.n un.c]] v fun e w' => e = .returned (.int .i64 (vDivide l m zq)) ∧ Below v.heap.size v w' := by
  obtain ⟨_, _, kq⟩ := kq
  obtain ⟨B, T, h1, h2, -, -⟩ := k.below (lOr _ _ _) hb
  obtain ⟨B2, T2, h3, h4, -, -⟩ := k2.below (lOr _ _ _) hb
  exact rDivide9_any h1 h3 h2 h4 (kq.1.below hb) hD hE hN hN hN b1 b2
theorem rcommon_at {l m : List (List Int)} (k : Lies (EOr D E N) lo X w l h) (k2 : Lies (EOr D E N) lo' Y w m g) (kq : ∃ lo X, RnX N lo X w zq un) (b1 : SzB l) (b2 : SzB m) (hb : Below w.heap.size w v) (hD : D ≤ 1000000) (hE : E ≤ 1000000) (hN : N ≤ 1000) :
    Calls Try.prog 20 #[.slice h.p h.n h.c, .slice g.p g.n g.c, .agg #[.bool un.s, .slice un.p un.n un.c]] v fun e w' => e = .returned (.int .i64 (vCommon l m zq)) ∧ Below v.heap.size v w' := by
  obtain ⟨_, _, kq⟩ := kq
  obtain ⟨B, T, h1, h2, -, -⟩ := k.below (lOr _ _ _) hb
  obtain ⟨B2, T2, h3, h4, -, -⟩ := k2.below (lOr _ _ _) hb
  exact rCommon9_any h1 h3 h2 h4 (kq.1.below hb) hD hE hN hN hN b1 b2
theorem rapply_at {l : List (List Int)} {F : Nat} {zf : List Int} {hf : Hdr} (k : Lies (EOr D E N) lo X w l h) (kf : ∃ lo X, Lies (EY N F) lo X w (tr zf) hf) (kq : ∃ lo X, RnX N lo X w zq un) (b1 : SzB l) (hb : Below w.heap.size w v) (hD : D ≤ 1000000) (hE : E ≤ 1000000) (hN : N ≤ 1000) (hF : F ≤ 100000) (hfb : pb zf ≤ 1000000) :
    Calls Try.prog 16 #[.slice h.p h.n h.c, .slice hf.p hf.n hf.c, .agg #[.bool un.s, .slice un.p un.n un.c]] v fun e w' => e = .returned (.int .i64 (vApply l zf zq)) ∧ Below v.heap.size v w' := by
  obtain ⟨_, _, kq⟩ := kq
  obtain ⟨_, _, kf⟩ := kf
  obtain ⟨B, T, h1, h2, -, -⟩ := k.below (lOr _ _ _) hb
  obtain ⟨B2, T2, ⟨fs, a, b, c, d, -, -⟩, -⟩ := kf.below (lEY _ _) hb
  have hn : hf.n = tlen zf := by rw [← c, tlen_tr]
  have := rApply9_any h1 a h2 (kq.1.below hb) hD hE hN hN hN (by omega) (by rw [pb_trim]; omega) b1
  rw [pb_trim] at this
  unfold vApply
  rwa [← hn]
end
end Go.Proofs.Ytcdfckjlmifjiaa
