/-
  ore.entry, combine, Add, Sub.
-/
import Derived.Test.YtcdfckjlmifjiaaGreatFlDxAxDnDoAc
import Derived.Test.YtcdfckjlmifjiaaGreatAzBlEeEfVuDlVvWxUpUqDkDbUiVqJpDjVkJo
import Derived.Test.YtcdfckjlmifjiaaGreatBnUjBoAhEkOaOcOd
import Derived.Deep.DeepFit
import Derived.Test.YtcdfckjlmifjiaaGreatOnUdLnWrIbWgUeUfUgAb
import Derived.Test.YtcdfckjlmifjiaaGreatUlUmVsUoDmVtAfBsBr
import Derived.Test.YtcdfckjlmifjiaaGreatWiWjWvZeZfLh
import Derived.Test.YtcdfckjlmifjiaaGreatTaTbGaGbTcRg
import Derived.Test.YtcdfckjlmifjiaaGreatRfRhCqRrRwNjUbVaVg
import Derived.Test.YtcdfckjlmifjiaaGreatViDsAeBpDhVdVeBq
import Derived.Test.YtcdfckjlmifjiaaGreatRoUcVbDaVcDuOi
import Derived.Test.YtcdfckjlmifjiaaGreatEqDpAaDcUk
namespace Go.Proofs.YtcdfckjlmifjiaaGreat
open Go.RowKit
set_option linter.unusedVariables false
set_option linter.unusedSimpArgs false

theorem ez_nil (K E : Nat) (w : World) (B T : Nat) : EZ K E w B T [] ⟨none, 0, 0⟩ :=
  ⟨[], ⟨rfl, rfl, Nat.le_refl _, Nat.zero_le _, fun _ => rfl, PL.nil, fun j hj => absurd hj (Nat.not_lt_zero j)⟩, Nat.zero_le _, nofun, fun j hj => absurd hj (Nat.not_lt_zero j)⟩
theorem tr_cut (zss : List (List Int)) (i : Nat) : tr (gt (zss.take (olen zss)) i) = tr (gt zss i) := by
  rcases Nat.lt_or_ge i (olen zss) with h | h
  · rw [gt_take _ _ _ h]
  · rw [gt_over0 _ _ (by have := olen_le zss; simp; omega)]
    have h1 := olen_zero zss i h
    rw [tr, tr, h1]
    simp
theorem pzlen (f : Int → Int → Int) (a b : List Int) (E : Nat) (ha : a.length ≤ E) (hb : b.length ≤ E) : (tr (pz f (tr a) (tr b))).length ≤ E := by
  rw [length_tr]
  refine Nat.le_trans (tlen_le _) ?_
  have h1 := length_tr a
  have h2 := length_tr b
  have h3 := tlen_le a
  have h4 := tlen_le b
  simp only [pz, List.length_map, List.length_range]
  omega
/-- Two operators, entry by entry. -/
def opz (f : Int → Int → Int) (a b : List (List Int)) : List (List Int) := (List.range (max (olen a) (olen b))).map fun i => tr (pz f (tr (gt a i)) (tr (gt b i)))
end Go.Proofs.YtcdfckjlmifjiaaGreat
/-
  Sizes of small polynomials; upoly.Mul where one is zero (out of Ou, Oy, Pv).
-/
namespace Go.Proofs.YtcdfckjlmifjiaaGreat
open Go.RowKit
set_option linter.unusedVariables false
set_option linter.unusedSimpArgs false

theorem cnt_len (zs : List Int) : cnt zs ≤ zs.length := by
  have key : ∀ j, j ≤ zs.length → cnt (zs.take j) ≤ j := by
    intro j
    induction j with
    | zero => intro _; simp [cnt]
    | succ j ih =>
      intro hj
      have := ih (by omega)
      rw [cnt_take zs j (by omega)]
      split <;> omega
  have := key zs.length (Nat.le_refl _)
  rwa [List.take_length] at this
theorem sl_len (zs : List Int) (h : ∀ j, j < zs.length → zb (gx zs j) ≤ 32) : sl zs ≤ zs.length := by
  have key : ∀ j, j ≤ zs.length → sl (zs.take j) ≤ j := by
    intro j
    induction j with
    | zero => intro _; simp [sl]
    | succ j ih =>
      intro hj
      have h1 := ih (by omega)
      have h2 := h j (by omega)
      rw [sl_take zs j (by omega)]
      unfold zl
      omega
  have := key zs.length (Nat.le_refl _)
  rwa [List.take_length] at this
theorem zb_pb (zs : List Int) (j : Nat) (h : j < zs.length) : zb (gx zs j) ≤ pb zs := by
  have h1 : ∀ k, j < k → k ≤ zs.length → zb (gx zs j) ≤ pb (zs.take k) := by
    intro k
    induction k with
    | zero => intro h; omega
    | succ k ih =>
      intro h1 h2
      rw [pb_take zs k (by omega)]
      rcases Nat.lt_or_ge j k with h3 | h3
      · have := ih h3 (by omega)
        omega
      · have : k = j := by omega
        subst this
        omega
  have := h1 zs.length h (Nat.le_refl _)
  rwa [List.take_length] at this
theorem sl_lenk (K : Nat) (zs : List Int) (h : ∀ j, j < zs.length → zb (gx zs j) ≤ 32 * K) : sl zs ≤ K * zs.length := by
  have key : ∀ j, j ≤ zs.length → sl (zs.take j) ≤ K * j := by
    intro j
    induction j with
    | zero => intro _; simp [sl]
    | succ j ih =>
      intro hj
      have h1 := ih (by omega)
      have h2 := h j (by omega)
      rw [sl_take zs j (by omega), Nat.mul_succ]
      unfold zl
      omega
  have := key zs.length (Nat.le_refl _)
  rwa [List.take_length] at this
theorem bitLen_four (n : Nat) (h : n ≤ 4) : Lib.bitLen n ≤ 3 := by
  have : n = 0 ∨ n = 1 ∨ n = 2 ∨ n = 3 ∨ n = 4 := by omega
  rcases this with rfl | rfl | rfl | rfl | rfl <;> decide
theorem four_cost {a b c d s t wd f : Nat} (ha : a ≤ 4) (hb : b ≤ 4) (hc : c ≤ a) (hd : d ≤ b) (hs : s ≤ f * a) (ht : t ≤ f * b) (hw : f ≤ wd) : s * t + 80 * c * d ≤ wd * a * wd * b + 160 * (a + b) := by
  have h1 : s * t ≤ (f * a) * (f * b) := Nat.mul_le_mul hs ht
  have h2 : c * d ≤ a * b := Nat.mul_le_mul hc hd
  have h3 : 80 * c * d = 80 * (c * d) := Nat.mul_assoc 80 c d
  have h4 : (f * a) * (f * b) ≤ wd * a * wd * b := by
    rw [Nat.mul_assoc (wd * a)]
    exact Nat.mul_le_mul (Nat.mul_le_mul hw (Nat.le_refl _)) (Nat.mul_le_mul hw (Nat.le_refl _))
  have h5 : a * b ≤ 2 * (a + b) := by
    have ha' : a = 0 ∨ a = 1 ∨ a = 2 ∨ a = 3 ∨ a = 4 := by omega
    rcases ha' with rfl | rfl | rfl | rfl | rfl <;> omega
  omega
end Go.Proofs.YtcdfckjlmifjiaaGreat
/-
  ore.Scale, Order, Degree, Bits, Lead.
-/
namespace Go.Proofs.YtcdfckjlmifjiaaGreat
open Go.RowKit
set_option linter.unusedVariables false
set_option linter.unusedSimpArgs false

theorem mulp_le7 (zs ys : List Int) (h : zs.length ≤ 4) (k : ys.length ≤ 4) : (mulp (tr zs) (tr ys)).length ≤ 7 := by
  have h1 := tlen_le zs
  have h2 := tlen_le ys
  unfold mulp
  rw [length_tr, length_tr]
  split
  · simp
  · rw [length_mulz, length_tr, length_tr]; omega
end Go.Proofs.YtcdfckjlmifjiaaGreat
/-
  upoly.Eq.
-/
namespace Go.Proofs.YtcdfckjlmifjiaaGreat
open Go.RowKit
set_option linter.unusedVariables false
set_option linter.unusedSimpArgs false

theorem icmp_dec (x y : Int) : (icmp x y == 0) = decide (x = y) := by
  unfold icmp
  rcases Int.lt_trichotomy x y with h | h | h
  · rw [if_pos h]; simp; omega
  · subst h; simp
  · rw [if_neg (by omega), if_pos h]; simp; omega
end Go.Proofs.YtcdfckjlmifjiaaGreat
/-
  ore.Eq.
-/
namespace Go.Proofs.YtcdfckjlmifjiaaGreat
open Go.RowKit
set_option linter.unusedVariables false
set_option linter.unusedSimpArgs false

theorem map_tr_eq {a b : List (List Int)} (hl : a.length = b.length) (h : ∀ j, j < a.length → tr (gt a j) = tr (gt b j)) : a.map tr = b.map tr := by
  apply List.ext_getElem
  · simp [hl]
  · intro i h1 h2
    have h3 : i < a.length := by simpa using h1
    have h4 : i < b.length := by simpa using h2
    have h5 := h i h3
    simp [gt, h3, h4] at h5
    simp [h5]
theorem gt_tr_eq {a b : List (List Int)} (h : a.map tr = b.map tr) (j : Nat) (hj : j < a.length) : tr (gt a j) = tr (gt b j) := by
  have hl : a.length = b.length := by have := congrArg List.length h; simpa using this
  have h1 : (a.map tr)[j]? = (b.map tr)[j]? := by rw [h]
  simp [hj, show j < b.length by omega] at h1
  simp [gt, hj, show j < b.length by omega, h1]
end Go.Proofs.YtcdfckjlmifjiaaGreat
/-
  ashlarref1.Sign, Cmp.
-/
namespace Go.Proofs.YtcdfckjlmifjiaaGreat
open Go.RowKit
set_option linter.unusedVariables false
set_option linter.unusedSimpArgs false

theorem icmp_same16 {s t : Bool} {xs ys : List Int} (hX : U16 xs) (hY : U16 ys) (h : isgn (rval s xs) = isgn (rval t ys)) : isgn (rval s xs) * icmp (vd xs) (vd ys) = icmp (rval s xs) (rval t ys) := by
  have h1 := vd_nonneg hX
  have h2 := vd_nonneg hY
  rcases isgn_cases (rval s xs) with ⟨a1, a2⟩ | ⟨a1, a2⟩ | ⟨a1, a2⟩ <;> rcases isgn_cases (rval t ys) with ⟨b1, b2⟩ | ⟨b1, b2⟩ | ⟨b1, b2⟩ <;> rw [a2, b2] at h <;> (try (exact absurd h (by decide))) <;> rw [a2]
  · rw [a1, b1, icmp_eq, Int.zero_mul]
  · have e1 : s = true := by cases s <;> simp_all [rval] <;> omega
    have e2 : t = true := by cases t <;> simp_all [rval] <;> omega
    subst e1 e2
    simp only [rval, if_true]
    rcases Int.lt_trichotomy (vd xs) (vd ys) with g | g | g
    · rw [icmp_lt g, icmp_gt (by omega)]; rfl
    · rw [g, icmp_eq, icmp_eq]; rfl
    · rw [icmp_gt g, icmp_lt (by omega)]; rfl
  · have e1 : s = false := by cases s <;> simp_all [rval] <;> omega
    have e2 : t = false := by cases t <;> simp_all [rval] <;> omega
    subst e1 e2
    simp only [rval, Bool.false_eq_true, if_false, Int.one_mul]

end Go.Proofs.YtcdfckjlmifjiaaGreat
/-
  ashlarref3.Eq.
-/
namespace Go.Proofs.YtcdfckjlmifjiaaGreat
open Go.RowKit
set_option linter.unusedVariables false
set_option linter.unusedSimpArgs false

end Go.Proofs.YtcdfckjlmifjiaaGreat
/-
  The reference's operators: Is, Eq, Lead, Order, Degree, Bits, Sub.
-/
namespace Go.Proofs.YtcdfckjlmifjiaaGreat
open Go.RowKit
set_option linter.unusedVariables false
set_option linter.unusedSimpArgs false

end Go.Proofs.YtcdfckjlmifjiaaGreat
/-
  limbs.Sub of entries (out of Ut).
-/
namespace Go.Proofs.YtcdfckjlmifjiaaGreat
open Go.RowKit
set_option linter.unusedVariables false
set_option linter.unusedSimpArgs false

end Go.Proofs.YtcdfckjlmifjiaaGreat
/-
  upoly.Sub (out of Py).
-/
namespace Go.Proofs.YtcdfckjlmifjiaaGreat
open Go.RowKit
set_option linter.unusedVariables false
set_option linter.unusedSimpArgs false

end Go.Proofs.YtcdfckjlmifjiaaGreat
/-
  ore.Sub (out of Ad).
-/
namespace Go.Proofs.YtcdfckjlmifjiaaGreat
open Go.RowKit
set_option linter.unusedVariables false
set_option linter.unusedSimpArgs false

end Go.Proofs.YtcdfckjlmifjiaaGreat
/-
  The reference's operators: Degree, Bits, Sub.
-/
namespace Go.Proofs.YtcdfckjlmifjiaaGreat
open Go.RowKit
set_option linter.unusedVariables false
set_option linter.unusedSimpArgs false

theorem EY.le {N E N' E' : Nat} {w : World} {B T : Nat} {z : List Int} {h : Hdr} (k : EY N E w B T z h) (hN : N ≤ N') (hE : E ≤ E') : EY N' E' w B T z h := by
  obtain ⟨fs, a, b, c, d, e⟩ := k
  exact ⟨fs, ⟨a.el, a.zl, a.cap, a.bnd, a.pl, fun j hj => (a.ev j hj).wide hN⟩, b, c, Nat.le_trans d hE, e⟩
theorem HR.le {N E N' E' D : Nat} {w : World} {B T : Nat} {z : List (List Int)} {h : Hdr} (k : HR D (EY N E) w B T z h) (hN : N ≤ N') (hE : E ≤ E') : HR D (EY N' E') w B T z h := by
  obtain ⟨hs, a⟩ := k
  exact ⟨hs, a.el, a.tl, a.cap, a.bnd, a.pn, a.few, a.hl, a.at_, fun j hj => (a.ev j hj).le hN hE⟩
theorem length_otr (l : List (List Int)) : (otr l).length = olen l := by
  have := olen_le l
  simp [otr]
  omega
theorem gx_mulp1 (c : Int) (ys : List Int) (t : Nat) : gx (mulp [c] ys) t = c * gx ys t := by
  have h1 : ps [c] ys 1 t = c * gx ys t := by simp [ps, gx]
  unfold mulp
  by_cases h : ([c] : List Int).length = 0 ∨ ys.length = 0
  · rw [if_pos h]
    have h2 : ys = [] := List.eq_nil_of_length_eq_zero (by simpa using h)
    subst h2
    simp [gx]
  · rw [if_neg h]
    rcases Nat.lt_or_ge t ([c].length + ys.length - 1) with h2 | h2
    · rw [gx_mulz _ _ _ h2]
      exact h1
    · rw [gx_past _ ([c].length + ys.length - 1) (by rw [length_mulz]; exact Nat.le_refl _) t h2]
      rw [gx_past ys ys.length (Nat.le_refl _) t (by simp at h2; omega), Int.mul_zero]
theorem pz_minus (a b : List Int) : tr (pz (· + ·) a (mulp [-1] b)) = tr (pz (· - ·) a b) := by
  refine tr_same fun j => ?_
  rw [gx_pz0 _ rfl, gx_pz0 _ rfl, gx_mulp1]
  omega
end Go.Proofs.YtcdfckjlmifjiaaGreat
/-
  Plain facts on operators' normal forms.
-/
namespace Go.Proofs.YtcdfckjlmifjiaaGreat
open Go.RowKit
set_option linter.unusedVariables false
set_option linter.unusedSimpArgs false

theorem gt_rng (F : Nat → List Int) (M : Nat) (h : ∀ j, M ≤ j → F j = []) (j : Nat) : gt ((List.range M).map F) j = F j := by
  rcases Nat.lt_or_ge j M with hj | hj
  · simp [gt, hj]
  · rw [gt_over0 _ _ (by simpa using hj), h j hj]
theorem rng_oz (z : List (List Int)) : ((List.range (olen z)).map fun i => tr (gt z i)) = oz z := by
  apply List.ext_getElem
  · simp [length_oz]
  · intro i h1 h2
    have h3 : i < olen z := by simpa using h1
    have h4 : i < z.length := Nat.lt_of_lt_of_le h3 (olen_le z)
    simp [oz, gt, h4]
theorem rng_mul (F : List Int → List Int) (z : List (List Int)) : ((List.range (olen z)).map fun i => F (tr (gt z i))) = (oz z).map F := by
  rw [← rng_oz, List.map_map]
  rfl
theorem pz_nil (f : Int → Int → Int) : tr (pz f [] []) = [] := by simp [pz, tr]
theorem otr_sum (f : Int → Int → Int) (z y : List (List Int)) : otr ((List.range (max (oz z).length (oz y).length)).map fun i => tr (pz f (gt (oz z) i) (gt (oz y) i))) = otr (opz f z y) := by
  simp only [length_oz, gt_oz]
  rfl
theorem mulp_neg_nil {y : List Int} (h : tlen (mulp [-1] (tr y)) = 0) : mulp [-1] (tr y) = [] := by
  have h1 : tlen (tr y) = 0 := by
    rcases Nat.eq_zero_or_pos (tlen (tr y)) with h0 | h0
    · exact h0
    · have h2 := tlen_top (tr y) h0
      have h3 := tlen_zero _ (tlen (tr y) - 1) (by rw [h]; exact Nat.zero_le _)
      rw [gx_mulp1] at h3
      omega
  have h2 : tr y = [] := by rw [tlen_tr] at h1; exact tr_zero h1
  rw [h2]
  rfl
theorem gt_neg (y : List (List Int)) (j : Nat) : gt (otr ((oz y).map (mulp [-1]))) j = mulp [-1] (tr (gt y j)) := by
  have h0 : ∀ j, gt ((oz y).map (mulp [-1])) j = mulp [-1] (tr (gt y j)) := fun j => by
    rw [← gt_oz]
    rcases Nat.lt_or_ge j (oz y).length with h | h
    · simp [gt, h]
    · rw [gt_over0 _ _ (by simpa using h), gt_over0 _ _ h]
      rfl
  rcases Nat.lt_or_ge j (olen ((oz y).map (mulp [-1]))) with h | h
  · rw [otr, gt_take _ _ _ h, h0]
  · rw [gt_over0 _ _ (by rw [length_otr]; exact h)]
    have h1 := olen_zero _ j h
    rw [h0] at h1
    exact (mulp_neg_nil h1).symm
theorem olen_neg (y : List (List Int)) : olen ((oz y).map (mulp [-1])) = olen y := by
  refine olen_tlen fun j => ?_
  have h0 : gt ((oz y).map (mulp [-1])) j = mulp [-1] (tr (gt y j)) := by
    rw [← gt_oz]
    rcases Nat.lt_or_ge j (oz y).length with h | h
    · simp [gt, h]
    · rw [gt_over0 _ _ (by simpa using h), gt_over0 _ _ h]
      rfl
  rw [h0]
  refine tlen_eq _ _ (fun i hi => ?_) ?_
  · rw [gx_mulp1, gx_tr, tlen_zero _ _ hi]
    rfl
  · rcases Nat.eq_zero_or_pos (tlen (gt y j)) with h1 | h1
    · exact .inl h1
    · refine .inr ?_
      rw [gx_mulp1, gx_tr]
      have := tlen_top (gt y j) h1
      omega
theorem otr_dif (z y : List (List Int)) : otr ((List.range (max (oz z).length (olen ((oz y).map (mulp [-1]))))).map fun i => tr (pz (· + ·) (gt (oz z) i) (gt (otr ((oz y).map (mulp [-1]))) i))) = otr (opz (· - ·) z y) := by
  simp only [length_oz, gt_oz, olen_neg, gt_neg, pz_minus]
  rfl
end Go.Proofs.YtcdfckjlmifjiaaGreat
/-
  What lasts while its own memory does; ore.convert with a function that writes elsewhere.
-/
namespace Go.Proofs.YtcdfckjlmifjiaaGreat
open Go.RowKit
set_option linter.unusedVariables false
set_option linter.unusedSimpArgs false

/-- What is said of an element, whose memory lies from B to T, hangs on that memory alone. -/
def LastsB {α : Type} (E : World → Nat → Nat → α → Hdr → Prop) : Prop :=
  ∀ {w w' : World} {B T : Nat} {z : α} {h : Hdr}, E w B T z h → T ≤ w.heap.size → (∀ b, B ≤ b → b < T → w'.heap[b]? = w.heap[b]?) → E w' B T z h
theorem EV.same {w w' : World} {K : Nat} {z : Int} {e : Ent} (h : EV w K z e) (hs : 0 < e.n → ∀ a, e.p = some a → w'.heap[a.block]? = w.heap[a.block]?) : EV w' K z e := by
  obtain ⟨xs, k, h2⟩ := h
  refine ⟨xs, ⟨k.len, k.cap, k.bnd, k.sml, fun hx => (k.rd.same fun a ha _ => hs ?_ a ha) hx, k.u⟩, h2⟩
  rw [← k.len]
  exact hx
theorem RE.same {w w' : World} {N : Nat} {z : Int} {e : Ent} (h : RE w N z e) (hs : 0 < e.n → ∀ a, e.p = some a → w'.heap[a.block]? = w.heap[a.block]?) : RE w' N z e := by
  obtain ⟨⟨ds, k, h2⟩, h3⟩ := h
  refine ⟨⟨ds, ⟨k.len, fun hx => (k.rd.same fun a ha _ => hs ?_ a ha) hx, k.u, k.nrm, k.sg, k.sml⟩, h2⟩, h3⟩
  rw [← k.len]
  exact hx
theorem lastsB_EZ (K D : Nat) : LastsB (EZ K D) := fun {w w' B T z h} he hT hs => by
  obtain ⟨fs, k, h1, h2, h3⟩ := he
  refine ⟨fs, ⟨k.el, k.zl, k.cap, k.bnd, k.pn, fun hx => (k.pl.same fun a ha hlt => ?_) hx, fun j hj => (k.ev j hj).same fun hn a ha => ?_⟩, h1, h2, h3⟩
  · have h4 := h2 a ha (by rw [← k.el]; exact hx)
    exact hs _ h4.1 h4.2
  · have h4 := h3 j hj hn a ha
    exact hs _ h4.1 h4.2
theorem lastsB_EY (N D : Nat) : LastsB (EY N D) := fun {w w' B T z h} he hT hs => by
  obtain ⟨fs, k, e1, e2, h1, h2, h3⟩ := he
  refine ⟨fs, ⟨k.el, k.zl, k.cap, k.bnd, fun hx => (k.pl.same fun a ha hlt => ?_) hx, fun j hj => (k.ev j hj).same fun hn a ha => ?_⟩, e1, e2, h1, h2, h3⟩
  · have h4 := h2 a ha (by rw [← k.el]; exact hx)
    exact hs _ h4.1 h4.2
  · have h4 := h3 j hj hn a ha
    exact hs _ h4.1 h4.2
theorem lastsB_HR {α : Type} [Inhabited α] {D : Nat} {E : World → Nat → Nat → α → Hdr → Prop} (L : LastsB E) : LastsB (HR D E) := fun {w w' B T z h} he hT hs => by
  obtain ⟨rs, k⟩ := he
  refine ⟨rs, k.el, k.tl, k.cap, k.bnd, k.pn, k.few, k.hl.same fun a ha hn hlt => ?_, k.at_, fun j hj => L (k.ev j hj) hT hs⟩
  have h1 := k.at_ a ha (by rw [← k.el]; exact hn)
  exact hs _ h1.1 h1.2
/-- Of what was there, only blocks from lo to base may have changed. -/
structure Kq (lo base : Nat) (w w' : World) : Prop where
  os : w'.os = w.os
  tape : w'.tape = w.tape
  output : w'.output = w.output
  size : w.heap.size ≤ w'.heap.size
  block : ∀ k, k < w.heap.size → (k < lo ∨ base ≤ k) → w'.heap[k]? = w.heap[k]?
section
variable {lo base : Nat} {w w1 w2 : World}
theorem Kq.refl (lo base : Nat) (w : World) : Kq lo base w w := ⟨rfl, rfl, rfl, Nat.le_refl _, fun _ _ _ => rfl⟩
theorem Kq.of (h : Below w.heap.size w w1) : Kq lo base w w1 := ⟨h.os, h.tape, h.output, h.size, fun k hk _ => h.block k hk⟩
theorem Kq.trans (h : Kq lo base w w1) (k : Kq lo base w1 w2) : Kq lo base w w2 :=
  ⟨k.os.trans h.os, k.tape.trans h.tape, k.output.trans h.output, Nat.le_trans h.size k.size, fun i hi hx => (k.block i (Nat.lt_of_lt_of_le hi h.size) hx).trans (h.block i hi hx)⟩
theorem Kq.put (h : Kq lo base w w1) (a : Addr) (v : Value) (ha : (lo ≤ a.block ∧ a.block < base) ∨ w.heap.size ≤ a.block) : Kq lo base w (w1.setCell a v) :=
  ⟨h.os, h.tape, h.output, by simpa [World.setCell] using h.size, fun i hi hx => by
    rw [Below.heap_setCell w1 a v i (by omega)]
    exact h.block i hi hx⟩
theorem Kq.below {n : Nat} (h : Kq lo base w w1) (hn : n ≤ lo) (hs : n ≤ w.heap.size) : Below n w w1 := ⟨h.os, h.tape, h.output, h.size, fun k hk => h.block k (by omega) (by omega)⟩
end
theorem PN.kp {lo base B : Nat} {w w' : World} {K : Nat} {p : Option Addr} {n : Nat} {es : List Ent} {zs : List Int} (h : PN B w K p n es zs) (hk : Kq lo base w w') (hB : base ≤ B) : PN B w' K p n es zs := by
  refine ⟨h.el, h.zl, h.nrm, h.pl.same fun a ha hlt => hk.block _ hlt (.inr (Nat.le_trans hB (h.fr a ha))), h.fr, fun j hj => ?_⟩
  obtain ⟨xs, k, h2⟩ := h.ev j hj
  have hbl : ∀ a, (ge es j).p = some a → a.block < w.heap.size → w'.heap[a.block]? = w.heap[a.block]? := fun a ha hlt => hk.block _ hlt (.inr (Nat.le_trans hB (k.fr a ha)))
  refine ⟨xs, ⟨k.len, k.rd.same hbl, k.u, k.nrm, k.sg, k.pn, k.v, k.fr, fun a ha => ⟨Nat.lt_of_lt_of_le (k.fz a ha).1 hk.size, fun i => ?_⟩⟩, h2⟩
  have h3 := hbl a ha (k.fz a ha).1
  have h4 := (k.fz a ha).2 i
  simp only [World.frozen?] at h4 ⊢
  rw [h3]
  exact h4
/-- The first of an answer's entries are there. -/
def CK (F : Nat → List Int) (lo base K E g n i : Nat) (w wr : World) : Prop :=
  ∃ hs : List Hdr, HB wr g hs ∧ hs.length = n ∧ (∀ r, r < i → (gh hs r).c = (gh hs r).n ∧ (gh hs r).n ≤ E ∧ ∃ es, PN (g + 1) wr K (gh hs r).p (gh hs r).n es (F r)) ∧ Kq lo base w wr ∧ w.heap.size ≤ g ∧ base ≤ g
theorem CK.step {F : Nat → List Int} {lo base K E g n i : Nat} {w wr v3 : World} {p3 : Option Addr} {n3 : Nat} {es3 : List Ent} (h : CK F lo base K E g n i w wr) (hi : i < n) (hv : Kq lo base wr v3) (hN : PN (g + 1) v3 K p3 n3 es3 (F i)) (hE : n3 ≤ E) : CK F lo base K E g n (i + 1) w (v3.setCell ⟨g, i, none⟩ (.slice p3 n3 n3)) := by
  obtain ⟨hs, h1, h2, h3, h4, h5, h6⟩ := h
  have h1' : HB v3 g hs := (hv.block g h1.lt (.inr h6)).trans h1
  refine ⟨hs.set i ⟨p3, n3, n3⟩, h1'.set i ⟨p3, n3, n3⟩, by simp [h2], fun r hr => ?_, (h4.trans hv).put ⟨g, i, none⟩ _ (.inr h5), h5, h6⟩
  rw [gh_set _ _ _ _ (by omega)]
  by_cases e : r = i
  · subst e
    rw [if_pos rfl]
    exact ⟨rfl, hE, es3, hN.put (Nat.lt_succ_self g) _⟩
  · rw [if_neg e]
    obtain ⟨a, b, es, c⟩ := h3 r (by omega)
    exact ⟨a, b, es, (c.kp hv (by omega)).put (Nat.lt_succ_self g) _⟩
theorem CK.no {F : Nat → List Int} {lo base K E g n : Nat} {w wr : World} (h : CK F lo base K E g n n w wr) : ∃ hs, NO g wr K E ((List.range n).map F) (some ⟨g, 0, none⟩) n hs := by
  obtain ⟨hs, h1, h2, h3, h4, h5, h6⟩ := h
  refine ⟨hs, h2, by simp, fun hp => ⟨g, 0, rfl, fun j hj => by rw [Nat.zero_add]; exact h1.cell j hj⟩, fun a ha => by cases ha; exact Nat.le_refl _, fun j hj => ?_⟩
  obtain ⟨a, b, es, c⟩ := h3 j hj
  refine ⟨a, b, es, ?_⟩
  have e : gt ((List.range n).map F) j = F j := by simp [gt, hj]
  rw [e]
  exact c.mono (Nat.le_succ g)
theorem NO.hrow {B : Nat} {w : World} {K E : Nat} {l : List (List Int)} {p : Option Addr} {n : Nat} {hs : List Hdr} (h : NO B w K E l p n hs) (hK : K ≤ 1000) (hE : E ≤ 1000000) (hn : n ≤ 1000000) : HRow n (EZ K E) w B w.heap.size l ⟨p, n, n⟩ hs := by
  refine ⟨h.el, h.tl, Nat.le_refl _, by show n ≤ maxLen; unfold maxLen; omega, fun e => ?_, Nat.le_refl _, h.hl, fun a ha h0 => ⟨h.fr a ha, ?_⟩, fun j hj => ?_⟩
  · rcases Nat.eq_zero_or_pos n with h0 | h0
    · exact h0
    · obtain ⟨b, o, hb, -⟩ := h.hl (by rw [h.el]; exact h0)
      simp only at e
      rw [hb] at e
      cases e
  · obtain ⟨b, o, hb, hc⟩ := h.hl (by rw [h.el]; exact h0)
    simp only at ha
    rw [hb] at ha
    cases ha
    exact block_lt_of_cell (hc 0 (by rw [h.el]; exact h0))
  · obtain ⟨a, b, es, c⟩ := h.ev j hj
    have h1 := ez_of_pn c hK b hE
    have e : (⟨(gh hs j).p, (gh hs j).n, (gh hs j).n⟩ : Hdr) = gh hs j := by
      generalize gh hs j = x at a
      obtain ⟨x1, x2, x3⟩ := x
      simp only at a
      rw [a]
    rw [e] at h1
    exact h1
/-- What convert answers, where its function writes. -/
def OpK (lo base : Nat) (I : World → Prop) (l : List (List Int)) (K E : Nat) (w : World) (e : Ending) (w' : World) : Prop :=
  ∃ p hs, e = .returned (.slice p (olen l) (olen l)) ∧ NO w.heap.size w' K E (otr l) p (olen l) hs ∧ I w' ∧ Kq lo base w w'
end Go.Proofs.YtcdfckjlmifjiaaGreat
/-
  What walks of laws share: answers that lie in memory of their own (operators, polynomials, numbers that are cut, and what the reference makes of them).
-/
namespace Go.Proofs.YtcdfckjlmifjiaaGreat
open Go.RowKit
set_option linter.unusedVariables false
set_option linter.unusedSimpArgs false

/-- LastsB, in one piece. -/
structure LB {α : Type} (E : World → Nat → Nat → α → Hdr → Prop) : Prop where
  go : ∀ (w w' : World) (B T : Nat) (z : α) (h : Hdr), E w B T z h → T ≤ w.heap.size → (∀ b, B ≤ b → b < T → w'.heap[b]? = w.heap[b]?) → E w' B T z h
/-- It lies in memory of its own: from block lo on, off the blocks of X. -/
def Lies {α : Type} (E : World → Nat → Nat → α → Hdr → Prop) (lo : Nat) (X : Nat → Prop) (w : World) (z : α) (h : Hdr) : Prop := ∃ B T, E w B T z h ∧ T ≤ w.heap.size ∧ lo ≤ B ∧ ∀ b, X b → b < B ∨ T ≤ b
section
variable {α : Type} {E : World → Nat → Nat → α → Hdr → Prop} {lo : Nat} {X Y : Nat → Prop} {w w' : World} {z : α} {h : Hdr}
theorem Lies.below (k : Lies E lo X w z h) (L : LB E) (hb : Below w.heap.size w w') : Lies E lo X w' z h := by
  obtain ⟨B, T, h1, h2, h3, h4⟩ := k
  exact ⟨B, T, L.go _ _ _ _ _ _ h1 h2 fun b _ hb' => hb.block b (by omega), Nat.le_trans h2 hb.size, h3, h4⟩
theorem Lies.add (k : Lies E lo X w z h) {c : Nat} (hc : w.heap.size ≤ c) : Lies E lo (fun b => X b ∨ b = c) w z h := by
  obtain ⟨B, T, h1, h2, h3, h4⟩ := k
  refine ⟨B, T, h1, h2, h3, fun b hb => ?_⟩
  rcases hb with hb | hb
  · exact h4 b hb
  · right; omega
theorem Lies.sub (k : Lies E lo X w z h) (hs : ∀ b, Y b → X b) : Lies E lo Y w z h := by
  obtain ⟨B, T, h1, h2, h3, h4⟩ := k
  exact ⟨B, T, h1, h2, h3, fun b hb => h4 b (hs b hb)⟩
theorem Lies.put (k : Lies E lo X w z h) (L : LB E) {g o : Nat} (hg : g < lo ∨ X g) (v : Value) : Lies E lo X (w.setCell ⟨g, o, none⟩ v) z h := by
  obtain ⟨B, T, h1, h2, h3, h4⟩ := k
  refine ⟨B, T, L.go _ _ _ _ _ _ h1 h2 fun b hB hT => heap_setCell_other w ⟨g, o, none⟩ b v fun e => ?_, by simpa [World.setCell] using h2, h3, h4⟩
  simp only at e
  subst e
  rcases hg with hg | hg
  · omega
  · have := h4 b hg; omega
theorem Lies.down {lo' : Nat} (k : Lies E lo X w z h) (hl : lo' ≤ lo) : Lies E lo' X w z h := by
  obtain ⟨B, T, h1, h2, h3, h4⟩ := k
  exact ⟨B, T, h1, h2, by omega, h4⟩
end
/-- A number that is handed in, in memory of its own. -/
def NumX (K lo : Nat) (X : Nat → Prop) (w : World) (y : Int) (u : Ent) : Prop := EV w K y u ∧ (0 < u.n → ∀ a, u.p = some a → lo ≤ a.block ∧ ¬ X a.block)
/-- A number of the reference. -/
def RnX (N lo : Nat) (X : Nat → Prop) (w : World) (y : Int) (u : Ent) : Prop := RE w N y u ∧ (0 < u.n → ∀ a, u.p = some a → lo ≤ a.block ∧ ¬ X a.block)
section
variable {K lo : Nat} {X Y : Nat → Prop} {w w' : World} {y : Int} {u : Ent}
theorem NumX.below (k : NumX K lo X w y u) (hb : Below w.heap.size w w') : NumX K lo X w' y u := ⟨k.1.below hb, k.2⟩
theorem NumX.add (k : NumX K lo X w y u) {c : Nat} (hc : w.heap.size ≤ c) : NumX K lo (fun b => X b ∨ b = c) w y u := ⟨k.1, fun hn a ha => ⟨(k.2 hn a ha).1, fun h => by
  rcases h with h | h
  · exact (k.2 hn a ha).2 h
  · have := (lasts_EV K).lt k.1 hn a ha
    omega⟩⟩
theorem NumX.sub (k : NumX K lo X w y u) (hs : ∀ b, Y b → X b) : NumX K lo Y w y u := ⟨k.1, fun hn a ha => ⟨(k.2 hn a ha).1, fun h => (k.2 hn a ha).2 (hs _ h)⟩⟩
theorem NumX.put (k : NumX K lo X w y u) {g o : Nat} (hg : g < lo ∨ X g) (v : Value) : NumX K lo X (w.setCell ⟨g, o, none⟩ v) y u := ⟨k.1.same fun hn a ha => heap_setCell_other w ⟨g, o, none⟩ a.block v fun e => by
  simp only at e
  have h1 := k.2 hn a ha
  rcases hg with hg | hg
  · omega
  · rw [e] at h1; exact h1.2 hg, k.2⟩
theorem RnX.below (k : RnX K lo X w y u) (hb : Below w.heap.size w w') : RnX K lo X w' y u := ⟨k.1.below hb, k.2⟩
theorem RnX.add (k : RnX K lo X w y u) {c : Nat} (hc : w.heap.size ≤ c) : RnX K lo (fun b => X b ∨ b = c) w y u := ⟨k.1, fun hn a ha => ⟨(k.2 hn a ha).1, fun h => by
  rcases h with h | h
  · exact (k.2 hn a ha).2 h
  · have := (lasts_RE K).lt k.1 hn a ha
    omega⟩⟩
theorem RnX.sub (k : RnX K lo X w y u) (hs : ∀ b, Y b → X b) : RnX K lo Y w y u := ⟨k.1, fun hn a ha => ⟨(k.2 hn a ha).1, fun h => (k.2 hn a ha).2 (hs _ h)⟩⟩
theorem RnX.put (k : RnX K lo X w y u) {g o : Nat} (hg : g < lo ∨ X g) (v : Value) : RnX K lo X (w.setCell ⟨g, o, none⟩ v) y u := ⟨k.1.same fun hn a ha => heap_setCell_other w ⟨g, o, none⟩ a.block v fun e => by
  simp only at e
  have h1 := k.2 hn a ha
  rcases hg with hg | hg
  · omega
  · rw [e] at h1; exact h1.2 hg, k.2⟩
end
/-- Some value of a kind that lies in memory of its own. -/
def Ax.lies {α : Type} (E : World → Nat → Nat → α → Hdr → Prop) (L : LB E) (lo : Nat) : Ax := ⟨fun X v w => ∃ (h : Hdr) (z : α), v = .slice h.p h.n h.c ∧ Lies E lo X w z h, fun ⟨h, z, a, b⟩ hb => ⟨h, z, a, b.below L hb⟩, fun ⟨h, z, a, b⟩ hc => ⟨h, z, a, b.add hc⟩, fun ⟨h, z, a, b⟩ hs => ⟨h, z, a, b.sub hs⟩⟩
/-- This value of a kind. -/
def Ax.told {α : Type} (E : World → Nat → Nat → α → Hdr → Prop) (L : LB E) (lo : Nat) (z : α) : Ax := ⟨fun X v w => ∃ h : Hdr, v = .slice h.p h.n h.c ∧ Lies E lo X w z h, fun ⟨h, a, b⟩ hb => ⟨h, a, b.below L hb⟩, fun ⟨h, a, b⟩ hc => ⟨h, a, b.add hc⟩, fun ⟨h, a, b⟩ hs => ⟨h, a, b.sub hs⟩⟩
/-- A list of one entry that is built. -/
def Ax.lit (e : Ent) : Ax := ⟨fun _ v w => ∃ b, v = .slice (some ⟨b, 0, none⟩) 1 1 ∧ w.cell? ⟨b, 0, none⟩ = some (.bool e.s) ∧ w.cell? ⟨b, 1, none⟩ = some (.slice e.p e.n e.c), fun ⟨b, a, c, d⟩ hb => ⟨b, a, cell_later hb c, cell_later hb d⟩, fun h _ => h, fun h _ => h⟩
/-- A list of one number, its first entry's address, the entry. -/
def One (w : World) (b o : Nat) (u : Ent) : Prop := w.cell? ⟨b, o, none⟩ = some (.bool u.s) ∧ w.cell? ⟨b, o + 1, none⟩ = some (.slice u.p u.n u.c)
theorem One.below {w w' : World} {b o : Nat} {u : Ent} (h : One w b o u) (hb : Below w.heap.size w w') : One w' b o u := ⟨cell_later hb h.1, cell_later hb h.2⟩
def Ax.one (K lo : Nat) : Ax := ⟨fun X v w => ∃ b o c u y, v = .slice (some ⟨b, o, none⟩) 1 c ∧ One w b o u ∧ NumX K lo X w y u, fun ⟨b, o, c, u, y, a, h, k⟩ hb => ⟨b, o, c, u, y, a, h.below hb, k.below hb⟩, fun ⟨b, o, c, u, y, a, h, k⟩ hc => ⟨b, o, c, u, y, a, h, k.add hc⟩, fun ⟨b, o, c, u, y, a, h, k⟩ hs => ⟨b, o, c, u, y, a, h, k.sub hs⟩⟩
def Ax.oneAt (K lo : Nat) : Ax := ⟨fun X v w => ∃ b o u y, v = .pointer (some ⟨b, o, none⟩) ∧ One w b o u ∧ NumX K lo X w y u, fun ⟨b, o, u, y, a, h, k⟩ hb => ⟨b, o, u, y, a, h.below hb, k.below hb⟩, fun ⟨b, o, u, y, a, h, k⟩ hc => ⟨b, o, u, y, a, h, k.add hc⟩, fun ⟨b, o, u, y, a, h, k⟩ hs => ⟨b, o, u, y, a, h, k.sub hs⟩⟩
def Ax.num (K lo : Nat) : Ax := ⟨fun X v w => ∃ u y, v = .agg #[.bool (Ent.s u), .slice u.p u.n u.c] ∧ NumX K lo X w y u, fun ⟨u, y, a, h⟩ hb => ⟨u, y, a, h.below hb⟩, fun ⟨u, y, a, h⟩ hc => ⟨u, y, a, h.add hc⟩, fun ⟨u, y, a, h⟩ hs => ⟨u, y, a, h.sub hs⟩⟩
/-- The reference's number. -/
def Ax.rnum (N lo : Nat) (y : Int) : Ax := ⟨fun X v w => ∃ u, v = .agg #[.bool (Ent.s u), .slice u.p u.n u.c] ∧ RnX N lo X w y u, fun ⟨u, a, h⟩ hb => ⟨u, a, h.below hb⟩, fun ⟨u, a, h⟩ hc => ⟨u, a, h.add hc⟩, fun ⟨u, a, h⟩ hs => ⟨u, a, h.sub hs⟩⟩
/-- The kinds: operators and polynomials, of the program and of the reference. -/
abbrev EOp (D E K : Nat) := HR D (EZ K E)
abbrev EOr (D E N : Nat) := HR D (EY N E)
theorem lEZ (K E : Nat) : LB (EZ K E) := ⟨fun _ _ _ _ _ _ a b c => lastsB_EZ K E a b c⟩
theorem lEY (K E : Nat) : LB (EY K E) := ⟨fun _ _ _ _ _ _ a b c => lastsB_EY K E a b c⟩
theorem lOp (D E K : Nat) : LB (EOp D E K) := ⟨fun _ _ _ _ _ _ a b c => lastsB_HR (E := EZ K E) (fun a b c => lastsB_EZ K E a b c) a b c⟩
theorem lOr (D E N : Nat) : LB (EOr D E N) := ⟨fun _ _ _ _ _ _ a b c => lastsB_HR (E := EY N E) (fun a b c => lastsB_EY N E a b c) a b c⟩
section
variable {w v : World} {lo : Nat} {X : Nat → Prop}
theorem cut8_ax {p : Option Addr} {n nc : Nat} {hs0 : List Hdr} (h : RZ w p n nc hs0) (hb : Below w.heap.size w v) (hX : ∀ c, X c → c < v.heap.size) (hlo : lo ≤ v.heap.size) (R E L : Nat) (hR : R ≤ 1000) (hE : E ≤ 1000) (hL : L ≤ 24) :
    Calls Tryz.prog 5 #[.slice p n nc, .int .i64 R, .int .i64 E, .int .i64 L] v fun e w' => ∃ u, e = .returned u ∧ (Ax.lies (EOp (R + 1) E L) (lOp _ _ _) lo).is X u w' ∧ Below v.heap.size v w' := by
  refine (Cut8_any (h.below hb) R E L hR hE hL).mono ?_
  rintro e w' ⟨k, z, rfl, -, h2, h3⟩
  exact ⟨_, rfl, ⟨k, z, rfl, _, _, h2, Nat.le_refl _, hlo, fun b hb' => .inl (hX b hb')⟩, h3⟩
theorem cut3_ax {p : Option Addr} {n nc : Nat} {es0 : List Ent} (h : PZ w p n nc es0) (hb : Below w.heap.size w v) (hX : ∀ c, X c → c < v.heap.size) (hlo : lo ≤ v.heap.size) (E L : Nat) (hE : E ≤ 1000) (hL : L ≤ 24) :
    Calls Tryz.prog 22 #[.slice p n nc, .int .i64 E, .int .i64 L] v fun e w' => ∃ u, e = .returned u ∧ (Ax.lies (EZ L E) (lEZ _ _) lo).is X u w' ∧ Below v.heap.size v w' := by
  refine (Cut3_any (h.below hb) E L hE hL).mono ?_
  rintro e w' ⟨q, m, mc, fs, zs, rfl, h2, h3, h4, h5, h6⟩
  exact ⟨_, rfl, ⟨⟨q, m, mc⟩, zs, rfl, _, _, ez_cut h2 h3 h4 h5, Nat.le_refl _, hlo, fun b hb' => .inl (hX b hb')⟩, h6⟩
theorem cut1_ax {b : Nat} {e : Ent} (hr : RawE w e) (hb : Below w.heap.size w v) (c0 : v.cell? ⟨b, 0, none⟩ = some (.bool e.s)) (c1 : v.cell? ⟨b, 1, none⟩ = some (.slice e.p e.n e.c)) (hX : ∀ c, X c → c < v.heap.size) (hlo : lo ≤ v.heap.size) (L : Nat) (hL : L ≤ 24) :
    Calls Tryz.prog 22 #[.slice (some ⟨b, 0, none⟩) 1 1, .int .i64 1, .int .i64 L] v fun e w' => ∃ u, e = .returned u ∧ (Ax.one L lo).is X u w' ∧ Below v.heap.size v w' := by
  refine (Cut3_any (pz_lit c0 c1 (hr.below hb)) 1 L (by decide) hL).mono ?_
  rintro r w' ⟨q2, n2, mc2, fs2, zs2, rfl, hP2, hm2, hF4, hG4, hb2⟩
  obtain rfl : n2 = 1 := hm2
  obtain ⟨b2, c2, hq2, hc2⟩ := hP2.pl (by rw [hP2.el]; decide)
  subst hq2
  obtain ⟨i0, i1⟩ := hc2 0 (by rw [hP2.el]; decide)
  rw [Nat.zero_mul, Nat.add_zero] at i0 i1
  exact ⟨_, rfl, ⟨b2, c2, mc2, _, _, rfl, ⟨i0, i1⟩, hP2.ev 0 (by decide), fun hn a ha => by
    have h1 := hG4 0 (by decide) hn a ha
    exact ⟨by omega, fun h => by have := hX _ h; omega⟩⟩, hb2⟩
theorem from8_ax {D E K lo' : Nat} {Y : Nat → Prop} {z : List (List Int)} {h : Hdr} (k : Lies (EOp D E K) lo' Y w z h) (hb : Below w.heap.size w v) (hX : ∀ c, X c → c < v.heap.size) (hlo : lo ≤ v.heap.size) (hD : D ≤ 1000) (hE : E ≤ 1000) (hK : K ≤ 400) :
    Calls Tryz.prog 7 #[.slice h.p h.n h.c] v fun e w' => ∃ u, e = .returned u ∧ (Ax.told (EOr D E (2 * K)) (lOr _ _ _) lo (oz z)).is X u w' ∧ Below v.heap.size v w' := by
  obtain ⟨B, T, a, b, -, -⟩ := k.below (lOp _ _ _) hb
  refine (rFrom8_any a b hD hE hK).mono ?_
  rintro e w' ⟨u, rfl, h1, h2⟩
  rw [olen_mapt] at h1 ⊢
  rw [otr_mapt] at h1
  exact ⟨_, rfl, ⟨⟨u, olen z, olen z⟩, rfl, _, _, h1, Nat.le_refl _, hlo, fun b hb' => .inl (hX b hb')⟩, h2⟩
theorem from3_ax {K D lo' : Nat} {Y : Nat → Prop} {zs : List Int} {h : Hdr} (k : Lies (EZ K D) lo' Y w zs h) (hb : Below w.heap.size w v) (hX : ∀ c, X c → c < v.heap.size) (hlo : lo ≤ v.heap.size) (hD : D ≤ 100000) (hK : K ≤ 400) :
    Calls Tryz.prog 24 #[.slice h.p h.n h.c] v fun e w' => ∃ u, e = .returned u ∧ (Ax.told (EY (2 * K) D) (lEY _ _) lo (tr zs)).is X u w' ∧ Below v.heap.size v w' := by
  obtain ⟨B, T, ⟨fs, a, hn, -, -⟩, b, -, -⟩ := k.below (lEZ _ _) hb
  refine (rpFrom_new a (by omega) hK).mono ?_
  rintro r w2 ⟨px, nx, ex, rfl, hRx, hFx, htx, hGx, hb2⟩
  have hl : nx ≤ D := by
    have h1 := tlen_le zs
    have h2 := a.zl
    rw [tlen_tr] at htx
    omega
  exact ⟨_, rfl, ⟨⟨px, nx, nx⟩, rfl, _, _, ey_of_from hRx hFx htx hGx hl, Nat.le_refl _, hlo, fun b hb' => .inl (hX b hb')⟩, hb2⟩
theorem from1_ax {K lo' : Nat} {Y : Nat → Prop} {y : Int} {u : Ent} (h : NumX K lo' Y w y u) (hb : Below w.heap.size w v) (hX : ∀ c, X c → c < v.heap.size) (hlo : lo ≤ v.heap.size) :
    Calls Tryz.prog 51 #[.agg #[.bool u.s, .slice u.p u.n u.c]] v fun e w' => ∃ u, e = .returned u ∧ (Ax.rnum (2 * K) lo y).is X u w' ∧ Below v.heap.size v w' := by
  refine (rFrom_e (h.1.below hb)).mono ?_
  rintro r x2 ⟨u2, rfl, hR2, hF2, hx2⟩
  exact ⟨_, rfl, ⟨u2, rfl, hR2, fun _ a ha => by
    have h1 := hF2 a ha
    exact ⟨by omega, fun h => by have := hX _ h; omega⟩⟩, hx2⟩
end
end Go.Proofs.YtcdfckjlmifjiaaGreat
