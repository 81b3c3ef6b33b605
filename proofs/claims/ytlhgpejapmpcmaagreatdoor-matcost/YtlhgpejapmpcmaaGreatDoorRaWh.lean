/-
  The reference numbers: digits to the base 65536; ashlarref1.trim.
-/
import Derived.Test.YtlhgpejapmpcmaaGreatDoorWlBxOw
import Derived.Test.YtlhgpejapmpcmaaGreatDoorNi
namespace Go.Proofs.YtlhgpejapmpcmaaGreatDoor
open Go.RowKit
set_option linter.unusedVariables false
set_option linter.unusedSimpArgs false

/-- The number of digits to the base 65536, the lowest first. -/
def vd : List Int → Int
  | [] => 0
  | x :: r => x + 65536 * vd r
/-- Each entry is such a digit. -/
def U16 (xs : List Int) : Prop := ∀ j, 0 ≤ gx xs j ∧ gx xs j < 65536
/-- Limbs as digits. -/
def spl : List Int → List Int
  | [] => []
  | x :: r => x % 65536 :: x / 65536 :: spl r
theorem vd_spl (xs : List Int) : vd (spl xs) = val xs := by
  induction xs with
  | nil => rfl
  | cons x r ih => simp only [spl, vd, val, ih]; omega
theorem length_spl (xs : List Int) : (spl xs).length = 2 * xs.length := by
  induction xs with
  | nil => rfl
  | cons x r ih => simp only [spl, List.length_cons, ih]; omega
theorem u16_cons {x : Int} {r : List Int} (h0 : 0 ≤ x ∧ x < 65536) (h : U16 r) : U16 (x :: r) := fun j => by
  cases j with
  | zero => rw [gx_zero]; exact h0
  | succ j => rw [gx_succ]; exact h j
theorem u16_spl {xs : List Int} (h : U32 xs) : U16 (spl xs) := by
  induction xs with
  | nil => intro j; rw [spl, gx_nil]; decide
  | cons x r ih =>
    obtain ⟨h1, h2⟩ := u32_cons h
    exact u16_cons (by omega) (u16_cons (by omega) (ih h2))
theorem spl_append (a b : List Int) : spl (a ++ b) = spl a ++ spl b := by
  induction a with
  | nil => rfl
  | cons x r ih => simp only [List.cons_append, spl, ih]
theorem vd_append_zeros (a b : List Int) (h : ∀ j, gx b j = 0) : vd (a ++ b) = vd a := by
  induction a with
  | nil =>
    rw [List.nil_append]
    induction b with
    | nil => rfl
    | cons x r ih =>
      have h0 := h 0
      rw [gx_zero] at h0
      simp only [vd, h0, ih (fun j => by have := h (j + 1); rwa [gx_succ] at this)]
      rfl
  | cons x r ih => simp only [List.cons_append, vd, ih]
theorem vd_tr (xs : List Int) : vd (tr xs) = vd xs := by
  have h := vd_append_zeros (tr xs) (xs.drop (tlen xs)) (fun j => by rw [gx_drop]; exact tlen_zero xs _ (by omega))
  rw [tr, List.take_append_drop] at h
  exact h.symm
theorem u16_tr {xs : List Int} (h : U16 xs) : U16 (tr xs) := fun j => by rw [gx_tr]; exact h j

/-- A reference number that is handed about. -/
structure RN (w : World) (s : Bool) (p : Option Addr) (n : Nat) (ds : List Int) : Prop where
  len : ds.length = n
  rd : Rd w p .i64 ds
  u : U16 ds
  nrm : tlen ds = n
  sg : n = 0 → s = false
  sml : n ≤ 1000000000
theorem RN.below {w w' : World} {s : Bool} {p : Option Addr} {n : Nat} {ds : List Int} (h : RN w s p n ds) (hb : Below w.heap.size w w') : RN w' s p n ds := ⟨h.len, h.rd.below hb, h.u, h.nrm, h.sg, h.sml⟩
/-- The number of a sign and digits. -/
def rval (s : Bool) (ds : List Int) : Int := if s then - vd ds else vd ds

set_option maxHeartbeats 1000000 in
/-- ashlarref1.trim. -/
theorem rtrim_any (neg : Bool) (p : Option Addr) (len cap : Nat) (xs : List Int) (w : World) (hl : xs.length = len) (hc : len ≤ cap) (hm : cap ≤ maxLen) (hx : Rd w p .i64 xs) :
    Calls Tryz.prog 56 #[.bool neg, .slice p len cap] w fun e w' => e = .returned (.agg #[.bool (nsg neg xs), .slice p (tlen xs) (tlen xs)]) ∧ Below w.heap.size w w' := by
  unfold maxLen at hm
  have ht := tlen_le xs
  go_enter Tryz.func56, Tryz.ntmps56
  go_wp2
  have hx' := hx.alloc (.cells #[.bool false, .slice none 0 0] 62)
  have hBx : Bx (w.alloc (.cells #[.bool false, .slice none 0 0] 62)) w.heap.size (.bool false) (.slice none 0 0) := Bx.new _ _ _ rfl
  have hbw : Below w.heap.size w (w.alloc (.cells #[.bool false, .slice none 0 0] 62)) := (Below.refl _ _).alloc (Nat.le_refl _) _
  generalize w.alloc (.cells #[.bool false, .slice none 0 0] 62) = W at *
  have c0 := hBx.c0
  have c1 := hBx.c1
  have f0 := hBx.f0
  have f1 := hBx.f1
  go_loop [5] (fun n => ∃ k : Nat, k ≤ len ∧ n = .int .i64 k ∧ Hid (∀ j, k ≤ j → gx xs j = 0)) (fun n => (intOf n).toNat)
  case atStart => exact ⟨len, Nat.le_refl _, rfl, gx_past xs len (by omega)⟩
  case round =>
    obtain ⟨k, hk, rfl, hz⟩ := hrel
    by_cases h0 : k = 0
    · subst h0
      have ht0 := tlen_eq xs 0 hz.out (.inl rfl)
      have hns : nsg neg xs = false := by rw [nsg, if_pos ht0]
      have HN : Hid (nsg neg xs = false ∧ tlen xs = 0) := ⟨hns, ht0⟩
      clear hns ht0
      cases neg
      all_goals
        go_wp2
        refine bodyPost_ret (v := .agg #[.bool false, .slice p 0 0]) (by simp [results, Tryz.results56, go_sem, c0, c1]) rfl ⟨by rw [HN.out.1, HN.out.2], ?_⟩
        exact (hbw.setCell (by simp) _).setCell (by simp) _
    · obtain ⟨m, rfl⟩ : ∃ m, k = m + 1 := ⟨k - 1, by omega⟩
      obtain ⟨b, off, rfl, hcell⟩ := hx' (by omega)
      have hcm := hcell m (by omega)
      clear hcell
      by_cases h1 : gx xs m = 0
      · have h2 : (gx xs m == 0) = true := by simp only [h1]; rfl
        go_wp2
        go_round
        case rel => exact ⟨m, by omega, by go_num, fun j hj => by
          rcases Nat.lt_or_ge m j with h | h
          · exact hz.out j h
          · have : j = m := by omega
            subst this; exact h1⟩
        case measure => simp [intOf]
      · have h2 : (gx xs m == 0) = false := by simpa using h1
        have ht1 := tlen_eq xs (m + 1) hz.out (.inr h1)
        have hns : nsg neg xs = neg := by rw [nsg, if_neg (by omega)]
        have HN : Hid (nsg neg xs = neg ∧ tlen xs = m + 1) := ⟨hns, ht1⟩
        clear hns ht1
        cases neg
        · go_wp2
          refine bodyPost_ret (v := .agg #[.bool false, .slice (some ⟨b, off, none⟩) (m + 1) (m + 1)]) (by simp [results, Tryz.results56, go_sem, c0, c1]) rfl ⟨by rw [HN.out.1, HN.out.2], ?_⟩
          exact (hbw.setCell (by simp) _).setCell (by simp) _
        · go_wp2
          refine bodyPost_ret (v := .agg #[.bool true, .slice (some ⟨b, off, none⟩) (m + 1) (m + 1)]) (by simp [results, Tryz.results56, go_sem, c0, c1]) rfl ⟨by rw [HN.out.1, HN.out.2], ?_⟩
          exact (hbw.setCell (by simp) _).setCell (by simp) _
end Go.Proofs.YtlhgpejapmpcmaaGreatDoor
/-
  limbs.Sign.
-/
namespace Go.Proofs.YtlhgpejapmpcmaaGreatDoor
open Go.RowKit
set_option linter.unusedVariables false
set_option linter.unusedSimpArgs false

/-- The sign of an integer. -/
def isgn (z : Int) : Int := if z = 0 then 0 else if z < 0 then -1 else 1

theorem isgn_ival_zero {s : Bool} {xs : List Int} (hU : U32 xs) (h : tlen xs = 0) : isgn (ival s xs) = 0 := by
  have := (tlen_zero_iff hU).1 h
  cases s <;> simp [ival, isgn, this]
theorem isgn_ival {s : Bool} {xs : List Int} (hU : U32 xs) (h : tlen xs ≠ 0) : isgn (ival s xs) = if s then -1 else 1 := by
  have h1 : val xs ≠ 0 := fun e => h ((tlen_zero_iff hU).2 e)
  have h2 := val_nonneg hU
  cases s
  · simp only [ival, isgn, Bool.false_eq_true, if_false]; rw [if_neg h1, if_neg (by omega)]
  · simp only [ival, isgn, if_true]; rw [if_neg (by omega), if_pos (by omega)]

set_option maxHeartbeats 400000 in
/-- limbs.Sign. -/
theorem Sign_any (s : Bool) (p : Option Addr) (n nc : Nat) (xs : List Int) (w : World) (hA : AI w p n nc xs) :
    Calls Tryz.prog 66 #[.agg #[.bool s, .slice p n nc]] w fun e w' => e = .returned (.int .i64 (isgn (ival s xs))) ∧ Below w.heap.size w w' := by
  have tx := tlen_le xs
  by_cases h0 : tlen xs = 0
  · rw [isgn_ival_zero hA.u h0]
    go_enter Tryz.func66, Tryz.ntmps66
    go_wp2_with (go_at_call 68; refine (trim_any p n nc xs _ hA.len hA.cap hA.bnd (hA.rd.alloc _)).mono ?_; rintro e w' ⟨rfl, rfl⟩)
    go_ret
    exact ⟨rfl, (Below.refl _ _).alloc (Nat.le_refl _) _⟩
  · rw [isgn_ival hA.u h0]
    have h1 : (((tlen xs : Nat) : Int) == 0) = false := beq_eq_false_iff_ne.2 (by omega)
    cases s
    all_goals
      go_enter Tryz.func66, Tryz.ntmps66
      go_wp2_with (go_at_call 68; refine (trim_any p n nc xs _ hA.len hA.cap hA.bnd (hA.rd.alloc _)).mono ?_; rintro e w' ⟨rfl, rfl⟩)
      go_ret
      exact ⟨rfl, (Below.refl _ _).alloc (Nat.le_refl _) _⟩

theorem isgn_cases (z : Int) : (z = 0 ∧ isgn z = 0) ∨ (z < 0 ∧ isgn z = -1) ∨ (0 < z ∧ isgn z = 1) := by
  rcases Int.lt_trichotomy z 0 with h | h | h
  · exact .inr (.inl ⟨h, by rw [isgn, if_neg (by omega), if_pos h]⟩)
  · exact .inl ⟨h, by rw [isgn, if_pos h]⟩
  · exact .inr (.inr ⟨h, by rw [isgn, if_neg (by omega), if_neg (by omega)]⟩)
theorem icmp_isgn {a b : Int} (h : isgn a ≠ isgn b) : icmp (isgn a) (isgn b) = icmp a b := by
  rcases isgn_cases a with ⟨h1, h2⟩ | ⟨h1, h2⟩ | ⟨h1, h2⟩ <;> rcases isgn_cases b with ⟨h3, h4⟩ | ⟨h3, h4⟩ | ⟨h3, h4⟩ <;> rw [h2, h4] at h ⊢ <;>
    first
      | exact absurd rfl h
      | (rw [icmp_lt (by omega), icmp_lt (by omega)])
      | (rw [icmp_gt (by omega), icmp_gt (by omega)])
theorem icmp_same {s t : Bool} {xs ys : List Int} (hX : U32 xs) (hY : U32 ys) (h : isgn (ival s xs) = isgn (ival t ys)) : isgn (ival s xs) * icmp (val xs) (val ys) = icmp (ival s xs) (ival t ys) := by
  have h1 := val_nonneg hX
  have h2 := val_nonneg hY
  rcases isgn_cases (ival s xs) with ⟨a1, a2⟩ | ⟨a1, a2⟩ | ⟨a1, a2⟩ <;> rcases isgn_cases (ival t ys) with ⟨b1, b2⟩ | ⟨b1, b2⟩ | ⟨b1, b2⟩ <;> rw [a2, b2] at h <;> (try (exact absurd h (by decide))) <;> rw [a2]
  · rw [a1, b1, icmp_eq, Int.zero_mul]
  · have e1 : s = true := by cases s <;> simp_all [ival] <;> omega
    have e2 : t = true := by cases t <;> simp_all [ival] <;> omega
    subst e1 e2
    simp only [ival, if_true]
    rcases Int.lt_trichotomy (val xs) (val ys) with g | g | g
    · rw [icmp_lt g, icmp_gt (by omega)]; rfl
    · rw [g, icmp_eq, icmp_eq]; rfl
    · rw [icmp_gt g, icmp_lt (by omega)]; rfl
  · have e1 : s = false := by cases s <;> simp_all [ival] <;> omega
    have e2 : t = false := by cases t <;> simp_all [ival] <;> omega
    subst e1 e2
    simp only [ival, Bool.false_eq_true, if_false, Int.one_mul]
end Go.Proofs.YtlhgpejapmpcmaaGreatDoor
