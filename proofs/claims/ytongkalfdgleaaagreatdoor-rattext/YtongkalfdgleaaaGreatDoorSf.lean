/-
  Decimal texts: plain facts, and what both Texts answer.
-/
import Derived.Test.YtongkalfdgleaaaGreatDoorSe
namespace Go.Proofs.YtongkalfdgleaaaGreatDoor
open Go.RowKit
set_option linter.unusedVariables false
set_option linter.unusedSimpArgs false

/-- The m lowest decimal digits, the highest first. -/
def tx (V : Int) (m : Nat) : List Int := (List.range m).map fun j => dgt V (m - 1 - j)
theorem length_tx (V : Int) (m : Nat) : (tx V m).length = m := by simp [tx]
theorem gx_tx (V : Int) (m j : Nat) (h : j < m) : gx (tx V m) j = dgt V (m - 1 - j) := by
  rw [gx_mem _ _ (by rw [length_tx]; exact h)]; simp [tx]
theorem tx_of {V : Int} {N : Nat} {D : List Int} (hl : D.length = N) (h : ∀ j, j < N → gx D j = dgt V (N - 1 - j)) : D = tx V N :=
  gx_ext _ _ (by rw [hl, length_tx]) fun j hj => by rw [h j (by omega), gx_tx V N j (by omega)]
theorem dgt_zero_of {V : Int} {i : Nat} (h0 : 0 ≤ V) (h : V < 10 ^ i) : dgt V i = 48 := by rw [dgt, Int.ediv_eq_zero_of_lt h0 h]; rfl
theorem tx_split {V : Int} {m : Nat} (h0 : 0 ≤ V) (h : V < 10 ^ m) (k : Nat) : tx V (m + k) = List.replicate k 48 ++ tx V m := by
  refine gx_ext _ _ (by simp [length_tx]; omega) fun j hj => ?_
  rw [length_tx] at hj
  rw [gx_tx V _ j hj]
  by_cases hk : j < k
  · rw [gx_append_left _ _ _ (by simp; exact hk), gx_mem _ _ (by simp; exact hk)]
    simp
    exact dgt_zero_of h0 (by have := ten_mono (show m ≤ m + k - 1 - j by omega); omega)
  · rw [gx_append_right _ _ _ (by simp; omega), List.length_replicate, gx_tx V m _ (by omega)]
    congr 1; omega
theorem bys_append (a b : List Int) : bys (a ++ b) = bys a ++ bys b := by simp [bys]
theorem strip_reps (k : Nat) (l : List UInt8) : strip (bys (List.replicate k 48) ++ l) = strip l := by
  induction k with
  | zero => rfl
  | succ k ih =>
    rw [List.replicate_succ]
    show strip ((48 : UInt8) :: (bys (List.replicate k 48) ++ l)) = _
    rw [strip_head, ih]
theorem by_ne {c : Int} (h0 : 48 ≤ c) (h1 : c ≤ 57) (h : c ≠ 48) : UInt8.ofNat c.toNat ≠ 48 := fun e => by
  have := congrArg UInt8.toNat e
  simp at this
  omega
theorem tx_cons {V : Int} {m : Nat} (hm : 0 < m) : ∃ r, tx V m = dgt V (m - 1) :: r := by
  cases ht : tx V m with
  | nil => have := length_tx V m; rw [ht] at this; simp at this; omega
  | cons c r =>
    have := gx_tx V m 0 hm
    rw [ht, gx_zero] at this
    exact ⟨r, by rw [this]; rfl⟩
theorem dgt_top {V : Int} {m : Nat} (h1 : V < 10 ^ m) (h2 : 10 ^ (m - 1) ≤ V) (hm : 0 < m) : dgt V (m - 1) ≠ 48 := by
  obtain ⟨k, rfl⟩ : ∃ k, m = k + 1 := ⟨m - 1, by omega⟩
  rw [Nat.add_sub_cancel] at h2 ⊢
  have hp : (0 : Int) < 10 ^ k := Int.pow_pos (by decide)
  have e1 : 1 ≤ V / 10 ^ k := (Int.le_ediv_iff_mul_le hp).2 (by omega)
  have e2 : V / 10 ^ k < 10 := Int.ediv_lt_of_lt_mul hp (by rw [Int.pow_succ] at h1; omega)
  rw [dgt]
  omega
theorem strip_tx {V : Int} {m N : Nat} (h0 : 0 ≤ V) (h1 : V < 10 ^ m) (h2 : 10 ^ (m - 1) ≤ V) (hm : 0 < m) (hN : V < 10 ^ N) : strip (bys (tx V N)) = bys (tx V m) := by
  have hmN : m ≤ N := by
    rcases Nat.lt_or_ge N m with h | h
    · have := ten_mono (show N ≤ m - 1 by omega); omega
    · exact h
  obtain ⟨k, rfl⟩ := Nat.exists_eq_add_of_le hmN
  rw [tx_split h0 h1 k, bys_append, strip_reps]
  obtain ⟨r, hr⟩ := tx_cons (V := V) hm
  rw [hr]
  exact strip_other _ _ (by_ne (dgt_bd V _).1 (dgt_bd V _).2 (dgt_top h1 h2 hm))
theorem digits_many {V : Int} (h0 : 0 < V) (N : Nat) (h : V < 10 ^ N) : ∃ m, V < 10 ^ m ∧ 10 ^ (m - 1) ≤ V ∧ 0 < m ∧ m ≤ N := by
  induction N with
  | zero => simp at h; omega
  | succ N ih =>
    by_cases hN : V < 10 ^ N
    · obtain ⟨m, a, b, c, d⟩ := ih hN
      exact ⟨m, a, b, c, by omega⟩
    · exact ⟨N + 1, h, by rw [Nat.add_sub_cancel]; omega, by omega, Nat.le_refl _⟩
theorem digits_one {V : Int} {m k : Nat} (h1 : V < 10 ^ m) (h2 : 10 ^ (m - 1) ≤ V) (k1 : V < 10 ^ k) (k2 : 10 ^ (k - 1) ≤ V) (hm : 0 < m) (hk : 0 < k) : m = k := by
  rcases Nat.lt_trichotomy m k with h | h | h
  · have := ten_mono (show m ≤ k - 1 by omega); omega
  · exact h
  · have := ten_mono (show k ≤ m - 1 by omega); omega

/-- The text of a number that is not 0, of m digits. -/
def txt (s : Bool) (V : Int) (m : Nat) : List UInt8 := (if s then [45] else []) ++ bys (tx V m)
/-- What Text answers. -/
def TxPost (s : Bool) (V : Int) (w : World) (e : Ending) (w' : World) : Prop := ∃ m, V < 10 ^ m ∧ 10 ^ (m - 1) ≤ V ∧ 0 < m ∧ e = .returned (.string ⟨(txt s V m).toArray⟩) ∧ Below w.heap.size w w'
theorem TextPost.tx {s : Bool} {V : Int} {w w' : World} {e : Ending} (h0 : 0 < V) (h : TextPost s V w e w') : TxPost s V w e w' := by
  obtain ⟨N, D, h1, h2, h3, rfl, h5⟩ := h
  obtain ⟨m, a, b, c, d⟩ := digits_many h0 N h1
  refine ⟨m, a, b, c, ?_, h5⟩
  rw [tx_of h2 h3, strip_tx (by omega) a b c h1]
  rfl
theorem RtPost.tx {s : Bool} {V : Int} {w w' : World} {e : Ending} (h : RtPost s V w e w') : TxPost s V w e w' := by
  obtain ⟨m, D, a, b, c, h2, h3, rfl, h5⟩ := h
  refine ⟨m, a, b, c, ?_, h5⟩
  have hD : D = (if s then [45] else []) ++ Go.Proofs.YtongkalfdgleaaaGreatDoor.tx V m := by
    refine gx_ext _ _ (by rw [h2, List.length_append, length_tx]; cases s <;> simp; omega) fun j hj => ?_
    have := h3 (D.length - 1 - j) (by omega)
    rw [show D.length - 1 - (D.length - 1 - j) = j by omega] at this
    rw [this]
    cases s
    · simp at h2
      rw [if_pos (by omega)]
      show _ = gx (Go.Proofs.YtongkalfdgleaaaGreatDoor.tx V m) j
      rw [gx_tx V m j (by omega)]
      congr 1; omega
    · simp at h2
      cases j with
      | zero => rw [if_neg (by omega)]; rfl
      | succ j =>
        rw [if_pos (by omega)]
        show _ = gx (45 :: Go.Proofs.YtongkalfdgleaaaGreatDoor.tx V m) (j + 1)
        rw [gx_succ, gx_tx V m j (by omega)]
        congr 1; omega
  rw [hD, bys_append]
  cases s <;> rfl
theorem bz_bys {D : List Int} (h : ∀ j, j < D.length → 0 ≤ gx D j ∧ gx D j < 256) : bz (bys D) = D := by
  induction D with
  | nil => rfl
  | cons c r ih =>
    have h0 := h 0 (by simp)
    rw [gx_zero] at h0
    have e : bz (bys (c :: r)) = ((UInt8.ofNat c.toNat).toNat : Int) :: bz (bys r) := rfl
    rw [e, ih (fun j hj => by have := h (j + 1) (by simp; omega); rwa [gx_succ] at this)]
    congr 1
    simp
    omega
theorem bz_tx (V : Int) (m : Nat) : bz (bys (tx V m)) = tx V m := bz_bys fun j hj => by
  rw [length_tx] at hj
  rw [gx_tx V m j hj]
  have := dgt_bd V (m - 1 - j)
  omega
theorem dv_tx (m : Nat) : ∀ V : Int, 0 ≤ V → V < 10 ^ m → dv (tx V m) = V := by
  induction m with
  | zero => intro V h0 h1; simp at h1; have : V = 0 := by omega
            subst this; rfl
  | succ m ih =>
    intro V h0 h1
    have e : tx V (m + 1) = tx (V / 10) m ++ [dgt V 0] := by
      refine gx_ext _ _ (by simp [length_tx]) fun j hj => ?_
      rw [length_tx] at hj
      rw [gx_tx V _ j hj]
      by_cases hjm : j < m
      · rw [gx_append_left _ _ _ (by rw [length_tx]; exact hjm), gx_tx _ m j hjm, dgt, dgt]
        have := div_pow_add V 1 (m - 1 - j)
        rw [show (10 : Int) ^ 1 = 10 from rfl] at this
        rw [this, show 1 + (m - 1 - j) = m + 1 - 1 - j by omega]
      · rw [gx_append_right _ _ _ (by rw [length_tx]; omega), length_tx, show j - m = 0 by omega, gx_zero, show m + 1 - 1 - j = 0 by omega]
    rw [e, dv_snoc, ih (V / 10) (by omega) (by rw [Int.pow_succ] at h1; omega), dgt]
    simp
    omega
theorem length_bys (D : List Int) : (bys D).length = D.length := by simp [bys]
theorem isNum_txt {s : Bool} {V : Int} {m : Nat} (h0 : 0 < V) (h1 : V < 10 ^ m) (h2 : 10 ^ (m - 1) ≤ V) (hm : 0 < m) : IsNum (txt s V m) s (bys (tx V m)) := by
  have hd : dgs (bys (tx V m)) := fun j hj => by
    rw [length_bys, length_tx] at hj
    rw [bz_tx, gx_tx V m j hj]
    exact dgt_bd V _
  have ht : gx (bz (bys (tx V m))) 0 ≠ 48 := by rw [bz_tx, gx_tx V m 0 hm, Nat.sub_zero]; exact dgt_top h1 h2 hm
  have hne : bys (tx V m) ≠ [] := fun e => by have := length_bys (tx V m); rw [e, length_tx] at this; simp at this; omega
  refine ⟨⟨hd, .inr ⟨hne, ht⟩⟩, by cases s <;> rfl, fun e => ?_⟩
  cases s
  · have e' : bys (tx V m) = [45, 48] := e
    have := hd 0 (by rw [e']; decide)
    rw [e'] at this
    revert this; decide
  · have e' : 45 :: bys (tx V m) = [45, 48] := e
    simp at e'
    rw [e'] at ht
    exact ht rfl
theorem isNum_one {l : List UInt8} {s t : Bool} {a b : List UInt8} (h : IsNum l s a) (k : IsNum l t b) : s = t ∧ a = b := by
  obtain ⟨h1, h2, _⟩ := h
  obtain ⟨k1, k2, _⟩ := k
  cases s <;> cases t <;> simp at h2 k2
  · exact ⟨rfl, by rw [← h2, k2]⟩
  · rw [← h2, k2] at h1; exact (numeral_minus h1).elim
  · rw [← k2, h2] at k1; exact (numeral_minus k1).elim
  · rw [h2] at k2; simp at k2; exact ⟨rfl, k2⟩
/-- The text of a number. -/
def Tx (s : Bool) (V : Int) (l : List UInt8) : Prop := (V = 0 ∧ l = [48]) ∨ (0 < V ∧ ∃ m, V < 10 ^ m ∧ 10 ^ (m - 1) ≤ V ∧ 0 < m ∧ l = txt s V m)
theorem Tx.one {s t : Bool} {V : Int} {a b : List UInt8} (h : Tx s V a) (k : Tx t V b) (hs : 0 < V → s = t) : a = b := by
  rcases h with ⟨h1, h2⟩ | ⟨h1, m, h2, h3, h4, h5⟩ <;> rcases k with ⟨k1, k2⟩ | ⟨k1, n, k2, k3, k4, k5⟩
  · rw [h2, k2]
  · omega
  · omega
  · rw [h5, k5, hs h1, digits_one h2 h3 k2 k3 h4 k4]
theorem isNum_zero : IsNum [48] false [48] := ⟨⟨fun j hj => by simp at hj; subst hj; decide, .inl rfl⟩, rfl, by decide⟩
theorem Tx.num {s : Bool} {V : Int} {l : List UInt8} (h : Tx s V l) : ∃ t d, IsNum l t d ∧ (if t then - dv (bz d) else dv (bz d)) = (if s then - V else V) := by
  rcases h with ⟨h1, h2⟩ | ⟨h1, m, h2, h3, h4, h5⟩
  · refine ⟨false, [48], by rw [h2]; exact isNum_zero, ?_⟩
    rw [h1]
    cases s <;> rfl
  · refine ⟨s, _, by rw [h5]; exact isNum_txt h1 h2 h3 h4, ?_⟩
    rw [bz_tx, dv_tx m V (by omega) h2]
theorem Tx.len {s : Bool} {V : Int} {l : List UInt8} (h : Tx s V l) (hV : V < pw 24) : l.length ≤ 300 := by
  rcases h with ⟨h1, h2⟩ | ⟨h1, m, h2, h3, h4, h5⟩
  · rw [h2]; decide
  · have e1 : pw 24 ≤ 10 ^ 240 := by rw [← pd_two 24]; exact ten_pd 48
    have e2 : m - 1 < 240 := by
      rcases Nat.lt_or_ge (m - 1) 240 with h | h
      · exact h
      · have := ten_mono h; omega
    rw [h5, txt, List.length_append, length_bys, length_tx]
    cases s <;> simp <;> omega

/-- What limbs.Text answers. -/
def TaPost (s : Bool) (V : Int) (w : World) (e : Ending) (w' : World) : Prop := ∃ l, e = .returned (.string ⟨l.toArray⟩) ∧ Tx s V l ∧ Below w.heap.size w w'
theorem Text_any (s : Bool) (p : Option Addr) (n nc : Nat) (xs : List Int) (w : World) (hA : AI w p n nc xs) (h80 : n < 80) :
    Calls Tryz.prog 63 #[.agg #[.bool s, .slice p n nc]] w (TaPost s (val xs) w) := by
  by_cases h0 : val xs = 0
  · refine (Text_zero s p n nc xs w hA h0).mono ?_
    rintro e w' ⟨rfl, hb⟩
    exact ⟨[48], rfl, .inl ⟨h0, rfl⟩, hb⟩
  · have hp : 0 < val xs := by have := val_nonneg hA.u; omega
    refine (Text_some s p n nc xs w hA h0 h80).mono ?_
    intro e w' h
    obtain ⟨m, a, b, c, rfl, hb⟩ := h.tx hp
    exact ⟨_, rfl, .inr ⟨hp, m, a, b, c, rfl⟩, hb⟩

set_option maxHeartbeats 1000000 in
theorem rText_zero (s : Bool) (p : Option Addr) (w : World) :
    Calls Tryz.prog 66 #[.agg #[.bool s, .slice p 0 0]] w fun e w' => e = .returned (.string ⟨#[48]⟩) ∧ Below w.heap.size w w' := by
  go_enter Tryz.func66, Tryz.ntmps66
  go_wp2
  go_ret
  exact ⟨rfl, (Below.refl _ _).alloc (Nat.le_refl _) _⟩
/-- ashlarref1.Text. -/
theorem rText_any (s : Bool) (p : Option Addr) (n : Nat) (ds : List Int) (w : World) (hR : RN w s p n ds) (hn1 : n ≤ 1000) :
    Calls Tryz.prog 66 #[.agg #[.bool s, .slice p n n]] w (TaPost s (vd ds) w) := by
  rcases Nat.eq_zero_or_pos n with h0 | h0
  · subst h0
    refine (rText_zero s p w).mono ?_
    rintro e w' ⟨rfl, hb⟩
    exact ⟨[48], rfl, .inl ⟨(tlen_zero_iff16 hR.u).1 hR.nrm, rfl⟩, hb⟩
  · have hp : 0 < vd ds := by
      have := vd_nonneg hR.u
      have h4 : vd ds ≠ 0 := fun e => by have := (tlen_zero_iff16 hR.u).2 e; rw [hR.nrm] at this; omega
      omega
    refine (rText_some s p n ds w hR h0 hn1).mono ?_
    intro e w' h
    obtain ⟨m, a, b, c, rfl, hb⟩ := h.tx
    exact ⟨_, rfl, .inr ⟨hp, m, a, b, c, rfl⟩, hb⟩
theorem sign_same {s t : Bool} {xs ds : List Int} (hU : U32 xs) (hD : U16 ds) (h : rval t ds = ival s xs) : vd ds = val xs ∧ (0 < val xs → s = t) := by
  have h1 := val_nonneg hU
  have h2 := vd_nonneg hD
  cases s <;> cases t <;> simp [rval, ival] at h <;> refine ⟨by omega, fun h3 => ?_⟩ <;> first | rfl | (exfalso; omega)
end Go.Proofs.YtongkalfdgleaaaGreatDoor
