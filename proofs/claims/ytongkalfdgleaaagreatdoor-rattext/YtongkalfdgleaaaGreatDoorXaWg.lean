/-
  Texts of integers and rationals: plain facts.
-/
import Derived.Test.YtongkalfdgleaaaGreatDoorSf
import Derived.Test.YtongkalfdgleaaaGreatDoorWdWeNi
namespace Go.Proofs.YtongkalfdgleaaaGreatDoor
open Go.RowKit
set_option linter.unusedVariables false
set_option linter.unusedSimpArgs false

/-- The text of a number. -/
def ITx (z : Int) (l : List UInt8) : Prop := Tx (decide (z < 0)) (z.natAbs : Int) l
theorem itx_ex (z : Int) : ∃ l, ITx z l := by
  rcases Nat.eq_zero_or_pos z.natAbs with h | h
  · exact ⟨[48], .inl ⟨by omega, rfl⟩⟩
  · have h1 : (z.natAbs : Int) < 10 ^ z.natAbs := by
      have := Nat.lt_pow_self (show 1 < 10 by decide) (n := z.natAbs)
      exact_mod_cast this
    obtain ⟨m, a, b, c, d⟩ := digits_many (V := (z.natAbs : Int)) (by omega) z.natAbs h1
    exact ⟨_, .inr ⟨by omega, m, a, b, c, rfl⟩⟩
noncomputable def itx (z : Int) : List UInt8 := Classical.choose (itx_ex z)
theorem itx_is (z : Int) : ITx z (itx z) := Classical.choose_spec (itx_ex z)
theorem itx_of {z : Int} {l : List UInt8} (h : ITx z l) : l = itx z := Tx.one h (itx_is z) fun _ => rfl
theorem dv_inj : ∀ (n : Nat) (a b : List Int), a.length = n → b.length = n → (∀ x ∈ a, 48 ≤ x ∧ x ≤ 57) → (∀ x ∈ b, 48 ≤ x ∧ x ≤ 57) → dv a = dv b → a = b := by
  intro n
  induction n with
  | zero =>
    intro a b ha hb _ _ _
    rw [List.length_eq_zero_iff.1 ha, List.length_eq_zero_iff.1 hb]
  | succ n ih =>
    intro a b ha hb da db h
    rcases List.eq_nil_or_concat a with rfl | ⟨a', x, rfl⟩
    · simp at ha
    · rcases List.eq_nil_or_concat b with rfl | ⟨b', y, rfl⟩
      · simp at hb
      · rw [List.concat_eq_append] at *
        rw [List.concat_eq_append] at *
        rw [dv_snoc, dv_snoc] at h
        have hx := da x (by simp)
        have hy := db y (by simp)
        have e1 : x = y := by omega
        have e2 : dv a' = dv b' := by omega
        rw [e1, ih a' b' (by simpa using ha) (by simpa using hb) (fun z hz => da z (by simp [hz])) (fun z hz => db z (by simp [hz])) e2]
theorem dv_bd : ∀ (n : Nat) (a : List Int), a.length = n → (∀ x ∈ a, 48 ≤ x ∧ x ≤ 57) → 0 ≤ dv a ∧ dv a < 10 ^ n := by
  intro n
  induction n with
  | zero =>
    intro a ha _
    rw [List.length_eq_zero_iff.1 ha]
    decide
  | succ n ih =>
    intro a ha da
    rcases List.eq_nil_or_concat a with rfl | ⟨a', x, rfl⟩
    · simp at ha
    · rw [List.concat_eq_append] at *
      rw [dv_snoc]
      have hx := da x (by simp)
      have := ih a' (by simpa using ha) (fun z hz => da z (by simp [hz]))
      rw [Int.pow_succ]
      omega
theorem dv_top {c : Int} {r : List Int} (hc : 49 ≤ c) (hr : ∀ x ∈ r, 48 ≤ x ∧ x ≤ 57) : 10 ^ r.length ≤ dv (c :: r) := by
  have h := dv_append [c] r
  have h1 : dv [c] = c - 48 := by simp [dv]
  rw [h1] at h
  have h2 : ([c] ++ r) = c :: r := rfl
  rw [h2] at h
  have h3 := dv_bd r.length r rfl hr
  have h4 : (0 : Int) < 10 ^ r.length := Int.pow_pos (by decide)
  have h5 : 1 * (10 : Int) ^ r.length ≤ (c - 48) * 10 ^ r.length := Int.mul_le_mul_of_nonneg_right (by omega) (by omega)
  omega
theorem bys_bz (d : List UInt8) : bys (bz d) = d := by
  induction d with
  | nil => rfl
  | cons c r ih =>
    have : bys (bz (c :: r)) = UInt8.ofNat ((c.toNat : Int)).toNat :: bys (bz r) := rfl
    rw [this, ih]
    simp
theorem dgs_mem {d : List UInt8} (h : dgs d) : ∀ x ∈ bz d, 48 ≤ x ∧ x ≤ 57 := by
  intro x hx
  obtain ⟨j, hj, rfl⟩ := List.mem_iff_getElem.1 hx
  have := h j (by simpa [length_bz] using hj)
  rwa [gx_mem _ _ hj] at this
theorem tx_mem (V : Int) (m : Nat) : ∀ x ∈ tx V m, 48 ≤ x ∧ x ≤ 57 := by
  intro x hx
  rw [tx, List.mem_map] at hx
  obtain ⟨j, -, rfl⟩ := hx
  exact dgt_bd _ _
/-- A number's text says how it is written. -/
theorem canon {l : List UInt8} {s : Bool} {d : List UInt8} (h : IsNum l s d) : l = itx (if s then - dv (bz d) else dv (bz d)) := by
  obtain ⟨⟨hd, hn⟩, hl, h0⟩ := h
  rcases hn with rfl | ⟨hne, htop⟩
  · have e : dv (bz [48]) = 0 := by decide
    cases s with
    | true => exact absurd hl h0
    | false =>
      rw [hl]
      exact itx_of (.inl ⟨by rw [e]; rfl, rfl⟩)
  · have hm := dgs_mem hd
    have hb := dv_bd _ (bz d) rfl hm
    have hlen : (bz d).length = d.length := length_bz d
    have hpos : 0 < d.length := by
      rcases Nat.eq_zero_or_pos d.length with h | h
      · exact absurd (List.length_eq_zero_iff.1 h) hne
      · exact h
    have ht : 10 ^ (d.length - 1) ≤ dv (bz d) := by
      cases hbz : bz d with
      | nil => rw [hbz] at hlen; simp at hlen; omega
      | cons c r =>
        rw [hbz] at hm htop hlen
        have h1 := hm c (by simp)
        have h2 : gx (c :: r) 0 = c := rfl
        rw [h2] at htop
        have h3 := dv_top (c := c) (r := r) (by omega) (fun x hx => hm x (by simp [hx]))
        simp at hlen
        have : d.length - 1 = r.length := by omega
        rw [this]
        exact h3
    have hp0 : (0 : Int) < 10 ^ (d.length - 1) := Int.pow_pos (by decide)
    rw [hlen] at hb
    have htx : tx (dv (bz d)) d.length = bz d := dv_inj d.length _ _ (length_tx _ _) hlen (tx_mem _ _) hm (dv_tx _ _ hb.1 hb.2)
    refine itx_of (.inr ⟨by cases s <;> simp <;> omega, d.length, ?_, ?_, hpos, ?_⟩)
    · cases s <;> simp <;> omega
    · cases s <;> simp <;> omega
    · have e1 : (((if s then - dv (bz d) else dv (bz d)).natAbs : Nat) : Int) = dv (bz d) := by cases s <;> simp <;> omega
      have e2 : decide ((if s then - dv (bz d) else dv (bz d)) < 0) = s := by cases s <;> simp <;> omega
      rw [e1, e2, txt, htx, bys_bz, hl]
      cases s <;> rfl
theorem itx_num (z : Int) : ∃ t d, IsNum (itx z) t d ∧ (if t then - dv (bz d) else dv (bz d)) = z := by
  obtain ⟨t, d, h1, h2⟩ := (itx_is z).num
  refine ⟨t, d, h1, h2.trans ?_⟩
  by_cases h : z < 0
  · simp [h]; omega
  · simp [h]; omega
theorem itx_inj {x y : Int} (h : itx x = itx y) : x = y := by
  obtain ⟨t, d, h1, h2⟩ := itx_num x
  obtain ⟨t', d', k1, k2⟩ := itx_num y
  rw [h] at h1
  obtain ⟨rfl, rfl⟩ := isNum_one h1 k1
  rw [← h2, ← k2]
theorem dgs_slash {d : List UInt8} (h : dgs d) : (47 : UInt8) ∉ d := by
  intro hc
  have : (47 : Int) ∈ bz d := List.mem_map.2 ⟨47, hc, rfl⟩
  have := dgs_mem h 47 this
  omega
theorem num_slash {l : List UInt8} {s : Bool} {d : List UInt8} (h : IsNum l s d) : (47 : UInt8) ∉ l := by
  obtain ⟨⟨hd, -⟩, hl, -⟩ := h
  have := dgs_slash hd
  rw [hl]
  cases s
  · simpa using this
  · simp only [if_true, List.mem_cons, not_or]
    exact ⟨by decide, this⟩
theorem itx_slash (z : Int) : (47 : UInt8) ∉ itx z := by
  obtain ⟨t, d, h1, -⟩ := itx_num z
  exact num_slash h1
theorem itx_ne (z : Int) : itx z ≠ [] := by
  obtain ⟨t, d, ⟨⟨hd, hn⟩, hl, -⟩, -⟩ := itx_num z
  intro e
  rw [e] at hl
  cases t with
  | true => simp at hl
  | false =>
    have : d = [] := by simpa using hl.symm
    rcases hn with h | ⟨h, -⟩
    · rw [this] at h; cases h
    · exact h this
theorem split_one : ∀ {a a' b b' : List UInt8}, (47 : UInt8) ∉ a → (47 : UInt8) ∉ a' → a ++ 47 :: b = a' ++ 47 :: b' → a = a' ∧ b = b'
  | [], [], b, b', _, _, h => by simpa using h
  | [], c :: r, b, b', _, h2, h => by
    simp only [List.nil_append, List.cons_append, List.cons.injEq] at h
    exact absurd (by rw [← h.1]; simp) h2
  | c :: r, [], b, b', h1, _, h => by
    simp only [List.nil_append, List.cons_append, List.cons.injEq] at h
    exact absurd (by rw [h.1]; simp) h1
  | c :: r, c' :: r', b, b', h1, h2, h => by
    simp only [List.cons_append, List.cons.injEq] at h
    obtain ⟨e1, e2⟩ := split_one (fun k => h1 (by simp [k])) (fun k => h2 (by simp [k])) h.2
    exact ⟨by rw [h.1, e1], e2⟩
/-- The text of a rational. -/
noncomputable def rtx (r : Rat) : List UInt8 := itx r.num ++ (if r.den = 1 then [] else 47 :: itx r.den)
theorem rtx_whole {r : Rat} (h : r.den = 1) : rtx r = itx r.num := by rw [rtx, if_pos h, List.append_nil]
theorem rtx_part {r : Rat} (h : ¬ r.den = 1) : rtx r = itx r.num ++ 47 :: itx r.den := by rw [rtx, if_neg h]
theorem rtx_slash {r : Rat} (h : (47 : UInt8) ∉ rtx r) : r.den = 1 := by
  rcases Classical.em (r.den = 1) with k | k
  · exact k
  · rw [rtx_part k] at h
    exact absurd (by simp) h
theorem rtx_inj {r r' : Rat} (h : rtx r = rtx r') : r = r' := by
  rcases Classical.em (r.den = 1) with k | k
  · have k' : r'.den = 1 := rtx_slash (by rw [← h, rtx_whole k]; exact itx_slash _)
    rw [rtx_whole k, rtx_whole k'] at h
    exact Rat.ext (itx_inj h) (k.trans k'.symm)
  · have k' : ¬ r'.den = 1 := fun e => by
      have hm : (47 : UInt8) ∈ rtx r := by rw [rtx_part k]; simp
      rw [h, rtx_whole e] at hm
      exact itx_slash _ hm
    rw [rtx_part k, rtx_part k'] at h
    obtain ⟨h1, h2⟩ := split_one (itx_slash _) (itx_slash _) h
    exact Rat.ext (itx_inj h1) (by have := itx_inj h2; omega)
end Go.Proofs.YtongkalfdgleaaaGreatDoor
/-
  limbs.Add, Sub.
-/
namespace Go.Proofs.YtongkalfdgleaaaGreatDoor
open Go.RowKit
set_option linter.unusedVariables false
set_option linter.unusedSimpArgs false

set_option maxHeartbeats 1000000 in
/-- limbs.Add: the signs are the same. -/
theorem Add_same (s : Bool) (p q : Option Addr) (n nc m mc : Nat) (xs ys : List Int) (w : World) (hA : AI w p n nc xs) (hB : AI w q m mc ys) :
    Calls Tryz.prog 40 #[.agg #[.bool s, .slice p n nc], .agg #[.bool s, .slice q m mc]] w fun e w' => ∃ s' p' n' zs, e = .returned (.agg #[.bool s', .slice p' n' n']) ∧ NI w.heap.size w' s' p' n' zs (ival s xs + ival s ys) ∧ n' ≤ n + m + 1 ∧ Below w.heap.size w w' := by
  have tx := tlen_le xs
  have ty := tlen_le ys
  have lx := hA.len
  have ly := hB.len
  have bx := hA.sml
  have by' := hB.sml
  have hss : (s == s) = true := by simp
  go_enter Tryz.func40, Tryz.ntmps40
  go_wp2
  go_quiet (first
    | (go_at_call_of 67 (Value.slice p n nc); exact Calls.quiet_of_same (flip_same (trim_any p n nc xs _ hA.len hA.cap hA.bnd (((hA.rd.alloc _).alloc _).alloc _))))
    | (go_at_call_of 67 (Value.slice q m mc); exact Calls.quiet_of_same (flip_same (trim_any q m mc ys _ hB.len hB.cap hB.bnd (((hB.rd.alloc _).alloc _).alloc _)))))
  go_wp2
  have hX := boxes3 w (.bool s) (.slice p n nc) (.bool s) (.slice q m mc) (.bool false) (.slice none 0 0) 24 24 24 nq
  generalize ((((w.alloc (Obj.cells #[Value.bool s, Value.slice p n nc] 24)).alloc (Obj.cells #[Value.bool s, Value.slice q m mc] 24)).alloc (Obj.cells #[Value.bool false, Value.slice none 0 0] 24)).drewN nq) = W at *
  have hA' := hA.below hX.below
  have hB' := hB.below hX.below
  have k0 := hX.ca0
  have k1 := hX.ca1
  go_region_held3 (fun w' => w'.cell? ⟨w.heap.size, 0, none⟩ = some (.bool s) ∧ w'.cell? ⟨w.heap.size, 1, none⟩ = some (.slice p n nc)) (first | (simp [go_sem, *]; done) | exact keepc2 (by assumption) (by assumption))
    (first
      | (go_at_call 69; refine (sum_any p q (tlen xs) nc (tlen ys) mc (tr xs) (tr ys) _ (length_tr xs) (length_tr ys) (by omega) (by omega) ?_ (u32_tr hA.u) ?_ (u32_tr hB.u)).mono ?_; exact hA'.tr.rd.drew; exact hB'.tr.rd.drew; rintro e w1 ⟨M, zs, rfl, m1, m2, m3, z1, z2, z3, z4, hb1⟩)
      | (go_at_call 68; refine (number_any s (some ⟨W.heap.size, 0, none⟩) M M zs _ z1 (Nat.le_refl _) (by unfold maxLen; omega) ?_).mono ?_; exact z4.rd_all; rintro e w2 ⟨rfl, hb2⟩; obtain ⟨c0, c1, f0, f1⟩ := resbox ((undrew hb1).trans (hb2.mono (undrew hb1).size)) hX.cr0 hX.cr1 hX.fr0 hX.fr1))
  go_wp2
  have hsz := hX.size
  have hend := end_number (z := ival s xs + ival s ys) (sg := s) (u := .bool (nsg s zs)) (v := .slice (nad (some ⟨W.heap.size, 0, none⟩) zs) (tlen zs) (tlen zs)) hX.below (r := w.heap.size + 1 + 1) (by omega) (by omega) z4 z2 (undrew hb1) hb2 (by rw [val_tr, val_tr] at z3; simp only [ival, z3]; split <;> omega)
  refine bodyPost_ret (v := .agg #[.bool (nsg s zs), .slice (nad (some ⟨W.heap.size, 0, none⟩) zs) (tlen zs) (tlen zs)]) (by simp [results, Tryz.results40, go_sem, c0, c1]) rfl ⟨_, _, _, tr zs, rfl, hend.1, ?_, hend.2⟩
  have := tlen_le zs
  omega

set_option maxHeartbeats 1000000 in
/-- limbs.Add: the signs differ, the first size is not below the second. -/
theorem Add_ge (s : Bool) (p q : Option Addr) (n nc m mc : Nat) (xs ys : List Int) (w : World) (hA : AI w p n nc xs) (hB : AI w q m mc ys) (hge : val ys ≤ val xs) :
    Calls Tryz.prog 40 #[.agg #[.bool s, .slice p n nc], .agg #[.bool (!s), .slice q m mc]] w fun e w' => ∃ s' p' n' zs, e = .returned (.agg #[.bool s', .slice p' n' n']) ∧ NI w.heap.size w' s' p' n' zs (ival s xs + ival (!s) ys) ∧ n' ≤ n + m + 1 ∧ Below w.heap.size w w' := by
  have tx := tlen_le xs
  have ty := tlen_le ys
  have lx := hA.len
  have ly := hB.len
  have bx := hA.sml
  have by' := hB.sml
  have hss : (s == !s) = false := by cases s <;> rfl
  have hic : 0 ≤ icmp (val (tr xs)) (val (tr ys)) := by
    rw [val_tr, val_tr, icmp, if_neg (by omega)]; split <;> decide
  go_enter Tryz.func40, Tryz.ntmps40
  go_wp2
  go_quiet (first
    | (go_at_call_of 67 (Value.slice p n nc); exact Calls.quiet_of_same (flip_same (trim_any p n nc xs _ hA.len hA.cap hA.bnd (((hA.rd.alloc _).alloc _).alloc _))))
    | (go_at_call_of 67 (Value.slice q m mc); exact Calls.quiet_of_same (flip_same (trim_any q m mc ys _ hB.len hB.cap hB.bnd (((hB.rd.alloc _).alloc _).alloc _)))))
  go_wp2_with fail
  have hX0 := boxes3 w (.bool s) (.slice p n nc) (.bool !s) (.slice q m mc) (.bool false) (.slice none 0 0) 24 24 24 nq
  generalize ((((w.alloc (Obj.cells #[Value.bool s, Value.slice p n nc] 24)).alloc (Obj.cells #[Value.bool !s, Value.slice q m mc] 24)).alloc (Obj.cells #[Value.bool false, Value.slice none 0 0] 24)).drewN nq) = W0 at *
  have hA0 := (hA.below hX0.below).tr
  have hB0 := (hB.below hX0.below).tr
  refine (compare_any p q (tlen xs) nc (tlen ys) mc (tr xs) (tr ys) _ (length_tr xs) (length_tr ys) hA0.cap hA0.bnd hB0.cap hB0.bnd hA0.rd hA0.u hB0.rd hB0.u).mono ?_
  rintro e W ⟨rfl, hb0⟩
  have hX := hX0.later hb0
  have hA' := hA.below hX.below
  have hB' := hB.below hX.below
  have k0 := hX.ca0
  have k1 := hX.ca1
  clear hX0 hA0 hB0 hb0 W0
  go_wp2
  go_region_held3 (fun w' => w'.cell? ⟨w.heap.size, 0, none⟩ = some (.bool s) ∧ w'.cell? ⟨w.heap.size, 1, none⟩ = some (.slice p n nc)) (first | (simp [go_sem, *]; done) | exact keepc2 (by assumption) (by assumption))
    (first
      | (go_at_call 71; refine (difference_any p q (tlen xs) nc (tlen ys) mc (tr xs) (tr ys) _ (length_tr xs) (length_tr ys) hB'.tr.cap hB'.bnd (by omega) ?_ (u32_tr hA.u) ?_ (u32_tr hB.u) (by rw [val_tr, val_tr]; exact hge)).mono ?_; exact hA'.tr.rd.drew; exact hB'.tr.rd.drew; rintro e w1 ⟨zs, rfl, z1, z2, z3, z4, hb1⟩)
      | (go_at_call 68; refine (number_any s (some ⟨W.heap.size, 0, none⟩) (tlen xs) (tlen xs) zs _ z1 (Nat.le_refl _) (by unfold maxLen; omega) ?_).mono ?_; exact z4.rd_all; rintro e w2 ⟨rfl, hb2⟩; obtain ⟨c0, c1, f0, f1⟩ := resbox ((undrew hb1).trans (hb2.mono (undrew hb1).size)) hX.cr0 hX.cr1 hX.fr0 hX.fr1))
  go_wp2
  have hsz := hX.size
  have hend := end_number (z := ival s xs + ival (!s) ys) (sg := s) (u := .bool (nsg s zs)) (v := .slice (nad (some ⟨W.heap.size, 0, none⟩) zs) (tlen zs) (tlen zs)) hX.below (r := w.heap.size + 1 + 1) (by omega) (by omega) z4 z2 (undrew hb1) hb2 (by rw [val_tr, val_tr] at z3; cases s <;> simp [ival, z3] <;> omega)
  refine bodyPost_ret (v := .agg #[.bool (nsg s zs), .slice (nad (some ⟨W.heap.size, 0, none⟩) zs) (tlen zs) (tlen zs)]) (by simp [results, Tryz.results40, go_sem, c0, c1]) rfl ⟨_, _, _, tr zs, rfl, hend.1, ?_, hend.2⟩
  have := tlen_le zs
  omega
set_option maxHeartbeats 1000000 in
/-- limbs.Add: the signs differ, the first size is below the second. -/
theorem Add_lt (s : Bool) (p q : Option Addr) (n nc m mc : Nat) (xs ys : List Int) (w : World) (hA : AI w p n nc xs) (hB : AI w q m mc ys) (hge : val xs < val ys) :
    Calls Tryz.prog 40 #[.agg #[.bool s, .slice p n nc], .agg #[.bool (!s), .slice q m mc]] w fun e w' => ∃ s' p' n' zs, e = .returned (.agg #[.bool s', .slice p' n' n']) ∧ NI w.heap.size w' s' p' n' zs (ival s xs + ival (!s) ys) ∧ n' ≤ n + m + 1 ∧ Below w.heap.size w w' := by
  have tx := tlen_le xs
  have ty := tlen_le ys
  have lx := hA.len
  have ly := hB.len
  have bx := hA.sml
  have by' := hB.sml
  have hss : (s == !s) = false := by cases s <;> rfl
  have hic : ¬ 0 ≤ icmp (val (tr xs)) (val (tr ys)) := by
    rw [val_tr, val_tr, icmp_lt hge]; decide
  go_enter Tryz.func40, Tryz.ntmps40
  go_wp2
  go_quiet (first
    | (go_at_call_of 67 (Value.slice p n nc); exact Calls.quiet_of_same (flip_same (trim_any p n nc xs _ hA.len hA.cap hA.bnd (((hA.rd.alloc _).alloc _).alloc _))))
    | (go_at_call_of 67 (Value.slice q m mc); exact Calls.quiet_of_same (flip_same (trim_any q m mc ys _ hB.len hB.cap hB.bnd (((hB.rd.alloc _).alloc _).alloc _)))))
  go_wp2_with fail
  have hX0 := boxes3 w (.bool s) (.slice p n nc) (.bool !s) (.slice q m mc) (.bool false) (.slice none 0 0) 24 24 24 nq
  generalize ((((w.alloc (Obj.cells #[Value.bool s, Value.slice p n nc] 24)).alloc (Obj.cells #[Value.bool !s, Value.slice q m mc] 24)).alloc (Obj.cells #[Value.bool false, Value.slice none 0 0] 24)).drewN nq) = W0 at *
  have hA0 := (hA.below hX0.below).tr
  have hB0 := (hB.below hX0.below).tr
  refine (compare_any p q (tlen xs) nc (tlen ys) mc (tr xs) (tr ys) _ (length_tr xs) (length_tr ys) hA0.cap hA0.bnd hB0.cap hB0.bnd hA0.rd hA0.u hB0.rd hB0.u).mono ?_
  rintro e W ⟨rfl, hb0⟩
  have hX := hX0.later hb0
  have hA' := hA.below hX.below
  have hB' := hB.below hX.below
  have k0 := hX.cb0
  have k1 := hX.cb1
  clear hX0 hA0 hB0 hb0 W0
  go_wp2
  go_region_held3 (fun w' => w'.cell? ⟨w.heap.size + 1, 0, none⟩ = some (.bool !s) ∧ w'.cell? ⟨w.heap.size + 1, 1, none⟩ = some (.slice q m mc)) (first | (simp [go_sem, *]; done) | exact keepc2 (by assumption) (by assumption))
    (first
      | (go_at_call 71; refine (difference_any q p (tlen ys) mc (tlen xs) nc (tr ys) (tr xs) _ (length_tr ys) (length_tr xs) hA'.tr.cap hA'.bnd (by omega) ?_ (u32_tr hB.u) ?_ (u32_tr hA.u) (by rw [val_tr, val_tr]; omega)).mono ?_; exact hB'.tr.rd.drew; exact hA'.tr.rd.drew; rintro e w1 ⟨zs, rfl, z1, z2, z3, z4, hb1⟩)
      | (go_at_call 68; refine (number_any (!s) (some ⟨W.heap.size, 0, none⟩) (tlen ys) (tlen ys) zs _ z1 (Nat.le_refl _) (by unfold maxLen; omega) ?_).mono ?_; exact z4.rd_all; rintro e w2 ⟨rfl, hb2⟩; obtain ⟨c0, c1, f0, f1⟩ := resbox ((undrew hb1).trans (hb2.mono (undrew hb1).size)) hX.cr0 hX.cr1 hX.fr0 hX.fr1))
  go_wp2
  have hsz := hX.size
  have hend := end_number (z := ival s xs + ival (!s) ys) (sg := !s) (u := .bool (nsg (!s) zs)) (v := .slice (nad (some ⟨W.heap.size, 0, none⟩) zs) (tlen zs) (tlen zs)) hX.below (r := w.heap.size + 1 + 1) (by omega) (by omega) z4 z2 (undrew hb1) hb2 (by rw [val_tr, val_tr] at z3; cases s <;> simp [ival, z3] <;> omega)
  refine bodyPost_ret (v := .agg #[.bool (nsg (!s) zs), .slice (nad (some ⟨W.heap.size, 0, none⟩) zs) (tlen zs) (tlen zs)]) (by simp [results, Tryz.results40, go_sem, c0, c1]) rfl ⟨_, _, _, tr zs, rfl, hend.1, ?_, hend.2⟩
  have := tlen_le zs
  omega

/-- limbs.Add. -/
theorem Add_any (s t : Bool) (p q : Option Addr) (n nc m mc : Nat) (xs ys : List Int) (w : World) (hA : AI w p n nc xs) (hB : AI w q m mc ys) :
    Calls Tryz.prog 40 #[.agg #[.bool s, .slice p n nc], .agg #[.bool t, .slice q m mc]] w fun e w' => ∃ s' p' n' zs, e = .returned (.agg #[.bool s', .slice p' n' n']) ∧ NI w.heap.size w' s' p' n' zs (ival s xs + ival t ys) ∧ n' ≤ n + m + 1 ∧ Below w.heap.size w w' := by
  by_cases h : s = t
  · subst h; exact Add_same s p q n nc m mc xs ys w hA hB
  · have : t = !s := by cases s <;> cases t <;> simp_all
    subst this
    rcases Int.lt_or_le (val xs) (val ys) with hv | hv
    · exact Add_lt s p q n nc m mc xs ys w hA hB hv
    · exact Add_ge s p q n nc m mc xs ys w hA hB hv

set_option maxHeartbeats 1000000 in
/-- limbs.Sub. -/
theorem Sub_any (s t : Bool) (p q : Option Addr) (n nc m mc : Nat) (xs ys : List Int) (w : World) (hA : AI w p n nc xs) (hB : AI w q m mc ys) :
    Calls Tryz.prog 43 #[.agg #[.bool s, .slice p n nc], .agg #[.bool t, .slice q m mc]] w fun e w' => ∃ s' p' n' zs, e = .returned (.agg #[.bool s', .slice p' n' n']) ∧ NI w.heap.size w' s' p' n' zs (ival s xs - ival t ys) ∧ n' ≤ n + m + 1 ∧ Below w.heap.size w w' := by
  go_enter Tryz.func43, Tryz.ntmps43
  go_wp2_with fail
  refine (Add_any s (!t) p q n nc m mc xs ys _ (((hA.alloc _).alloc _).alloc _) (((hB.alloc _).alloc _).alloc _)).mono ?_
  rintro e w1 ⟨s', p', n', zs, rfl, hN, hn, hb⟩
  have hX := boxes3 w (.bool s) (.slice p n nc) (.bool t) (.slice q m mc) (.bool false) (.slice none 0 0) 24 24 24 0
  obtain ⟨c0, c1, f0, f1⟩ := resbox hb hX.cr0 hX.cr1 hX.fr0 hX.fr1
  go_wp2
  have hsz := hX.size
  have hend := end_ni (u := .bool s') (v := .slice p' n' n') hX.below (r := w.heap.size + 1 + 1) (by omega) (by omega) hN hb
  refine bodyPost_ret (v := .agg #[.bool s', .slice p' n' n']) (by simp [results, Tryz.results43, go_sem, c0, c1]) rfl ⟨_, _, _, zs, rfl, ?_, hn, hend.2⟩
  have := hend.1
  rwa [ival_not, show ival s xs + - ival t ys = ival s xs - ival t ys by omega] at this
end Go.Proofs.YtongkalfdgleaaaGreatDoor
