/-
  upoly.Mul of any two, told by the trimmed lists and the width of a digit.
-/
import Derived.Test.YtneejidiefkgkaaGreatDoorPvPwUoPx
import Derived.Test.YtneejidiefkgkaaGreatDoorUl
import Derived.Test.YtneejidiefkgkaaGreatDoorVbDaCxRbCyViVuPr
import Derived.Test.YtneejidiefkgkaaGreatDoorWkWlBxBbCvNj
namespace Go.Proofs.YtneejidiefkgkaaGreatDoor
open Go.RowKit
set_option linter.unusedVariables false
set_option linter.unusedSimpArgs false

theorem product_t {B C : Nat} {w : World} {K L : Nat} {p q : Option Addr} {n m : Nat} {es fs : List Ent} {zs ys : List Int} (h : PB B w K p n es zs) (k : PB C w L q m fs ys) (hn : n ≤ 80) (hm : m ≤ 80) (hd : K + L + 1 ≤ 70) (T : Nat) (hT : 1 ≤ n → 1 ≤ m → wd zs ys ≤ T) (hf : T * (n - 1) + K < 80) (hg : T * (m - 1) + L < 900) :
    Calls Tryz.prog 49 #[.slice p n n, .slice q m m] w (PnP (mulp zs ys) (K + L + 1) w) := by
  rw [mulp, h.zl, k.zl]
  by_cases h0 : n = 0 ∨ m = 0
  · rw [if_pos h0]
    exact product_nil w _ p q n m n m (by omega) (by omega) h0
  · rw [if_neg h0]
    exact product_w h k hn hm (by omega) (by omega) (by omega) (by omega) hd T (hT (by omega) (by omega)) hf hg
/-- The width, out of bounds in bits. -/
theorem wd_bits {zs ys : List Int} {a b c T : Nat} (h1 : pb zs ≤ a) (h2 : pb ys ≤ b) (h3 : 0 < zs.length) (h4 : 0 < ys.length) (h5 : zs.length < 2 ^ c) (hc : c ≤ 7) (hT : (a + b + c) / 32 + 1 ≤ T) : wd zs ys ≤ T := by
  have h6 : (2 : Nat) ^ c ≤ 2 ^ 7 := Nat.pow_le_pow_right (by decide) hc
  have hb := bitLen_bd (x := ((min zs.length ys.length : Nat) : Int)) (by omega) (by omega)
  rw [Int.toNat_natCast] at hb
  obtain ⟨b1, b2, b3⟩ := hb
  have hM : Lib.bitLen (min zs.length ys.length) ≤ c := by
    generalize Lib.bitLen (min zs.length ys.length) = M at *
    rcases Nat.lt_or_ge c M with h | h
    · have h7 := p2_mono (show c ≤ M - 1 by omega)
      rcases b3.2.2 with h8 | h8
      · omega
      · have h9 : ((2 ^ c : Nat) : Int) = (2 : Int) ^ c := by norm_cast
        omega
    · exact h
  rw [wd]
  exact Nat.le_trans (by omega) hT
set_option maxHeartbeats 2000000 in
set_option maxRecDepth 100000 in
/-- upoly.Mul. -/
theorem uMul_w {w : World} {K L : Nat} {p q : Option Addr} {n nc m mc : Nat} {es fs : List Ent} {zs ys : List Int} (h : PA w K p n nc es zs) (k : PA w L q m mc fs ys) (hn : n ≤ 80) (hm : m ≤ 80) (hd : K + L + 1 ≤ 70) (T : Nat) (hT : 1 ≤ tlen zs → 1 ≤ tlen ys → wd (tr zs) (tr ys) ≤ T) (hf : T * (tlen zs - 1) + K < 80) (hg : T * (tlen ys - 1) + L < 900) :
    Calls Tryz.prog 17 #[.slice p n nc, .slice q m mc] w (PnP (mulp (tr zs) (tr ys)) (K + L + 1) w) := by
  have hzl := h.zl
  have hyl := k.zl
  have htz := tlen_le zs
  have hty := tlen_le ys
  have HF := (show Hid (T * (tlen zs - 1) + K < 80) from hf)
  have HG := (show Hid (T * (tlen ys - 1) + L < 900) from hg)
  have HT := (show Hid (1 ≤ tlen zs → 1 ≤ tlen ys → wd (tr zs) (tr ys) ≤ T) from hT)
  clear hf hg hT
  go_enter Tryz.func17, Tryz.ntmps17
  go_wp2_with fail
  refine (read_any K p n nc es zs _ h (by omega) (by omega)).mono ?_
  rintro e w1 ⟨p1, n1, es1, rfl, h1, hb1⟩
  go_wp2_with fail
  refine (read_any L q m mc fs ys _ (k.below hb1) (by omega) (by omega)).mono ?_
  rintro e w2 ⟨q1, m1, fs1, rfl, k1, hb2⟩
  have hn' := h1.zl
  have hm' := k1.zl
  rw [length_tr] at hn' hm'
  subst hn' hm'
  go_wp2_with fail
  refine (product_t (h1.below hb2) k1 (by omega) (by omega) hd T HT.out HF.out HG.out).mono ?_
  rintro e w3 ⟨p3, n3, es3, rfl, h3, hb3⟩
  go_wp2
  go_ret
  exact PnP.from ⟨p3, n3, es3, rfl, h3, hb3⟩ (bnext' hb1 hb2)
end Go.Proofs.YtneejidiefkgkaaGreatDoor
/-
  Plain: the value of a polynomial.
-/
namespace Go.Proofs.YtneejidiefkgkaaGreatDoor
open Go.RowKit
set_option linter.unusedVariables false
set_option linter.unusedSimpArgs false

/-- The value at x, by Horner. -/
def evz (x : Int) : List Int → Int
  | [] => 0
  | c :: cs => evz x cs * x + c
theorem evz_drop (x : Int) (zs : List Int) (i : Nat) (h : i < zs.length) : evz x (zs.drop i) = evz x (zs.drop (i + 1)) * x + gx zs i := by
  rw [List.drop_eq_getElem_cons h, gx_mem zs i h]
  rfl
theorem evz_lt {x : Int} {K L : Nat} (hx : (x.natAbs : Int) < pw L) : ∀ (zs : List Int), (∀ j, ((gx zs j).natAbs : Int) < pw K) → ((evz x zs).natAbs : Int) < pw (K + zs.length * (L + 1))
  | [], _ => by simpa [evz] using pw_pos _
  | c :: cs, h => by
    have ih := evz_lt hx cs (fun j => by simpa [gx] using h (j + 1))
    have hc : ((c).natAbs : Int) < pw K := by simpa [gx] using h 0
    have hm : ((evz x cs * x).natAbs : Int) ≤ pw (K + cs.length * (L + 1) + L) := by
      rw [pw_add, Int.natAbs_mul]
      push_cast
      exact Int.mul_le_mul (Int.le_of_lt ih) (Int.le_of_lt hx) (by omega) (Int.le_of_lt (pw_pos _))
    have h1 : pw K ≤ pw (K + cs.length * (L + 1) + L) := pw_mono (by omega)
    have h2 : K + (c :: cs).length * (L + 1) = K + cs.length * (L + 1) + L + 1 := by
      simp only [List.length_cons]
      rw [Nat.succ_mul]
      omega
    rw [h2, pw_succ]
    show ((evz x cs * x + c).natAbs : Int) < _
    have h3 := pw_pos (K + cs.length * (L + 1) + L)
    omega
end Go.Proofs.YtneejidiefkgkaaGreatDoor
/-
  ashlarref3.At at an entry that is there, Lead of one that is not zero.
-/
namespace Go.Proofs.YtneejidiefkgkaaGreatDoor
open Go.RowKit
set_option linter.unusedVariables false
set_option linter.unusedSimpArgs false

set_option maxHeartbeats 2000000 in
set_option maxRecDepth 100000 in
/-- ashlarref3.At, at an entry that is there. -/
theorem rpAt_in {w : World} {N : Nat} {p : Option Addr} {n nc : Nat} {es : List Ent} {zs : List Int} (h : PR w N p n nc es zs) (i : Nat) (hi : i < n) (hn : n ≤ 1000000) :
    Calls Tryz.prog 74 #[.slice p n nc, .int .i64 i] w fun r w' => r = .returned (.agg #[.bool (ge es i).s, .slice (ge es i).p (ge es i).n (ge es i).c]) ∧ Below w.heap.size w w' := by
  have hel := h.el
  have hal := bel_al (o := .cells #[.bool false, .slice none 0 0] 50) (Below.refl w.heap.size w)
  have hX : Bx (w.alloc (.cells #[.bool false, .slice none 0 0] 50)) w.heap.size (.bool false) (.slice none 0 0) := Bx.new _ _ _ rfl
  obtain ⟨b, o, hp, hc⟩ := (h.below hal).pl (by omega)
  subst hp
  obtain ⟨c0, c1⟩ := hc i (by omega)
  have i1 : (i : Int) < (n : Int) := by omega
  have i2 : ¬ (i : Int) < 0 := by omega
  have i3 : ¬ (n : Int) ≤ (i : Int) := by omega
  obtain ⟨r0, r1, f0, f1⟩ := id hX
  clear hc h
  go_enter Tryz.func74, Tryz.ntmps74
  go_upto_region 1 with fail
  generalize w.alloc (.cells #[.bool false, .slice none 0 0] 50) = W at *
  go_wp2
  refine bodyPost_ret (v := .agg #[.bool (ge es i).s, .slice (ge es i).p (ge es i).n (ge es i).c]) (by simp [results, Tryz.results74, go_sem, r0, r1]) rfl ⟨rfl, ?_⟩
  exact bset2 hal (Nat.le_refl _) _ _
set_option maxHeartbeats 2000000 in
set_option maxRecDepth 100000 in
/-- ashlarref3.Lead of a polynomial that is not zero. -/
theorem rpLead_in {w : World} {N : Nat} {p : Option Addr} {n nc : Nat} {es : List Ent} {zs : List Int} (h : PR w N p n nc es zs) (hn1 : 1 ≤ n) (hn : n ≤ 1000000) :
    Calls Tryz.prog 33 #[.slice p n nc] w fun r w' => r = .returned (.agg #[.bool (ge es (n - 1)).s, .slice (ge es (n - 1)).p (ge es (n - 1)).n (ge es (n - 1)).c]) ∧ Below w.heap.size w w' := by
  obtain ⟨i, hi⟩ : ∃ i, i = n - 1 := ⟨_, rfl⟩
  rw [← hi]
  have hal := bel_al (o := .cells #[.bool false, .slice none 0 0] 50) (Below.refl w.heap.size w)
  have hX : Bx (w.alloc (.cells #[.bool false, .slice none 0 0] 50)) w.heap.size (.bool false) (.slice none 0 0) := Bx.new _ _ _ rfl
  have ha := rpAt_in (h.below hal) i (by omega) hn
  have i1 : (n : Int) - 1 = (i : Int) := by omega
  have i2 : IntKind.i64.wrap (i : Int) = (i : Int) := by rw [IntKind.wrap_i64]; omega
  clear h hi
  go_enter Tryz.func33, Tryz.ntmps33
  go_upto_region 1 with fail
  generalize w.alloc (.cells #[.bool false, .slice none 0 0] 50) = W at *
  go_wp2_with fail
  refine ha.mono ?_
  rintro r w1 ⟨rfl, hb1⟩
  obtain ⟨r0, r1, f0, f1⟩ := hX.later hb1
  clear ha hX
  go_wp2
  refine bodyPost_ret (v := .agg #[.bool (ge es i).s, .slice (ge es i).p (ge es i).n (ge es i).c]) (by simp [results, Tryz.results33, go_sem, r0, r1]) rfl ⟨rfl, ?_⟩
  exact bset2 (bnext' hal hb1) (Nat.le_refl _) _ _
end Go.Proofs.YtneejidiefkgkaaGreatDoor
/-
  limbs.Mod.
-/
namespace Go.Proofs.YtneejidiefkgkaaGreatDoor
open Go.RowKit
set_option linter.unusedVariables false
set_option linter.unusedSimpArgs false

set_option maxHeartbeats 1000000 in
/-- limbs.Mod: a small number that is none. -/
theorem Mod_bad (s : Bool) (p : Option Addr) (n nc : Nat) (m : Int) (w : World) (h : m < 1 ∨ 2147483647 < m) :
    Calls Tryz.prog 117 #[.agg #[.bool s, .slice p n nc], .int .i64 m] w fun e w' => e = .returned (.tuple #[.int .i64 0, .int .i64 1]) ∧ Below w.heap.size w w' := by
  rcases h with h | h
  · go_enter Tryz.func117, Tryz.ntmps117
    go_wp2
    go_ret2
    exact ⟨rfl, (Below.refl _ _).alloc (Nat.le_refl _) _⟩
  · have h' : ¬ m < 1 := by omega
    go_enter Tryz.func117, Tryz.ntmps117
    go_wp2
    go_ret2
    exact ⟨rfl, (Below.refl _ _).alloc (Nat.le_refl _) _⟩

set_option maxHeartbeats 1000000 in
/-- limbs.Mod. -/
theorem Mod_any (s : Bool) (p : Option Addr) (n nc : Nat) (xs : List Int) (m : Int) (w : World) (hA : AI w p n nc xs) (h1 : 1 ≤ m) (h2 : m ≤ 2147483647) :
    Calls Tryz.prog 117 #[.agg #[.bool s, .slice p n nc], .int .i64 m] w fun e w' => e = .returned (.tuple #[.int .i64 (ival s xs % m), .int .i64 0]) ∧ Below w.heap.size w w' := by
  have h1' : ¬ m < 1 := by omega
  have h2' : ¬ 2147483647 < m := by omega
  have hl := hA.len
  have hs := hA.sml
  go_enter Tryz.func117, Tryz.ntmps117
  go_wp2
  go_loop [6, 7] (fun rv iv => ∃ (k : Nat) (r : Int), k ≤ n ∧ iv = .int .i64 ((k : Int) - 1) ∧ rv = .int .u64 r ∧ 0 ≤ r ∧ r < m ∧ Hid (r = val (xs.drop k) % m)) (fun _ iv => (intOf iv + 1).toNat)
  case atStart => exact ⟨n, 0, Nat.le_refl _, by go_num, rfl, by decide, by omega, by show _ = _; rw [List.drop_of_length_le (by omega)]; simp [val]⟩
  case round =>
    obtain ⟨k, r, hk, rfl, rfl, hr0, hr1, HR⟩ := hrel
    by_cases h0 : k = 0
    · subst h0
      have hv := HR.out
      rw [List.drop_zero] at hv
      have HV : Hid (r = val xs % m) := hv
      clear hv HR
      cases s
      · go_wp2
        go_ret2
        have hv := HV.out
        subst hv
        exact ⟨rfl, (Below.refl _ _).alloc (Nat.le_refl _) _⟩
      · by_cases hz : r = 0
        · have hz' : ¬ 0 < r := by omega
          go_wp2
          go_ret2
          have hv := HV.out
          have e : ival true xs % m = 0 := by
            simp only [ival, if_true]; rw [hz] at hv; exact Int.emod_eq_zero_of_dvd (Int.dvd_neg.2 (Int.dvd_of_emod_eq_zero hv.symm))
          rw [e]
          exact ⟨rfl, (Below.refl _ _).alloc (Nat.le_refl _) _⟩
        · have hz' : 0 < r := by omega
          go_wp2
          go_ret2
          have hv := HV.out
          have e : ival true xs % m = m - r := by
            simp only [ival, if_true]
            exact neg_emod h1 hv hz
          rw [e]
          exact ⟨rfl, (Below.refl _ _).alloc (Nat.le_refl _) _⟩
    · obtain ⟨j, rfl⟩ : ∃ j, k = j + 1 := ⟨k - 1, by omega⟩
      have ej : ((j + 1 : Nat) : Int) - 1 = (j : Int) := by omega
      rw [ej]
      clear ej
      obtain ⟨b, off, hp, hcell⟩ := hA.rd (by omega)
      have hc := hcell j (by omega)
      have hlt := block_lt_of_cell hc
      obtain ⟨b0, b1⟩ := hA.u j
      have ho := or_join r (gx xs j) hr0 (by omega) b0 b1
      have hmz : (m == 0) = false := beq_eq_false_iff_ne.2 (by omega)
      subst hp
      clear hcell
      go_wp2
      refine ⟨⟨j, _, by omega, rfl, rfl, Int.emod_nonneg _ (by omega), Int.emod_lt_of_pos _ (by omega), ?_⟩, by simp [intOf]⟩
      show _ = _
      rw [drop_cons xs j (by omega)]
      simp only [val]
      have e := Int.emod_add_mul_ediv (val (xs.drop (j + 1))) m
      rw [← HR.out] at e
      have e2 : gx xs j + 4294967296 * val (xs.drop (j + 1)) = (r * 4294967296 + gx xs j) + m * (4294967296 * (val (xs.drop (j + 1)) / m)) := by
        rw [Int.mul_left_comm]; omega
      rw [e2, Int.add_mul_emod_self_left]
end Go.Proofs.YtneejidiefkgkaaGreatDoor
