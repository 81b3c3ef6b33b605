/-
  limbs.multiplyRows.
-/
import Derived.Test.YtongkalfdgleaaaGreatDoorPnGbWa
import Derived.Test.YtongkalfdgleaaaGreatDoorWdWeNi
import Derived.Test.YtongkalfdgleaaaGreatDoorWkWn
namespace Go.Proofs.YtongkalfdgleaaaGreatDoor
open Go.RowKit
set_option linter.unusedVariables false
set_option linter.unusedSimpArgs false

set_option maxHeartbeats 2000000 in
/-- limbs.multiplyRows. -/
theorem multiplyRows_any (g o cap : Nat) (Z : List Int) (p q : Option Addr) (n nc m mc : Nat) (xs ys : List Int) (w : World)
    (hz : o + (n + m) ≤ Z.length) (hcap : cap ≤ 1099511627776) (hn : n + m ≤ cap) (hR : Row w g 80 .u32 Z) (hZ : (Z.drop o).take (n + m) = zeros (n + m)) (hx : xs.length = n) (hy : ys.length = m)
    (hX : Rd w p .u32 xs) (hXu : U32 xs) (hY : Rd w q .u32 ys) (hYu : U32 ys) (hoffx : 0 < n → Off g p) (hoffy : 0 < m → Off g q) :
    Calls Tryz.prog 119 #[.slice (some ⟨g, o, none⟩) (n + m) cap, .slice p n nc, .slice q m mc] w fun e w' => ∃ R, e = .returned (.tuple #[]) ∧ R.length = n + m ∧ U32 R ∧ val R = val xs * val ys ∧ Row w' g 80 .u32 (mid Z o R) ∧ w.grownBy w' (some g) := by
  go_enter Tryz.func119, Tryz.ntmps119
  go_wp2
  go_loopw [15] (fun iv wr => ∃ (i : Nat) (R : List Int), i ≤ m ∧ iv = .int .i64 i ∧ Hid (R.length = n + m ∧ U32 R ∧ val R = val xs * val (ys.take i) ∧ (∀ j, n + i ≤ j → gx R j = 0) ∧ Row wr g 80 .u32 (mid Z o R) ∧ w.grownBy wr (some g)))
    (fun iv _ => m - (intOf iv).toNat)
  case atStart => exact ⟨0, zeros (n + m), Nat.zero_le _, rfl, length_zeros _, u32_zeros _, by simp [val_zero, val], fun j _ => gx_zeros _ j, by rw [← hZ, mid_self Z o (n + m) hz]; exact hR, grownBy_refl _ _⟩
  case round =>
    obtain ⟨i, R, hi, rfl, H⟩ := hrel
    by_cases hlt : i < m
    · obtain ⟨hl, hu, hv, h0, hr, hg⟩ := H.out
      obtain ⟨b, off, rfl, hcell⟩ := (hY.keptOff hg (hoffy (by omega))) (by omega)
      have hcy := hcell i (by omega)
      clear hl hu hv h0 hr hg hcell
      go_wp2
      go_loopw [8, 29] (fun cv jv wr' => ∃ (j : Nat) (c : Int) (T : List Int), j ≤ n ∧ jv = .int .i64 j ∧ cv = .int .u64 c ∧ 0 ≤ c ∧ c < 4294967296 ∧ Hid (T.length = n + m ∧ U32 T ∧ val T + pw (i + j) * c = val R + pw i * (gx ys i * val (xs.take j)) ∧ (∀ j, n + i ≤ j → gx T j = 0) ∧ Row wr' g 80 .u32 (mid Z o T) ∧ w.grownBy wr' (some g)))
        (fun _ jv _ => n - (intOf jv).toNat)
      case atStart =>
        obtain ⟨hl, hu, hv, h0, hr, hg⟩ := H.out
        exact ⟨0, 0, R, Nat.zero_le _, rfl, rfl, by decide, by decide, hl, hu, by simp [val], h0, hr, hg⟩
      case round =>
        obtain ⟨j, c, T, hj, rfl, rfl, hc0, hc1, HT⟩ := hrel
        by_cases hjn : j < n
        · obtain ⟨hl, hu, hv, h0, hr, hg⟩ := HT.out
          obtain ⟨b', off', rfl, hcell⟩ := (hX.keptOff hg (hoffx (by omega))) (by omega)
          have hcx := hcell j (by omega)
          have hct := hr.mid_cell (by omega) (i + j) (by omega)
          have hfz := hr.frozen (o + (i + j))
          obtain ⟨bt0, bt1⟩ := hu (i + j)
          obtain ⟨bm0, bm1⟩ := mul_bd (hYu i) (hXu j)
          obtain ⟨by0, by1⟩ := hYu i
          obtain ⟨bx0, bx1⟩ := hXu j
          rw [← Nat.add_assoc] at hct hfz
          clear hl hu hv h0 hr hg hcell
          go_wp2
          obtain ⟨hl, hu, hv, h0, hr, hg⟩ := HT.out
          refine ⟨⟨j + 1, _, T.set (i + j) ((gx ys i * gx xs j + gx T (i + j) + c) % 4294967296), by omega, by go_num, rfl, by omega, by omega, ?_⟩, by simp [intOf]; omega⟩
          refine ⟨by rw [List.length_set]; exact hl, u32_set hu _ (by omega), ?_, fun k hk => ?_, ?_, ?_⟩
          · rw [val_set T _ _ (by omega), val_take_succ xs j (by omega), ← Nat.add_assoc, pw_succ]
            have e := cut_step (pw (i + j)) (gx ys i * gx xs j + gx T (i + j) + c)
            have e2 : pw i * (gx ys i * (val (List.take j xs) + pw j * gx xs j)) = pw i * (gx ys i * val (List.take j xs)) + pw (i + j) * (gx ys i * gx xs j) := by
              rw [pw_add, Int.mul_add, Int.mul_add]
              congr 1
              simp only [Int.mul_assoc, Int.mul_left_comm]
            rw [e2]
            simp only [Int.mul_add, Int.mul_sub] at e ⊢
            omega
          · rw [gx_set_ne T _ _ _ (by omega)]; exact h0 k hk
          · rw [Nat.add_assoc]; exact hr.mid_set (by omega) (i + j) (by omega) _
          · exact grownBy_setCell hg _ _
        · have hjn' : j = n := by omega
          subst hjn'
          obtain ⟨hl, hu, hv, h0, hr, hg⟩ := HT.out
          have hct := hr.mid_cell (by omega) (i + j) (by omega)
          have hfz := hr.frozen (o + (i + j))
          clear hl hu hv h0 hr hg
          go_wp2
          obtain ⟨hl, hu, hv, h0, hr, hg⟩ := HT.out
          obtain ⟨rl, ru, rv, r0, rr, rg⟩ := H.out
          refine ⟨⟨i + 1, T.set (i + j) c, by omega, by go_num, ?_⟩, by simp [intOf]; omega⟩
          refine ⟨by rw [List.length_set]; exact hl, u32_set hu _ ⟨hc0, hc1⟩, ?_, fun k hk => ?_, hr.mid_set (by omega) (i + j) (by omega) _, grownBy_setCell hg _ _⟩
          · rw [val_set T _ _ (by omega), h0 (i + j) (by omega), Int.sub_zero, hv, rv, List.take_of_length_le (l := xs) (by omega), val_take_succ ys i (by omega)]
            rw [Int.mul_add]
            congr 1
            simp only [Int.mul_assoc, Int.mul_left_comm, Int.mul_comm]
          · rw [gx_set_ne T _ _ _ (by omega)]; exact h0 k (by omega)
    · have him : i = m := by omega
      subst him
      go_wp2
      go_end0
      obtain ⟨hl, hu, hv, h0, hr, hg⟩ := H.out
      rw [List.take_of_length_le (by omega)] at hv
      exact ⟨R, rfl, hl, hu, hv, hr, hg⟩
end Go.Proofs.YtongkalfdgleaaaGreatDoor
/-
  limbs.multiply, product, Mul: where one of the two has fewer than 80 limbs.
-/
namespace Go.Proofs.YtongkalfdgleaaaGreatDoor
open Go.RowKit
set_option linter.unusedVariables false
set_option linter.unusedSimpArgs false

set_option maxHeartbeats 1000000 in
/-- limbs.multiply, by rows. -/
theorem multiply_small (g o cap : Nat) (Z : List Int) (p q : Option Addr) (n nc m mc : Nat) (xs ys : List Int) (w : World)
    (hz : o + (n + m) ≤ Z.length) (hcap : cap ≤ 1099511627776) (hn : n + m ≤ cap) (hR : Row w g 80 .u32 Z) (hZ : (Z.drop o).take (n + m) = zeros (n + m)) (hx : xs.length = n) (hy : ys.length = m)
    (hX : Rd w p .u32 xs) (hXu : U32 xs) (hY : Rd w q .u32 ys) (hYu : U32 ys) (hoffx : 0 < n → Off g p) (hoffy : 0 < m → Off g q) (h80 : n < 80 ∨ m < 80) :
    Calls Tryz.prog 97 #[.slice (some ⟨g, o, none⟩) (n + m) cap, .slice p n nc, .slice q m mc] w fun e w' => ∃ R, e = .returned (.tuple #[]) ∧ R.length = n + m ∧ U32 R ∧ val R = val xs * val ys ∧ Row w' g 80 .u32 (mid Z o R) ∧ w.grownBy w' (some g) := by
  by_cases hlt : n < m
  · have h1 : (n : Int) < m := by omega
    have h2 : (n : Int) < 80 := by omega
    go_enter Tryz.func97, Tryz.ntmps97
    go_wp2_with fail
    have hmr := multiplyRows_any g o cap Z q p m mc n nc ys xs w (by omega) hcap (by omega) hR (by rw [Nat.add_comm m n]; exact hZ) hy hx hY hYu hX hXu hoffy hoffx
    rw [Nat.add_comm m n] at hmr
    refine hmr.mono ?_
    rintro e w' ⟨R, rfl, r1, r2, r3, r4, r5⟩
    go_wp2
    go_end0
    exact ⟨R, rfl, r1, r2, by rw [r3, Int.mul_comm], r4, r5⟩
  · have h1 : ¬ (n : Int) < m := by omega
    have h2 : (m : Int) < 80 := by omega
    go_enter Tryz.func97, Tryz.ntmps97
    go_wp2_with fail
    refine (multiplyRows_any g o cap Z p q n nc m mc xs ys w hz hcap hn hR hZ hx hy hX hXu hY hYu hoffx hoffy).mono ?_
    rintro e w' ⟨R, rfl, r1, r2, r3, r4, r5⟩
    go_wp2
    go_end0
    exact ⟨R, rfl, r1, r2, r3, r4, r5⟩

set_option maxHeartbeats 1000000 in
/-- limbs.product. -/
theorem product_small (p q : Option Addr) (n nc m mc : Nat) (xs ys : List Int) (w : World) (hn : n ≤ 100000000) (hm : m ≤ 100000000) (hx : xs.length = n) (hy : ys.length = m)
    (hX : Rd w p .u32 xs) (hXu : U32 xs) (hY : Rd w q .u32 ys) (hYu : U32 ys) (h80 : n < 80 ∨ m < 80) :
    Calls Tryz.prog 77 #[.slice p n nc, .slice q m mc] w fun e w' => ∃ R, e = .returned (.slice (some ⟨w.heap.size, 0, none⟩) (n + m) (n + m)) ∧ R.length = n + m ∧ U32 R ∧ val R = val xs * val ys ∧ Row w' w.heap.size 80 .u32 R ∧ Below w.heap.size w w' := by
  have hmk := mk_u32 (n + m) (by omega)
  have ec : ((n + m : Nat) : Int) = (n : Int) + (m : Int) := by omega
  rw [ec] at hmk
  clear ec
  go_enter Tryz.func77, Tryz.ntmps77
  go_wp2_with fail
  refine (multiply_small w.heap.size 0 (n + m) (zeros (n + m)) p q n nc m mc xs ys _ (by rw [length_zeros]; omega) (by omega) (Nat.le_refl _) (Row.new w _ _ _) (by rw [List.drop_zero, List.take_of_length_le (by rw [length_zeros]; omega)]) hx hy (hX.alloc _) hXu (hY.alloc _) hYu (fun h => hX.off (Nat.le_refl _) (by omega)) (fun h => hY.off (Nat.le_refl _) (by omega)) h80).mono ?_
  rintro e w' ⟨R, rfl, r1, r2, r3, r4, r5⟩
  go_wp2
  go_ret
  rw [mid_zero _ _ (by rw [r1, length_zeros])] at r4
  exact ⟨R, rfl, r1, r2, r3, r4, below_grown ((Below.refl _ _).alloc (Nat.le_refl _) _) r5 (by simp) (Nat.le_refl _)⟩

theorem ival_mul (s t : Bool) (xs ys zs : List Int) (h : val zs = val xs * val ys) : ival (s != t) zs = ival s xs * ival t ys := by
  cases s <;> cases t <;> simp [ival, h, Int.neg_mul, Int.mul_neg]

set_option maxHeartbeats 1000000 in
/-- limbs.Mul. -/
theorem Mul_small (s t : Bool) (p q : Option Addr) (n nc m mc : Nat) (xs ys : List Int) (w : World) (hA : AI w p n nc xs) (hB : AI w q m mc ys) (h80 : n < 80 ∨ m < 80) :
    Calls Tryz.prog 47 #[.agg #[.bool s, .slice p n nc], .agg #[.bool t, .slice q m mc]] w fun e w' => ∃ s' p' n' zs, e = .returned (.agg #[.bool s', .slice p' n' n']) ∧ NI w.heap.size w' s' p' n' zs (ival s xs * ival t ys) ∧ n' ≤ n + m ∧ Below w.heap.size w w' := by
  have tx := tlen_le xs
  have ty := tlen_le ys
  have lx := hA.len
  have ly := hB.len
  have bx := hA.sml
  have by' := hB.sml
  go_enter Tryz.func47, Tryz.ntmps47
  go_wp2
  have hX := boxes3' w (.bool s) (.slice p n nc) (.bool t) (.slice q m mc) (.bool false) (.slice none 0 0) 24 24 24
  generalize ((w.alloc (Obj.cells #[Value.bool s, Value.slice p n nc] 24)).alloc (Obj.cells #[Value.bool t, Value.slice q m mc] 24)).alloc (Obj.cells #[Value.bool false, Value.slice none 0 0] 24) = W at *
  have hA' := hA.below hX.below
  have hB' := hB.below hX.below
  have k0 := hX.ca0
  have k1 := hX.ca1
  have k2 := hX.cb0
  have k3 := hX.cb1
  go_region_held3 (fun w' => w'.cell? ⟨w.heap.size, 0, none⟩ = some (.bool s) ∧ w'.cell? ⟨w.heap.size, 1, none⟩ = some (.slice p n nc) ∧ w'.cell? ⟨w.heap.size + 1, 0, none⟩ = some (.bool t) ∧ w'.cell? ⟨w.heap.size + 1, 1, none⟩ = some (.slice q m mc)) (first | (simp [go_sem, *]; done) | exact keepc4 (by assumption) (by assumption))
    (first
      | (go_at_call_of 67 (Value.slice p n nc); refine (trim_any p n nc xs _ hA.len hA.cap hA.bnd ?_).mono ?_; exact hA'.rd.drew; rintro e w' ⟨rfl, rfl⟩)
      | (go_at_call_of 67 (Value.slice q m mc); refine (trim_any q m mc ys _ hB.len hB.cap hB.bnd ?_).mono ?_; exact hB'.rd.drew; rintro e w' ⟨rfl, rfl⟩)
      | (go_at_call 77; refine (product_small p q (tlen xs) nc (tlen ys) mc (tr xs) (tr ys) _ (by omega) (by omega) (length_tr xs) (length_tr ys) ?_ (u32_tr hA.u) ?_ (u32_tr hB.u) (by omega)).mono ?_; exact hA'.tr.rd.drew; exact hB'.tr.rd.drew; rintro e w1 ⟨zs, rfl, z1, z2, z3, z4, hb1⟩)
      | (go_at_call 68; refine (number_any (s != t) (some ⟨W.heap.size, 0, none⟩) (tlen xs + tlen ys) (tlen xs + tlen ys) zs _ z1 (Nat.le_refl _) (by unfold maxLen; omega) ?_).mono ?_; exact z4.rd_all; rintro e w2 ⟨rfl, hb2⟩; obtain ⟨c0, c1, f0, f1⟩ := resbox ((undrew hb1).trans (hb2.mono (undrew hb1).size)) hX.cr0 hX.cr1 hX.fr0 hX.fr1))
  go_wp2
  have hsz := hX.size
  have hend := end_number (z := ival s xs * ival t ys) (sg := s != t) (u := .bool (nsg (s != t) zs)) (v := .slice (nad (some ⟨W.heap.size, 0, none⟩) zs) (tlen zs) (tlen zs)) hX.below (r := w.heap.size + 1 + 1) (by omega) (by omega) z4 z2 (undrew hb1) hb2 (by rw [val_tr, val_tr] at z3; exact ival_mul s t xs ys zs z3)
  refine bodyPost_ret (v := .agg #[.bool (nsg (s != t) zs), .slice (nad (some ⟨W.heap.size, 0, none⟩) zs) (tlen zs) (tlen zs)]) (by simp [results, Tryz.results47, go_sem, c0, c1]) rfl ⟨_, _, _, tr zs, rfl, hend.1, ?_, hend.2⟩
  have := tlen_le zs
  omega
end Go.Proofs.YtongkalfdgleaaaGreatDoor
/-
  strings.TrimLeft by one sign; limbs.spell of fewer than 80 limbs.
-/
namespace Go.Proofs.YtongkalfdgleaaaGreatDoor
open Go.RowKit
set_option linter.unusedVariables false
set_option linter.unusedSimpArgs false

/-- Without the noughts ahead. -/
def strip (l : List UInt8) : List UInt8 := l.dropWhile (· == 48)
theorem extract_one (c : UInt8) (r : List UInt8) : (⟨(c :: r).toArray⟩ : ByteArray).extract 1 (r.length + 1) = ⟨r.toArray⟩ := by
  rw [ByteArray.extract_mk]
  simp
theorem strip_head (r : List UInt8) : strip (48 :: r) = strip r := by simp [strip]
theorem strip_other (c : UInt8) (r : List UInt8) (h : c ≠ 48) : strip (c :: r) = c :: r := by simp [strip, h]


set_option maxHeartbeats 1000000 in
theorem trimLeftByte_any (l : List UInt8) (w : World) (hl : l.length ≤ 1099511627776) :
    Calls Tryz.prog 106 #[.string ⟨l.toArray⟩, .int .u8 48] w fun e w' => e = .returned (.string ⟨(strip l).toArray⟩) ∧ w = w' := by
  go_enter Tryz.func106, Tryz.ntmps106
  go_wp2
  go_loop [0] (fun sv => ∃ r : List UInt8, r.length ≤ l.length ∧ sv = .string ⟨r.toArray⟩ ∧ Hid (strip r = strip l)) (fun sv => match sv with | .string s => s.size | _ => 0)
  case atStart => exact ⟨l, Nat.le_refl _, rfl, rfl⟩
  case round =>
    obtain ⟨r, hr, rfl, H⟩ := hrel
    cases r with
    | nil =>
      go_wp2
      go_ret
      have := H.out
      exact ⟨by rw [← this]; rfl, rfl⟩
    | cons c r =>
      by_cases hc : c = 48
      · subst hc
        have hb : ((((⟨((48 : UInt8) :: r).toArray⟩ : ByteArray)[0]'(by simp [ByteArray.size])).toNat : Int) == 48) = true := by simp [ByteArray.getElem_eq_getElem_data]
        go_wp2
        rw [extract_one]
        refine ⟨⟨r, by simp at hr; omega, rfl, ?_⟩, by simp [ByteArray.size]⟩
        show _ = _
        rw [← strip_head]; exact H.out
      · have hb : ((((⟨(c :: r).toArray⟩ : ByteArray)[0]'(by simp [ByteArray.size])).toNat : Int) == 48) = false := by
          simp [ByteArray.getElem_eq_getElem_data]
          intro e
          exact hc (UInt8.toNat_inj.1 (show c.toNat = 48 by omega))
        go_wp2
        go_ret
        have := H.out
        rw [strip_other c r hc] at this
        rw [← this]
        exact ⟨rfl, rfl⟩

set_option maxRecDepth 100000 in
set_option maxHeartbeats 1000000 in
/-- strings.TrimLeft by one nought. -/
theorem TrimLeft_any (l : List UInt8) (w : World) (hl : l.length ≤ 1099511627776) (h0 : l ≠ []) :
    Calls Tryz.prog 88 #[.string ⟨l.toArray⟩, .string ⟨#[48]⟩] w fun e w' => e = .returned (.string ⟨(strip l).toArray⟩) ∧ w = w' := by
  cases l with
  | nil => exact absurd rfl h0
  | cons c r =>
    have h48 : (((⟨#[48]⟩ : ByteArray)[0]'(by decide)).toNat : Int) = 48 := rfl
    go_enter Tryz.func88, Tryz.ntmps88
    go_wp2_with fail
    refine (trimLeftByte_any (c :: r) _ hl).mono ?_
    rintro e w' ⟨rfl, rfl⟩
    go_wp2
    go_ret
    exact ⟨rfl, rfl⟩

set_option maxHeartbeats 1000000 in
/-- limbs.spell: fewer than 80 limbs. -/
theorem spell_small (g h K cap n nc L Lc : Nat) (pp : Option Addr) (O Z : List Int) (w : World) (hg : Row w g 5 .u8 O) (hO : O.length = 9 * K) (hcap : 9 * K ≤ cap) (hcap' : cap ≤ 1099511627776)
    (hR : Row w h 80 .u32 Z) (hZ : n ≤ Z.length) (hU : U32 Z) (hn : n ≤ nc) (hnc : nc ≤ 1099511627776) (hgh : g ≠ h) (h80 : n < 80) (hL : L ≤ 100) :
    Calls Tryz.prog 86 #[.slice (some ⟨g, 0, none⟩) (9 * K) cap, .slice (some ⟨h, 0, none⟩) n nc, .slice pp L Lc] w fun e w' => ∃ D, e = .returned (.tuple #[]) ∧ D.length = 9 * K ∧ (∀ j, j < 9 * K → gx D j = dgt (val (Z.take n)) (9 * K - 1 - j)) ∧ Row w' g 5 .u8 D ∧ Kp g h w w' := by
  have h80' : (n : Int) < 80 := by omega
  go_enter Tryz.func86, Tryz.ntmps86
  go_wp2_with fail
  refine (spellChunks_any g h K cap n nc O Z w hg hO hcap hcap' hR hZ hU hn hnc hgh).mono ?_
  rintro e w' ⟨D, rfl, d1, d2, d3, d4⟩
  go_wp2
  exact bodyPost_ret (v := .tuple #[]) (by simp [results, Tryz.results86, go_sem]) rfl ⟨D, rfl, d1, d2, d3, d4⟩

theorem info_sl : (Tryz.prog.info? 22).map (fun i => (i.zero, i.size, i.bytes)) = some (some (.slice none 0 0), 1, 24) := by kernel_rfl

theorem ten_sq (L : Nat) (h : 1 ≤ L) : (10 : Int) ^ (9 * 2 ^ (L - 1)) * 10 ^ (9 * 2 ^ (L - 1)) = 10 ^ (9 * 2 ^ L) := by
  rw [← Int.pow_add]
  congr 1
  obtain ⟨m, rfl⟩ : ∃ m, L = m + 1 := ⟨L - 1, by omega⟩
  rw [Nat.add_sub_cancel, Nat.pow_succ]
  omega
theorem ten_big : (4294967296 : Nat) ^ 40 ≤ (10 ^ 144) ^ 4 := by decide +kernel
theorem ten_four (a b : Nat) (h : a * 4 ≤ b) : ((10 : Nat) ^ a) ^ 4 ≤ 10 ^ b := by rw [← Nat.pow_mul]; exact Nat.pow_le_pow_right (by decide) h
theorem pow_few {L k : Nat} (hk : k ≤ 40) (h : (10 : Int) ^ (9 * 2 ^ (L - 1)) < pw k) : L ≤ 6 := by
  rcases Nat.lt_or_ge 6 L with hL | hL
  · exfalso
    have h1 : pw k ≤ pw 40 := pw_mono hk
    have h2 : 64 ≤ 2 ^ (L - 1) := by
      have := Nat.pow_le_pow_right (n := 2) (by decide) (show 6 ≤ L - 1 by omega)
      simpa using this
    have h3 := ten_four 144 (9 * 2 ^ (L - 1)) (by omega)
    have h4 : pw 40 = ((4294967296 ^ 40 : Nat) : Int) := by unfold pw; rw [Int.natCast_pow]; rfl
    have h5 : ((10 ^ (9 * 2 ^ (L - 1)) : Nat) : Int) = (10 : Int) ^ (9 * 2 ^ (L - 1)) := by rw [Int.natCast_pow]; rfl
    rw [h4] at h1
    rw [← h5] at h
    have h6 := Nat.le_trans ten_big h3
    omega
  · exact hL
theorem chunk_enough {ps : List Int} {k n L : Nat} (hU : U32 ps) (hk : tlen ps = k) (hk0 : 0 < k) (hv : val ps = 10 ^ (9 * 2 ^ (L - 1))) (hL : 1 ≤ L) (hn : n + 1 < 2 * k) : pw n ≤ 10 ^ (9 * 2 ^ L) := by
  have h1 := val_pos_of_top hU (by omega)
  rw [hk] at h1
  rw [← ten_sq L hL, ← hv]
  have h2 : pw n ≤ pw ((k - 1) + (k - 1)) := pw_mono (by omega)
  rw [pw_add] at h2
  have h3 := pw_pos (k - 1)
  have h4 := Int.mul_le_mul h1 h1 (Int.le_of_lt h3) (by omega)
  omega

/-- What chunkPowers answers. -/
def CpPost (n : Nat) (w : World) (e : Ending) (w' : World) : Prop := ∃ pp L Lc, e = .returned (.slice pp L Lc) ∧ 1 ≤ L ∧ L ≤ 7 ∧ pw n ≤ 10 ^ (9 * 2 ^ L) ∧ Below w.heap.size w w'

set_option maxHeartbeats 2000000 in
/-- limbs.chunkPowers: how many powers there are. -/
theorem chunkPowers_any (n : Nat) (w : World) (hn : n < 80) (hn0 : 0 < n) :
    Calls Tryz.prog 85 #[.int .i64 n] w (CpPost n w) := by
  obtain ⟨i0, hi, hzz⟩ := Option.map_eq_some_iff.1 info_sl
  simp only [Prod.mk.injEq] at hzz
  obtain ⟨hz0, hz1, hz2⟩ := hzz
  have HI : Hid (Tryz.prog.info? 22 = some i0 ∧ i0.zero = some (.slice none 0 0) ∧ i0.size = 1 ∧ i0.bytes = 24) := ⟨hi, hz0, hz1, hz2⟩
  clear hi hz0 hz1 hz2
  go_enter Tryz.func85, Tryz.ntmps85
  go_wp2
  go_loopw [3, 4] (fun pv qv wr => ∃ (pb k kc gb L Lc : Nat) (ps : List Int) (xs : List Value), pv = .slice (some ⟨pb, 0, none⟩) k kc ∧ qv = .slice (some ⟨gb, 0, none⟩) L Lc ∧ 1 ≤ L ∧ L ≤ 7 ∧ k ≤ kc ∧ kc ≤ 200 ∧ 0 < k ∧ Hid (pb ≠ gb ∧ ps.length = k ∧ U32 ps ∧ tlen ps = k ∧ val ps = 10 ^ (9 * 2 ^ (L - 1)) ∧ Rd wr (some ⟨pb, 0, none⟩) .u32 ps ∧ wr.ownsRow w.heap.size 22 1 (.slice (some ⟨gb, 0, none⟩) L Lc) L xs ∧ Below w.heap.size w wr))
    (fun _ qv _ => match qv with | .slice _ L _ => 8 - L | _ => 0)
  case atStart =>
    refine ⟨w.heap.size, 1, 1, w.heap.size + 1, 1, 1, [1000000000], [.slice (some ⟨w.heap.size, 0, none⟩) 1 1], rfl, rfl, by decide, by decide, by decide, by decide, by decide, by omega, rfl, u32_one (by decide), by simp [tlen], by simp [val], ?_, ?_, ?_⟩
    · exact ((Row.new w 80 .u32 [1000000000]).alloc _).rd_all
    · refine ⟨rfl, .inr ⟨w.heap.size + 1, 1, #[.slice (some ⟨w.heap.size, 0, none⟩) 1 1], rfl, by omega, ?_, by decide, by unfold maxLen; decide, rfl, rfl⟩⟩
      have := heap_alloc_new (w.alloc (Obj.cells #[Value.int IntKind.u32 1000000000] 80)) (Obj.cells #[Value.slice (some ⟨w.heap.size, 0, none⟩) 1 1] 22)
      rwa [World.size_alloc] at this
    · exact ((Below.refl _ _).alloc (Nat.le_refl _) _).alloc (by simp) _
  case round =>
    obtain ⟨pb, k, kc, gb, L, Lc, ps, xs, rfl, rfl, hL1, hL7, hk, hkc, hk0, H⟩ := hrel
    by_cases hlt : 2 * k ≤ n + 1
    · have hc : (2 * (k : Int) - 1) ≤ n := by omega
      obtain ⟨a1, a2, a3, a4, a5, a6, a7, a8⟩ := H.out
      have hL6 : L ≤ 6 := by
        refine pow_few (k := k) (by omega) ?_
        rw [← a5, ← a4]; exact val_lt_tlen a3
      go_wp2_with fail
      refine (product_small (some ⟨pb, 0, none⟩) (some ⟨pb, 0, none⟩) k kc k kc ps ps _ (by omega) (by omega) a2 a2 a6 a3 a6 a3 (by omega)).mono ?_
      rintro e w1 ⟨R, rfl, r1, r2, r3, r4, r5⟩
      go_wp2_with fail
      refine (trim_any (some ⟨wr.heap.size, 0, none⟩) (k + k) (k + k) R _ r1 (Nat.le_refl _) (by unfold maxLen; omega) r4.rd_all).mono ?_
      rintro e w2 ⟨rfl, rfl⟩
      have htR := tlen_le R
      have hown := (a7.kept (grownBy_below r5 none) (by simp [Value.ownBlock])).alloc (Obj.cells #[Value.slice (some ⟨wr.heap.size, 0, none⟩) (tlen R) (k + k)] 22)
      have hs5 := r5.size
      have hs8 := a8.size
      have hrl := r4.lt
      have hgl : gb < wr.heap.size := (a7.lt gb rfl).2
      obtain ⟨hi, hz0, hz1, hz2⟩ := HI.out
      have HV : Hid (tlen R = tlen R ∧ val R = val ps * val ps ∧ val ps = 10 ^ (9 * 2 ^ (L - 1)) ∧ U32 R ∧ R.length = k + k ∧ Row w1 wr.heap.size 80 .u32 R ∧ Below wr.heap.size wr w1 ∧ Below w.heap.size w wr) := ⟨rfl, r3, a5, r2, r1, r4, r5, a8⟩
      clear r3 a5 r2 r4 r5 a8 a1 a2 a3 a4 a6 H
      go_wp2_with (at_builtin; refine wpList_append_lies _ rfl _ _ 105 rfl w.heap.size 22 i0 (.slice none 0 0) 1 24 Tryz.underlying105 hi hz0 hz1 hz2 rfl (by decide) (.slice (some ⟨gb, 0, none⟩) L Lc) L xs rfl hown ⟨w1.heap.size, 0, none⟩ 1 1 [.slice (some ⟨wr.heap.size, 0, none⟩) (tlen R) (k + k)] rfl rfl (cell_one_new _ _ _) (fun x hx => by simp at hx; subst hx; rfl) (by decide) (by unfold maxLen; omega) (by omega) (by simp; omega) _ rfl ?_; intro g cap w3 hown3 hgrow3 hat3 hlt3)
      obtain ⟨_, v1, v2, v3, v4, v5, v6, v7⟩ := HV.out
      have hvR : val R = 10 ^ (9 * 2 ^ (L + 1 - 1)) := by rw [v1, v2, ten_sq L hL1, Nat.add_sub_cancel]
      have hpos : 0 < tlen R := by
        rcases Nat.eq_zero_or_pos (tlen R) with h | h
        · have h2 := (tlen_zero_iff v3).1 h
          rw [hvR] at h2
          exact absurd h2 (Int.ne_of_gt (Int.pow_pos (by decide)))
        · exact h
      have hne : wr.heap.size ≠ gb := by omega
      have hw3 : Below w.heap.size w w3 := ((v7.trans (v6.mono hs8)).alloc (by omega) _).grown hgrow3 (by simp; omega) (fun k hk => by simp [Value.ownBlock] at hk; subst hk; exact (a7.lt gb rfl).1)
      refine ⟨⟨wr.heap.size, tlen R, k + k, g, L + 1, cap, tr R, xs ++ [.slice (some ⟨wr.heap.size, 0, none⟩) (tlen R) (k + k)], rfl, rfl, by omega, by omega, by omega, by omega, hpos, ?_, length_tr R, u32_tr v3, tlen_tr R, by rw [val_tr]; exact hvR, ?_, hown3, hw3⟩, by simp; omega⟩
      · rcases hat3 with h | h
        · simp [Value.ownBlock] at h; omega
        · rw [h]; simp; omega
      · refine ((v5.alloc _).rd_take (tlen R)).kept hgrow3 (fun a ha => ?_)
        cases ha
        simp [Value.ownBlock]; omega
    · have hc : ¬ (2 * (k : Int) - 1) ≤ n := by omega
      go_wp2
      go_ret
      obtain ⟨a1, a2, a3, a4, a5, a6, a7, a8⟩ := H.out
      exact ⟨_, L, Lc, rfl, hL1, hL7, chunk_enough a3 a4 hk0 a5 hL1 (by omega), a8⟩
end Go.Proofs.YtongkalfdgleaaaGreatDoor
