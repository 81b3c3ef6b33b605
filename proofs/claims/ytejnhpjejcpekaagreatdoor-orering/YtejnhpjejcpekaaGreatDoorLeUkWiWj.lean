/-
  math/bits.Len off the shelf.
-/
import Derived.Test.YtejnhpjejcpekaaGreatDoorRaWmBeRdLnWrIbWg
import Derived.Test.YtejnhpjejcpekaaGreatDoorUiVqDcUj
import Derived.Test.YtejnhpjejcpekaaGreatDoorUaVgOnWhPn
import Derived.Test.YtejnhpjejcpekaaGreatDoorMmWaWbWc
import Derived.Test.YtejnhpjejcpekaaGreatDoorWdWeNi
namespace Go.Proofs.YtejnhpjejcpekaaGreatDoor
open Go.RowKit
set_option maxHeartbeats 8000000
open Go.Shelf
set_option linter.unusedVariables false
set_option linter.unusedSimpArgs false
def renLen : Go.Shelf.Ren := ⟨fun | 125 => 281 | 128 => 132 | 129 => 326 | n => n, fun | 3 => 3 | 4 => 4 | 5 => 5 | 9 => 9 | 46 => 228 | 51 => 88 | 53 => 204 | n => n, fun n => n⟩
theorem laysLen : Lays.n125 Tryz.prog renLen :=
  { mixed := by kernel_rfl
    f125 := by kernel_rfl
    f128 := by kernel_rfl
    f129 := by kernel_rfl
    t3 := by kernel_rfl
    a3 := fun _ => by kernel_rfl
    z3 := fun _ => by kernel_rfl
    v3 := fun _ => by kernel_rfl
    t4 := by kernel_rfl
    a4 := fun _ => by kernel_rfl
    z4 := fun _ => by kernel_rfl
    v4 := fun _ => by kernel_rfl
    t5 := by kernel_rfl
    a5 := fun _ => by kernel_rfl
    z5 := fun _ => by kernel_rfl
    v5 := fun _ => by kernel_rfl
    t9 := by kernel_rfl
    a9 := fun _ => by kernel_rfl
    z9 := fun _ => by kernel_rfl
    v9 := fun _ => by kernel_rfl
    t46 := by kernel_rfl
    a46 := fun _ => by kernel_rfl
    z46 := fun _ => by kernel_rfl
    v46 := fun _ => by kernel_rfl
    t51 := by kernel_rfl
    a51 := fun _ => by kernel_rfl
    z51 := fun _ => by kernel_rfl
    v51 := fun _ => by kernel_rfl
    t53 := by kernel_rfl
    a53 := fun _ => by kernel_rfl
    z53 := fun _ => by kernel_rfl
    v53 := fun _ => by kernel_rfl }
theorem Len_any (x : Int) (w : World) (h0 : 0 ≤ x) (h1 : x ≤ 18446744073709551615) :
    Calls Tryz.prog 281 #[.int .u64 x] w fun e w' => e = .returned (.int .i64 (Lib.bitLen x.toNat)) ∧ w' = w := Any.bits_Len laysLen x w h0 h1
set_option maxRecDepth 100000 in
theorem rowsCost_any {B C : Nat} {w : World} {K L : Nat} {p q : Option Addr} {n m : Nat} {es fs : List Ent} {zs ys : List Int} (h : PB B w K p n es zs) (k : PB C w L q m fs ys) (hn : n ≤ 1000000) (hm : m ≤ 1000000) (hK : K ≤ 1000) (hL : L ≤ 1000) :
    Calls Tryz.prog 221 #[.slice p n n, .slice q m m] w fun r w' => r = .returned (.int .i64 ((sl zs * sl ys + 80 * cnt zs * cnt ys : Nat) : Int)) ∧ Below w.heap.size w w' := by
  go_enter Tryz.func221, Tryz.ntmps221
  go_wp2_with fail
  refine (weigh_any h hn hK).mono ?_
  rintro e w1 ⟨rfl, c1, s1, hb1⟩
  go_wp2_with fail
  refine (weigh_any (k.below hb1) hm hL).mono ?_
  rintro e w2 ⟨rfl, c2, s2, hb2⟩
  have a1 : n * K ≤ 1000000 * 1000 := Nat.mul_le_mul hn hK
  have a2 : m * L ≤ 1000000 * 1000 := Nat.mul_le_mul hm hL
  have a3 : sl zs * sl ys ≤ 1000000000 * 1000000000 := Nat.mul_le_mul (by omega) (by omega)
  have a4 : cnt zs * cnt ys ≤ 1000000 * 1000000 := Nat.mul_le_mul (by omega) (by omega)
  have e1 : 80 * cnt zs * cnt ys = 80 * (cnt zs * cnt ys) := Nat.mul_assoc _ _ _
  have v1 : IntKind.i64.wrap ((sl zs : Int) * (sl ys : Int)) = ((sl zs * sl ys : Nat) : Int) := by rw [IntKind.wrap_i64]; push_cast; rw [← Int.natCast_mul]; omega
  have v2 : IntKind.i64.wrap (80 * (cnt zs : Int)) = 80 * (cnt zs : Int) := by rw [IntKind.wrap_i64]; omega
  have v3 : IntKind.i64.wrap (80 * (cnt zs : Int) * (cnt ys : Int)) = ((80 * cnt zs * cnt ys : Nat) : Int) := by rw [IntKind.wrap_i64]; push_cast; rw [Int.mul_assoc, ← Int.natCast_mul]; omega
  have v4 : IntKind.i64.wrap (((sl zs * sl ys : Nat) : Int) + ((80 * cnt zs * cnt ys : Nat) : Int)) = ((sl zs * sl ys + 80 * cnt zs * cnt ys : Nat) : Int) := by rw [IntKind.wrap_i64]; omega
  have HF : Hid (((sl zs * sl ys + 80 * cnt zs * cnt ys : Nat) : Int) = (sl zs : Int) * (sl ys : Int) + 80 * ((cnt zs : Int) * (cnt ys : Int))) := by
    show _ = _
    push_cast
    rw [Int.mul_assoc]
  go_wp2
  go_ret
  exact ⟨by rw [HF.out]; rfl, bnext' hb1 hb2⟩
def wd (zs ys : List Int) : Nat := (pb zs + pb ys + Lib.bitLen (min zs.length ys.length)) / 32 + 1
theorem bitLen_le (x : Nat) : Lib.bitLen x ≤ 64 := bitLenAux_le 64 x
set_option maxRecDepth 100000 in
theorem digitWidth_any {w : World} {K L : Nat} {p q : Option Addr} {n nc m mc : Nat} {es fs : List Ent} {zs ys : List Int} (h : PA w K p n nc es zs) (k : PA w L q m mc fs ys) (hn : n ≤ 1000000) (hm : m ≤ 1000000) (hK : K ≤ 1000) (hL : L ≤ 1000) :
    Calls Tryz.prog 220 #[.slice p n nc, .slice q m mc] w fun r w' => r = .returned (.int .i64 (wd zs ys)) ∧ Below w.heap.size w w' := by
  have HW : Hid (wd zs ys = (pb zs + pb ys + Lib.bitLen (min n m)) / 32 + 1) := by show _ = _; rw [wd, h.zl, k.zl]
  obtain ⟨M, hM1, hM2⟩ : ∃ M : Nat, min (n : Int) (m : Int) = (M : Int) ∧ M = min n m := ⟨min n m, by omega, rfl⟩
  have HM : Hid (M = min n m) := hM2
  have hM3 : M ≤ 1000000 := by omega
  have vM : IntKind.u64.wrap (M : Int) = (M : Int) := by rw [IntKind.wrap_u64]; omega
  have hbl := bitLen_le M
  clear hM2
  go_enter Tryz.func220, Tryz.ntmps220
  go_wp2_with fail
  refine (uBits_any h hn hK).mono ?_
  rintro e w1 ⟨rfl, l1, hb1⟩
  go_wp2_with fail
  refine (uBits_any (k.below hb1) hm hL).mono ?_
  rintro e w2 ⟨rfl, l2, hb2⟩
  have v1 : IntKind.i64.wrap ((pb zs : Int) + (pb ys : Int)) = (pb zs : Int) + (pb ys : Int) := by rw [IntKind.wrap_i64]; omega
  go_wp2_with fail
  have hle := Len_any (M : Int) w2 (by omega) (by omega)
  rw [Int.toNat_natCast] at hle
  refine hle.mono ?_
  rintro e w3 ⟨rfl, rfl⟩
  clear hle
  have HW2 : Hid (wd zs ys = (pb zs + pb ys + Lib.bitLen M) / 32 + 1) := by show _ = _; rw [HW.out, HM.out]
  clear HW
  generalize Lib.bitLen M = bl at *
  have v2 : IntKind.i64.wrap ((pb zs : Int) + (pb ys : Int) + (bl : Int)) = (pb zs : Int) + (pb ys : Int) + (bl : Int) := by rw [IntKind.wrap_i64]; omega
  have v3 : ((pb zs : Int) + (pb ys : Int) + (bl : Int)).tdiv 32 = (((pb zs + pb ys + bl) / 32 : Nat) : Int) := by rw [Int.tdiv_eq_ediv_of_nonneg (by omega)]; omega
  have v4 : IntKind.i64.wrap (((pb zs + pb ys + bl) / 32 : Nat) : Int) = (((pb zs + pb ys + bl) / 32 : Nat) : Int) := by rw [IntKind.wrap_i64]; omega
  have v5 : IntKind.i64.wrap ((((pb zs + pb ys + bl) / 32 : Nat) : Int) + 1) = (((pb zs + pb ys + bl) / 32 : Nat) : Int) + 1 := by rw [IntKind.wrap_i64]; omega
  go_wp2
  go_ret
  exact ⟨by rw [HW2.out, Int.natCast_add]; rfl, bnext' hb1 hb2⟩
theorem multiplyRows_any (g o cap : Nat) (Z : List Int) (p q : Option Addr) (n nc m mc : Nat) (xs ys : List Int) (w : World)
    (hz : o + (n + m) ≤ Z.length) (hcap : cap ≤ 1099511627776) (hn : n + m ≤ cap) (hR : Row w g 88 .u32 Z) (hZ : (Z.drop o).take (n + m) = zeros (n + m)) (hx : xs.length = n) (hy : ys.length = m)
    (hX : Rd w p .u32 xs) (hXu : U32 xs) (hY : Rd w q .u32 ys) (hYu : U32 ys) (hoffx : 0 < n → Off g p) (hoffy : 0 < m → Off g q) :
    Calls Tryz.prog 311 #[.slice (some ⟨g, o, none⟩) (n + m) cap, .slice p n nc, .slice q m mc] w fun e w' => ∃ R, e = .returned (.tuple #[]) ∧ R.length = n + m ∧ U32 R ∧ val R = val xs * val ys ∧ Row w' g 88 .u32 (mid Z o R) ∧ w.grownBy w' (some g) := by
  go_enter Tryz.func311, Tryz.ntmps311
  go_wp2
  go_loopw [15] (fun iv wr => ∃ (i : Nat) (R : List Int), i ≤ m ∧ iv = .int .i64 i ∧ Hid (R.length = n + m ∧ U32 R ∧ val R = val xs * val (ys.take i) ∧ (∀ j, n + i ≤ j → gx R j = 0) ∧ Row wr g 88 .u32 (mid Z o R) ∧ w.grownBy wr (some g)))
    (fun iv _ => m - (intOf iv).toNat)
  case atStart => exact ⟨0, zeros (n + m), Nat.zero_le _, rfl, length_zeros _, u32_zeros _, by simp [val_zero, val], fun j _ => gx_zeros _ j, by rw [← hZ, mid_self Z o (n + m) hz]; exact hR, grownBy_refl _ _⟩
  case round =>
    obtain ⟨i, R, hi, rfl, H⟩ := hrel
    by_cases hlt : i < m
    · obtain ⟨hl, hu, hv, h0, hr, hg⟩ := H.out
      obtain ⟨b, off, rfl, hcell⟩ := (hY.keptOff hg (hoffy (by omega))) (by omega)
      have hcy := hcell i (by omega)
      clear hl hu hv h0 hr hg hcell
      go_wp2
      go_loopw [8, 29] (fun cv jv wr' => ∃ (j : Nat) (c : Int) (T : List Int), j ≤ n ∧ jv = .int .i64 j ∧ cv = .int .u64 c ∧ 0 ≤ c ∧ c < 4294967296 ∧ Hid (T.length = n + m ∧ U32 T ∧ val T + pw (i + j) * c = val R + pw i * (gx ys i * val (xs.take j)) ∧ (∀ j, n + i ≤ j → gx T j = 0) ∧ Row wr' g 88 .u32 (mid Z o T) ∧ w.grownBy wr' (some g)))
        (fun _ jv _ => n - (intOf jv).toNat)
      case atStart =>
        obtain ⟨hl, hu, hv, h0, hr, hg⟩ := H.out
        exact ⟨0, 0, R, Nat.zero_le _, rfl, rfl, by decide, by decide, hl, hu, by simp [val], h0, hr, hg⟩
      case round =>
        obtain ⟨j, c, T, hj, rfl, rfl, hc0, hc1, HT⟩ := hrel
        by_cases hjn : j < n
        · obtain ⟨hl, hu, hv, h0, hr, hg⟩ := HT.out
          obtain ⟨b', off', rfl, hcell⟩ := (hX.keptOff hg (hoffx (by omega))) (by omega)
          have hcx := hcell j (by omega)
          have hct := hr.mid_cell (by omega) (i + j) (by omega)
          have hfz := hr.frozen (o + (i + j))
          obtain ⟨bt0, bt1⟩ := hu (i + j)
          obtain ⟨bm0, bm1⟩ := mul_bd (hYu i) (hXu j)
          obtain ⟨by0, by1⟩ := hYu i
          obtain ⟨bx0, bx1⟩ := hXu j
          rw [← Nat.add_assoc] at hct hfz
          clear hl hu hv h0 hr hg hcell
          go_wp2
          obtain ⟨hl, hu, hv, h0, hr, hg⟩ := HT.out
          refine ⟨⟨j + 1, _, T.set (i + j) ((gx ys i * gx xs j + gx T (i + j) + c) % 4294967296), by omega, by go_num, rfl, by omega, by omega, ?_⟩, by simp [intOf]; omega⟩
          refine ⟨by rw [List.length_set]; exact hl, u32_set hu _ (by omega), ?_, fun k hk => ?_, ?_, ?_⟩
          · rw [val_set T _ _ (by omega), val_take_succ xs j (by omega), ← Nat.add_assoc, pw_succ]
            have e := cut_step (pw (i + j)) (gx ys i * gx xs j + gx T (i + j) + c)
            have e2 : pw i * (gx ys i * (val (List.take j xs) + pw j * gx xs j)) = pw i * (gx ys i * val (List.take j xs)) + pw (i + j) * (gx ys i * gx xs j) := by
              rw [pw_add, Int.mul_add, Int.mul_add]
              congr 1
              simp only [Int.mul_assoc, Int.mul_left_comm]
            rw [e2]
            simp only [Int.mul_add, Int.mul_sub] at e ⊢
            omega
          · rw [gx_set_ne T _ _ _ (by omega)]; exact h0 k hk
          · rw [Nat.add_assoc]; exact hr.mid_set (by omega) (i + j) (by omega) _
          · exact grownBy_setCell hg _ _
        · have hjn' : j = n := by omega
          subst hjn'
          obtain ⟨hl, hu, hv, h0, hr, hg⟩ := HT.out
          have hct := hr.mid_cell (by omega) (i + j) (by omega)
          have hfz := hr.frozen (o + (i + j))
          clear hl hu hv h0 hr hg
          go_wp2
          obtain ⟨hl, hu, hv, h0, hr, hg⟩ := HT.out
          obtain ⟨rl, ru, rv, r0, rr, rg⟩ := H.out
          refine ⟨⟨i + 1, T.set (i + j) c, by omega, by go_num, ?_⟩, by simp [intOf]; omega⟩
          refine ⟨by rw [List.length_set]; exact hl, u32_set hu _ ⟨hc0, hc1⟩, ?_, fun k hk => ?_, hr.mid_set (by omega) (i + j) (by omega) _, grownBy_setCell hg _ _⟩
          · rw [val_set T _ _ (by omega), h0 (i + j) (by omega), Int.sub_zero, hv, rv, List.take_of_length_le (l := xs) (by omega), val_take_succ ys i (by omega)]
            rw [Int.mul_add]
            congr 1
            simp only [Int.mul_assoc, Int.mul_left_comm, Int.mul_comm]
          · rw [gx_set_ne T _ _ _ (by omega)]; exact h0 k (by omega)
    · have him : i = m := by omega
      subst him
      go_wp2
      go_end0
      obtain ⟨hl, hu, hv, h0, hr, hg⟩ := H.out
      rw [List.take_of_length_le (by omega)] at hv
      exact ⟨R, rfl, hl, hu, hv, hr, hg⟩
theorem multiply_small (g o cap : Nat) (Z : List Int) (p q : Option Addr) (n nc m mc : Nat) (xs ys : List Int) (w : World)
    (hz : o + (n + m) ≤ Z.length) (hcap : cap ≤ 1099511627776) (hn : n + m ≤ cap) (hR : Row w g 88 .u32 Z) (hZ : (Z.drop o).take (n + m) = zeros (n + m)) (hx : xs.length = n) (hy : ys.length = m)
    (hX : Rd w p .u32 xs) (hXu : U32 xs) (hY : Rd w q .u32 ys) (hYu : U32 ys) (hoffx : 0 < n → Off g p) (hoffy : 0 < m → Off g q) (h80 : n < 80 ∨ m < 80) :
    Calls Tryz.prog 270 #[.slice (some ⟨g, o, none⟩) (n + m) cap, .slice p n nc, .slice q m mc] w fun e w' => ∃ R, e = .returned (.tuple #[]) ∧ R.length = n + m ∧ U32 R ∧ val R = val xs * val ys ∧ Row w' g 88 .u32 (mid Z o R) ∧ w.grownBy w' (some g) := by
  by_cases hlt : n < m
  · have h1 : (n : Int) < m := by omega
    have h2 : (n : Int) < 80 := by omega
    go_enter Tryz.func270, Tryz.ntmps270
    go_wp2_with fail
    have hmr := multiplyRows_any g o cap Z q p m mc n nc ys xs w (by omega) hcap (by omega) hR (by rw [Nat.add_comm m n]; exact hZ) hy hx hY hYu hX hXu hoffy hoffx
    rw [Nat.add_comm m n] at hmr
    refine hmr.mono ?_
    rintro e w' ⟨R, rfl, r1, r2, r3, r4, r5⟩
    go_wp2
    go_end0
    exact ⟨R, rfl, r1, r2, by rw [r3, Int.mul_comm], r4, r5⟩
  · have h1 : ¬ (n : Int) < m := by omega
    have h2 : (m : Int) < 80 := by omega
    go_enter Tryz.func270, Tryz.ntmps270
    go_wp2_with fail
    refine (multiplyRows_any g o cap Z p q n nc m mc xs ys w hz hcap hn hR hZ hx hy hX hXu hY hYu hoffx hoffy).mono ?_
    rintro e w' ⟨R, rfl, r1, r2, r3, r4, r5⟩
    go_wp2
    go_end0
    exact ⟨R, rfl, r1, r2, r3, r4, r5⟩
theorem product_small (p q : Option Addr) (n nc m mc : Nat) (xs ys : List Int) (w : World) (hn : n ≤ 100000000) (hm : m ≤ 100000000) (hx : xs.length = n) (hy : ys.length = m)
    (hX : Rd w p .u32 xs) (hXu : U32 xs) (hY : Rd w q .u32 ys) (hYu : U32 ys) (h80 : n < 80 ∨ m < 80) :
    Calls Tryz.prog 197 #[.slice p n nc, .slice q m mc] w fun e w' => ∃ R, e = .returned (.slice (some ⟨w.heap.size, 0, none⟩) (n + m) (n + m)) ∧ R.length = n + m ∧ U32 R ∧ val R = val xs * val ys ∧ Row w' w.heap.size 88 .u32 R ∧ Below w.heap.size w w' := by
  have hmk := mk_u32 (n + m) (by omega)
  have ec : ((n + m : Nat) : Int) = (n : Int) + (m : Int) := by omega
  rw [ec] at hmk
  clear ec
  go_enter Tryz.func197, Tryz.ntmps197
  go_wp2_with fail
  refine (multiply_small w.heap.size 0 (n + m) (zeros (n + m)) p q n nc m mc xs ys _ (by rw [length_zeros]; omega) (by omega) (Nat.le_refl _) (Row.new w _ _ _) (by rw [List.drop_zero, List.take_of_length_le (by rw [length_zeros]; omega)]) hx hy (hX.alloc _) hXu (hY.alloc _) hYu (fun h => hX.off (Nat.le_refl _) (by omega)) (fun h => hY.off (Nat.le_refl _) (by omega)) h80).mono ?_
  rintro e w' ⟨R, rfl, r1, r2, r3, r4, r5⟩
  go_wp2
  go_ret
  rw [mid_zero _ _ (by rw [r1, length_zeros])] at r4
  exact ⟨R, rfl, r1, r2, r3, r4, below_grown ((Below.refl _ _).alloc (Nat.le_refl _) _) r5 (by simp) (Nat.le_refl _)⟩
theorem ival_mul (s t : Bool) (xs ys zs : List Int) (h : val zs = val xs * val ys) : ival (s != t) zs = ival s xs * ival t ys := by
  cases s <;> cases t <;> simp [ival, h, Int.neg_mul, Int.mul_neg]
theorem Mul_small (s t : Bool) (p q : Option Addr) (n nc m mc : Nat) (xs ys : List Int) (w : World) (hA : AI w p n nc xs) (hB : AI w q m mc ys) (h80 : n < 80 ∨ m < 80) :
    Calls Tryz.prog 115 #[.agg #[.bool s, .slice p n nc], .agg #[.bool t, .slice q m mc]] w fun e w' => ∃ s' p' n' zs, e = .returned (.agg #[.bool s', .slice p' n' n']) ∧ NI w.heap.size w' s' p' n' zs (ival s xs * ival t ys) ∧ n' ≤ n + m ∧ Below w.heap.size w w' := by
  have tx := tlen_le xs
  have ty := tlen_le ys
  have lx := hA.len
  have ly := hB.len
  have bx := hA.sml
  have by' := hB.sml
  go_enter Tryz.func115, Tryz.ntmps115
  go_wp2
  have hX := boxes3' w (.bool s) (.slice p n nc) (.bool t) (.slice q m mc) (.bool false) (.slice none 0 0) 26 26 26
  generalize ((w.alloc (Obj.cells #[Value.bool s, Value.slice p n nc] 26)).alloc (Obj.cells #[Value.bool t, Value.slice q m mc] 26)).alloc (Obj.cells #[Value.bool false, Value.slice none 0 0] 26) = W at *
  have hA' := hA.below hX.below
  have hB' := hB.below hX.below
  have k0 := hX.ca0
  have k1 := hX.ca1
  have k2 := hX.cb0
  have k3 := hX.cb1
  go_region_held3 (fun w' => w'.cell? ⟨w.heap.size, 0, none⟩ = some (.bool s) ∧ w'.cell? ⟨w.heap.size, 1, none⟩ = some (.slice p n nc) ∧ w'.cell? ⟨w.heap.size + 1, 0, none⟩ = some (.bool t) ∧ w'.cell? ⟨w.heap.size + 1, 1, none⟩ = some (.slice q m mc)) (first | (simp [go_sem, *]; done) | exact keepc4 (by assumption) (by assumption))
    (first
      | (go_at_call_of 131 (Value.slice p n nc); refine (trim_any p n nc xs _ hA.len hA.cap hA.bnd ?_).mono ?_; exact hA'.rd.drew; rintro e w' ⟨rfl, rfl⟩)
      | (go_at_call_of 131 (Value.slice q m mc); refine (trim_any q m mc ys _ hB.len hB.cap hB.bnd ?_).mono ?_; exact hB'.rd.drew; rintro e w' ⟨rfl, rfl⟩)
      | (go_at_call 197; refine (product_small p q (tlen xs) nc (tlen ys) mc (tr xs) (tr ys) _ (by omega) (by omega) (length_tr xs) (length_tr ys) ?_ (u32_tr hA.u) ?_ (u32_tr hB.u) (by omega)).mono ?_; exact hA'.tr.rd.drew; exact hB'.tr.rd.drew; rintro e w1 ⟨zs, rfl, z1, z2, z3, z4, hb1⟩)
      | (go_at_call 196; refine (number_any (s != t) (some ⟨W.heap.size, 0, none⟩) (tlen xs + tlen ys) (tlen xs + tlen ys) zs _ z1 (Nat.le_refl _) (by unfold maxLen; omega) ?_).mono ?_; exact z4.rd_all; rintro e w2 ⟨rfl, hb2⟩; obtain ⟨c0, c1, f0, f1⟩ := resbox ((undrew hb1).trans (hb2.mono (undrew hb1).size)) hX.cr0 hX.cr1 hX.fr0 hX.fr1))
  go_wp2
  have hsz := hX.size
  have hend := end_number (z := ival s xs * ival t ys) (sg := s != t) (u := .bool (nsg (s != t) zs)) (v := .slice (nad (some ⟨W.heap.size, 0, none⟩) zs) (tlen zs) (tlen zs)) hX.below (r := w.heap.size + 1 + 1) (by omega) (by omega) z4 z2 (undrew hb1) hb2 (by rw [val_tr, val_tr] at z3; exact ival_mul s t xs ys zs z3)
  refine bodyPost_ret (v := .agg #[.bool (nsg (s != t) zs), .slice (nad (some ⟨W.heap.size, 0, none⟩) zs) (tlen zs) (tlen zs)]) (by simp [results, Tryz.results115, go_sem, c0, c1]) rfl ⟨_, _, _, tr zs, rfl, hend.1, ?_, hend.2⟩
  have := tlen_le zs
  omega
end Go.Proofs.YtejnhpjejcpekaaGreatDoor
