/-
  limbs.multiplyRows.
-/
import Derived.Test.YtkjpeehbhmcojaaGreatDoorUaVgOnWhPn
import Derived.Test.YtkjpeehbhmcojaaGreatDoorWaWbWc
import Derived.Test.YtkjpeehbhmcojaaGreatDoorWdWeNi
import Derived.Test.YtkjpeehbhmcojaaGreatDoorDcUjLeUk
import Derived.Test.YtkjpeehbhmcojaaGreatDoorRkUiVq
namespace Go.Proofs.YtkjpeehbhmcojaaGreatDoor
open Go.RowKit
set_option linter.unusedVariables false
set_option linter.unusedSimpArgs false
set_option maxHeartbeats 8000000
theorem multiplyRows_any (g o cap : Nat) (Z : List Int) (p q : Option Addr) (n nc m mc : Nat) (xs ys : List Int) (w : World)
    (hz : o + (n + m) ≤ Z.length) (hcap : cap ≤ 1099511627776) (hn : n + m ≤ cap) (hR : Row w g 78 .u32 Z) (hZ : (Z.drop o).take (n + m) = zeros (n + m)) (hx : xs.length = n) (hy : ys.length = m)
    (hX : Rd w p .u32 xs) (hXu : U32 xs) (hY : Rd w q .u32 ys) (hYu : U32 ys) (hoffx : 0 < n → Off g p) (hoffy : 0 < m → Off g q) :
    Calls Tryz.prog 150 #[.slice (some ⟨g, o, none⟩) (n + m) cap, .slice p n nc, .slice q m mc] w fun e w' => ∃ R, e = .returned (.tuple #[]) ∧ R.length = n + m ∧ U32 R ∧ val R = val xs * val ys ∧ Row w' g 78 .u32 (mid Z o R) ∧ w.grownBy w' (some g) := by
  go_enter Tryz.func150, Tryz.ntmps150
  go_wp2
  go_loopw [15] (fun iv wr => ∃ (i : Nat) (R : List Int), i ≤ m ∧ iv = .int .i64 i ∧ Hid (R.length = n + m ∧ U32 R ∧ val R = val xs * val (ys.take i) ∧ (∀ j, n + i ≤ j → gx R j = 0) ∧ Row wr g 78 .u32 (mid Z o R) ∧ w.grownBy wr (some g)))
    (fun iv _ => m - (intOf iv).toNat)
  case atStart => exact ⟨0, zeros (n + m), Nat.zero_le _, rfl, length_zeros _, u32_zeros _, by simp [val_zero, val], fun j _ => gx_zeros _ j, by rw [← hZ, mid_self Z o (n + m) hz]; exact hR, grownBy_refl _ _⟩
  case round =>
    obtain ⟨i, R, hi, rfl, H⟩ := hrel
    by_cases hlt : i < m
    · obtain ⟨hl, hu, hv, h0, hr, hg⟩ := H.out
      obtain ⟨b, off, rfl, hcell⟩ := (hY.keptOff hg (hoffy (by omega))) (by omega)
      have hcy := hcell i (by omega)
      clear hl hu hv h0 hr hg hcell
      go_wp2
      go_loopw [8, 29] (fun cv jv wr' => ∃ (j : Nat) (c : Int) (T : List Int), j ≤ n ∧ jv = .int .i64 j ∧ cv = .int .u64 c ∧ 0 ≤ c ∧ c < 4294967296 ∧ Hid (T.length = n + m ∧ U32 T ∧ val T + pw (i + j) * c = val R + pw i * (gx ys i * val (xs.take j)) ∧ (∀ j, n + i ≤ j → gx T j = 0) ∧ Row wr' g 78 .u32 (mid Z o T) ∧ w.grownBy wr' (some g)))
        (fun _ jv _ => n - (intOf jv).toNat)
      case atStart =>
        obtain ⟨hl, hu, hv, h0, hr, hg⟩ := H.out
        exact ⟨0, 0, R, Nat.zero_le _, rfl, rfl, by decide, by decide, hl, hu, by simp [val], h0, hr, hg⟩
      case round =>
        obtain ⟨j, c, T, hj, rfl, rfl, hc0, hc1, HT⟩ := hrel
        by_cases hjn : j < n
        · obtain ⟨hl, hu, hv, h0, hr, hg⟩ := HT.out
          obtain ⟨b', off', rfl, hcell⟩ := (hX.keptOff hg (hoffx (by omega))) (by omega)
          have hcx := hcell j (by omega)
          have hct := hr.mid_cell (by omega) (i + j) (by omega)
          have hfz := hr.frozen (o + (i + j))
          obtain ⟨bt0, bt1⟩ := hu (i + j)
          obtain ⟨bm0, bm1⟩ := mul_bd (hYu i) (hXu j)
          obtain ⟨by0, by1⟩ := hYu i
          obtain ⟨bx0, bx1⟩ := hXu j
          rw [← Nat.add_assoc] at hct hfz
          clear hl hu hv h0 hr hg hcell
          go_wp2
          obtain ⟨hl, hu, hv, h0, hr, hg⟩ := HT.out
          refine ⟨⟨j + 1, _, T.set (i + j) ((gx ys i * gx xs j + gx T (i + j) + c) % 4294967296), by omega, by go_num, rfl, by omega, by omega, ?_⟩, by simp [intOf]; omega⟩
          refine ⟨by rw [List.length_set]; exact hl, u32_set hu _ (by omega), ?_, fun k hk => ?_, ?_, ?_⟩
          · rw [val_set T _ _ (by omega), val_take_succ xs j (by omega), ← Nat.add_assoc, pw_succ]
            have e := cut_step (pw (i + j)) (gx ys i * gx xs j + gx T (i + j) + c)
            have e2 : pw i * (gx ys i * (val (List.take j xs) + pw j * gx xs j)) = pw i * (gx ys i * val (List.take j xs)) + pw (i + j) * (gx ys i * gx xs j) := by
              rw [pw_add, Int.mul_add, Int.mul_add]
              congr 1
              simp only [Int.mul_assoc, Int.mul_left_comm]
            rw [e2]
            simp only [Int.mul_add, Int.mul_sub] at e ⊢
            omega
          · rw [gx_set_ne T _ _ _ (by omega)]; exact h0 k hk
          · rw [Nat.add_assoc]; exact hr.mid_set (by omega) (i + j) (by omega) _
          · exact grownBy_setCell hg _ _
        · have hjn' : j = n := by omega
          subst hjn'
          obtain ⟨hl, hu, hv, h0, hr, hg⟩ := HT.out
          have hct := hr.mid_cell (by omega) (i + j) (by omega)
          have hfz := hr.frozen (o + (i + j))
          clear hl hu hv h0 hr hg
          go_wp2
          obtain ⟨hl, hu, hv, h0, hr, hg⟩ := HT.out
          obtain ⟨rl, ru, rv, r0, rr, rg⟩ := H.out
          refine ⟨⟨i + 1, T.set (i + j) c, by omega, by go_num, ?_⟩, by simp [intOf]; omega⟩
          refine ⟨by rw [List.length_set]; exact hl, u32_set hu _ ⟨hc0, hc1⟩, ?_, fun k hk => ?_, hr.mid_set (by omega) (i + j) (by omega) _, grownBy_setCell hg _ _⟩
          · rw [val_set T _ _ (by omega), h0 (i + j) (by omega), Int.sub_zero, hv, rv, List.take_of_length_le (l := xs) (by omega), val_take_succ ys i (by omega)]
            rw [Int.mul_add]
            congr 1
            simp only [Int.mul_assoc, Int.mul_left_comm, Int.mul_comm]
          · rw [gx_set_ne T _ _ _ (by omega)]; exact h0 k (by omega)
    · have him : i = m := by omega
      subst him
      go_wp2
      go_end0
      obtain ⟨hl, hu, hv, h0, hr, hg⟩ := H.out
      rw [List.take_of_length_le (by omega)] at hv
      exact ⟨R, rfl, hl, hu, hv, hr, hg⟩
theorem multiply_small (g o cap : Nat) (Z : List Int) (p q : Option Addr) (n nc m mc : Nat) (xs ys : List Int) (w : World)
    (hz : o + (n + m) ≤ Z.length) (hcap : cap ≤ 1099511627776) (hn : n + m ≤ cap) (hR : Row w g 78 .u32 Z) (hZ : (Z.drop o).take (n + m) = zeros (n + m)) (hx : xs.length = n) (hy : ys.length = m)
    (hX : Rd w p .u32 xs) (hXu : U32 xs) (hY : Rd w q .u32 ys) (hYu : U32 ys) (hoffx : 0 < n → Off g p) (hoffy : 0 < m → Off g q) (h80 : n < 80 ∨ m < 80) :
    Calls Tryz.prog 144 #[.slice (some ⟨g, o, none⟩) (n + m) cap, .slice p n nc, .slice q m mc] w fun e w' => ∃ R, e = .returned (.tuple #[]) ∧ R.length = n + m ∧ U32 R ∧ val R = val xs * val ys ∧ Row w' g 78 .u32 (mid Z o R) ∧ w.grownBy w' (some g) := by
  by_cases hlt : n < m
  · have h1 : (n : Int) < m := by omega
    have h2 : (n : Int) < 80 := by omega
    go_enter Tryz.func144, Tryz.ntmps144
    go_wp2_with fail
    have hmr := multiplyRows_any g o cap Z q p m mc n nc ys xs w (by omega) hcap (by omega) hR (by rw [Nat.add_comm m n]; exact hZ) hy hx hY hYu hX hXu hoffy hoffx
    rw [Nat.add_comm m n] at hmr
    refine hmr.mono ?_
    rintro e w' ⟨R, rfl, r1, r2, r3, r4, r5⟩
    go_wp2
    go_end0
    exact ⟨R, rfl, r1, r2, by rw [r3, Int.mul_comm], r4, r5⟩
  · have h1 : ¬ (n : Int) < m := by omega
    have h2 : (m : Int) < 80 := by omega
    go_enter Tryz.func144, Tryz.ntmps144
    go_wp2_with fail
    refine (multiplyRows_any g o cap Z p q n nc m mc xs ys w hz hcap hn hR hZ hx hy hX hXu hY hYu hoffx hoffy).mono ?_
    rintro e w' ⟨R, rfl, r1, r2, r3, r4, r5⟩
    go_wp2
    go_end0
    exact ⟨R, rfl, r1, r2, r3, r4, r5⟩
theorem product_small (p q : Option Addr) (n nc m mc : Nat) (xs ys : List Int) (w : World) (hn : n ≤ 100000000) (hm : m ≤ 100000000) (hx : xs.length = n) (hy : ys.length = m)
    (hX : Rd w p .u32 xs) (hXu : U32 xs) (hY : Rd w q .u32 ys) (hYu : U32 ys) (h80 : n < 80 ∨ m < 80) :
    Calls Tryz.prog 123 #[.slice p n nc, .slice q m mc] w fun e w' => ∃ R, e = .returned (.slice (some ⟨w.heap.size, 0, none⟩) (n + m) (n + m)) ∧ R.length = n + m ∧ U32 R ∧ val R = val xs * val ys ∧ Row w' w.heap.size 78 .u32 R ∧ Below w.heap.size w w' := by
  have hmk := mk_u32 (n + m) (by omega)
  have ec : ((n + m : Nat) : Int) = (n : Int) + (m : Int) := by omega
  rw [ec] at hmk
  clear ec
  go_enter Tryz.func123, Tryz.ntmps123
  go_wp2_with fail
  refine (multiply_small w.heap.size 0 (n + m) (zeros (n + m)) p q n nc m mc xs ys _ (by rw [length_zeros]; omega) (by omega) (Nat.le_refl _) (Row.new w _ _ _) (by rw [List.drop_zero, List.take_of_length_le (by rw [length_zeros]; omega)]) hx hy (hX.alloc _) hXu (hY.alloc _) hYu (fun h => hX.off (Nat.le_refl _) (by omega)) (fun h => hY.off (Nat.le_refl _) (by omega)) h80).mono ?_
  rintro e w' ⟨R, rfl, r1, r2, r3, r4, r5⟩
  go_wp2
  go_ret
  rw [mid_zero _ _ (by rw [r1, length_zeros])] at r4
  exact ⟨R, rfl, r1, r2, r3, r4, below_grown ((Below.refl _ _).alloc (Nat.le_refl _) _) r5 (by simp) (Nat.le_refl _)⟩
theorem ival_mul (s t : Bool) (xs ys zs : List Int) (h : val zs = val xs * val ys) : ival (s != t) zs = ival s xs * ival t ys := by
  cases s <;> cases t <;> simp [ival, h, Int.neg_mul, Int.mul_neg]
theorem Mul_small (s t : Bool) (p q : Option Addr) (n nc m mc : Nat) (xs ys : List Int) (w : World) (hA : AI w p n nc xs) (hB : AI w q m mc ys) (h80 : n < 80 ∨ m < 80) :
    Calls Tryz.prog 88 #[.agg #[.bool s, .slice p n nc], .agg #[.bool t, .slice q m mc]] w fun e w' => ∃ s' p' n' zs, e = .returned (.agg #[.bool s', .slice p' n' n']) ∧ NI w.heap.size w' s' p' n' zs (ival s xs * ival t ys) ∧ n' ≤ n + m ∧ Below w.heap.size w w' := by
  have tx := tlen_le xs
  have ty := tlen_le ys
  have lx := hA.len
  have ly := hB.len
  have bx := hA.sml
  have by' := hB.sml
  go_enter Tryz.func88, Tryz.ntmps88
  go_wp2
  have hX := boxes3' w (.bool s) (.slice p n nc) (.bool t) (.slice q m mc) (.bool false) (.slice none 0 0) 47 47 47
  generalize ((w.alloc (Obj.cells #[Value.bool s, Value.slice p n nc] 47)).alloc (Obj.cells #[Value.bool t, Value.slice q m mc] 47)).alloc (Obj.cells #[Value.bool false, Value.slice none 0 0] 47) = W at *
  have hA' := hA.below hX.below
  have hB' := hB.below hX.below
  have k0 := hX.ca0
  have k1 := hX.ca1
  have k2 := hX.cb0
  have k3 := hX.cb1
  go_region_held3 (fun w' => w'.cell? ⟨w.heap.size, 0, none⟩ = some (.bool s) ∧ w'.cell? ⟨w.heap.size, 1, none⟩ = some (.slice p n nc) ∧ w'.cell? ⟨w.heap.size + 1, 0, none⟩ = some (.bool t) ∧ w'.cell? ⟨w.heap.size + 1, 1, none⟩ = some (.slice q m mc)) (first | (simp [go_sem, *]; done) | exact keepc4 (by assumption) (by assumption))
    (first
      | (go_at_call_of 91 (Value.slice p n nc); refine (trim_any p n nc xs _ hA.len hA.cap hA.bnd ?_).mono ?_; exact hA'.rd.drew; rintro e w' ⟨rfl, rfl⟩)
      | (go_at_call_of 91 (Value.slice q m mc); refine (trim_any q m mc ys _ hB.len hB.cap hB.bnd ?_).mono ?_; exact hB'.rd.drew; rintro e w' ⟨rfl, rfl⟩)
      | (go_at_call 123; refine (product_small p q (tlen xs) nc (tlen ys) mc (tr xs) (tr ys) _ (by omega) (by omega) (length_tr xs) (length_tr ys) ?_ (u32_tr hA.u) ?_ (u32_tr hB.u) (by omega)).mono ?_; exact hA'.tr.rd.drew; exact hB'.tr.rd.drew; rintro e w1 ⟨zs, rfl, z1, z2, z3, z4, hb1⟩)
      | (go_at_call 89; refine (number_any (s != t) (some ⟨W.heap.size, 0, none⟩) (tlen xs + tlen ys) (tlen xs + tlen ys) zs _ z1 (Nat.le_refl _) (by unfold maxLen; omega) ?_).mono ?_; exact z4.rd_all; rintro e w2 ⟨rfl, hb2⟩; obtain ⟨c0, c1, f0, f1⟩ := resbox ((undrew hb1).trans (hb2.mono (undrew hb1).size)) hX.cr0 hX.cr1 hX.fr0 hX.fr1))
  go_wp2
  have hsz := hX.size
  have hend := end_number (z := ival s xs * ival t ys) (sg := s != t) (u := .bool (nsg (s != t) zs)) (v := .slice (nad (some ⟨W.heap.size, 0, none⟩) zs) (tlen zs) (tlen zs)) hX.below (r := w.heap.size + 1 + 1) (by omega) (by omega) z4 z2 (undrew hb1) hb2 (by rw [val_tr, val_tr] at z3; exact ival_mul s t xs ys zs z3)
  refine bodyPost_ret (v := .agg #[.bool (nsg (s != t) zs), .slice (nad (some ⟨W.heap.size, 0, none⟩) zs) (tlen zs) (tlen zs)]) (by simp [results, Tryz.results88, go_sem, c0, c1]) rfl ⟨_, _, _, tr zs, rfl, hend.1, ?_, hend.2⟩
  have := tlen_le zs
  omega
def ps (zs ys : List Int) : Nat → Nat → Int
  | 0, _ => 0
  | i + 1, t => ps zs ys i t + (if i ≤ t then gx zs i * gx ys (t - i) else 0)
def pj (zs ys : List Int) (i j t : Nat) : Int := ps zs ys i t + (if i ≤ t ∧ t < i + j then gx zs i * gx ys (t - i) else 0)
theorem pj_zero (zs ys : List Int) (i t : Nat) : pj zs ys i 0 t = ps zs ys i t := by
  rw [pj, if_neg (by omega), Int.add_zero]
theorem pj_all (zs ys : List Int) (i t : Nat) : pj zs ys i ys.length t = ps zs ys (i + 1) t := by
  rw [pj, ps]
  by_cases h : i ≤ t
  · rw [if_pos h]
    by_cases h2 : t < i + ys.length
    · rw [if_pos ⟨h, h2⟩]
    · rw [if_neg (by omega), gx_past ys ys.length (Nat.le_refl _) (t - i) (by omega), Int.mul_zero]
  · rw [if_neg (by omega), if_neg h]
theorem pj_succ_same (zs ys : List Int) (i j : Nat) : pj zs ys i (j + 1) (i + j) = pj zs ys i j (i + j) + gx zs i * gx ys j := by
  rw [pj, pj, if_pos (by omega), if_neg (by omega), Int.add_zero, Nat.add_sub_cancel_left]
theorem pj_succ_other (zs ys : List Int) (i j t : Nat) (h : t ≠ i + j) : pj zs ys i (j + 1) t = pj zs ys i j t := by
  rw [pj, pj]
  by_cases h1 : i ≤ t ∧ t < i + j
  · rw [if_pos (by omega), if_pos h1]
  · rw [if_neg (by omega), if_neg h1]
theorem ps_none (zs ys : List Int) (i t : Nat) (h : gx zs i = 0) : ps zs ys (i + 1) t = ps zs ys i t := by
  rw [ps, h]
  split <;> simp
theorem term_bd {x y : Int} {K L : Nat} (hx : (x.natAbs : Int) < pw K) (hy : (y.natAbs : Int) < pw L) : ((x * y).natAbs : Int) ≤ pw (K + L) := by
  rw [Int.natAbs_mul, pw_add]
  push_cast
  exact Int.mul_le_mul (by omega) (by omega) (by omega) (by have := pw_pos K; omega)
theorem ps_bd {zs ys : List Int} {K L : Nat} (hx : ∀ i, ((gx zs i).natAbs : Int) < pw K) (hy : ∀ i, ((gx ys i).natAbs : Int) < pw L) (i t : Nat) : ((ps zs ys i t).natAbs : Int) ≤ i * pw (K + L) := by
  induction i with
  | zero => simp [ps]
  | succ i ih =>
    rw [ps]
    have h1 := term_bd (hx i) (hy (t - i))
    have h2 := pw_pos (K + L)
    have e : ((i + 1 : Nat) : Int) * pw (K + L) = i * pw (K + L) + pw (K + L) := by push_cast; rw [Int.add_mul, Int.one_mul]
    rw [e]
    split <;> omega
theorem pj_bd {zs ys : List Int} {K L : Nat} (hx : ∀ i, ((gx zs i).natAbs : Int) < pw K) (hy : ∀ i, ((gx ys i).natAbs : Int) < pw L) (i j t : Nat) (hi : i ≤ 1000000) : ((pj zs ys i j t).natAbs : Int) < pw (K + L + 1) := by
  have h1 := ps_bd hx hy i t
  have h2 := term_bd (hx i) (hy (t - i))
  have h3 := pw_pos (K + L)
  have e : pw (K + L + 1) = 4294967296 * pw (K + L) := pw_succ _
  have h4 : (i : Int) * pw (K + L) ≤ 1000000 * pw (K + L) := Int.mul_le_mul_of_nonneg_right (by omega) (by omega)
  rw [pj, e]
  split <;> omega
theorem PA.gbd {w : World} {K : Nat} {p : Option Addr} {n nc : Nat} {es : List Ent} {zs : List Int} (h : PA w K p n nc es zs) : ∀ i, ((gx zs i).natAbs : Int) < pw K := fun i => by
  rcases Nat.lt_or_ge i n with hlt | hge
  · obtain ⟨xs, h1, h2, h3⟩ := h.ev i hlt
    have h4 := h1.lt (ge es i).s
    rw [h2] at h4
    have := pw_mono h3
    omega
  · rw [gx_past zs n (by rw [h.zl]; exact Nat.le_refl _) i hge]
    exact pw_pos K
theorem Mul_ev {w : World} {K L : Nat} {x y : Int} {e f : Ent} (h : EV w K x e) (k : EV w L y f) (hK : K < 80) : Calls Tryz.prog 88 #[.agg #[.bool e.s, .slice e.p e.n e.c], .agg #[.bool f.s, .slice f.p f.n f.c]] w fun r w' => ∃ u : Ent, r = .returned (.agg #[.bool u.s, .slice u.p u.n u.c]) ∧ NV w.heap.size w' (K + L) (x * y) u ∧ Below w.heap.size w w' := by
  obtain ⟨xs, h1, rfl, h3⟩ := h
  obtain ⟨ys, k1, rfl, k3⟩ := k
  refine (Mul_small e.s f.s e.p f.p e.n e.c f.n f.c xs ys w h1 k1 (.inl (by omega))).mono ?_
  rintro r w' ⟨s', p', n', zs, g1, g2, g3, g4⟩
  exact ⟨⟨s', p', n', n'⟩, g1, ⟨zs, g2, rfl, by show n' ≤ _; omega⟩, g4⟩
def PrI (F : Nat → Int) (M g N : Nat) (W0 wr : World) : Prop :=
  ∃ es, Row2 wr g 47 es ∧ es.length = N ∧ (∀ t, t < N → NV (g + 1) wr M (F t) (ge es t)) ∧ Below g W0 wr
theorem NV.le {B : Nat} {w : World} {K M : Nat} {z : Int} {e : Ent} (h : NV B w K z e) (hz : (z.natAbs : Int) < pw M) : NV B w M z e := by
  obtain ⟨xs, h1, h2, h3⟩ := h
  exact ⟨xs, h1, h2, h1.le hz⟩
theorem Bx_any {w : World} {r g o : Nat} {a0 a1 u v : Value} (h : Bx w r a0 a1) (hne : r ≠ g) : Bx ((w.setCell ⟨g, o, none⟩ u).setCell ⟨g, o + 1, none⟩ v) r a0 a1 := by
  have e : ((w.setCell ⟨g, o, none⟩ u).setCell ⟨g, o + 1, none⟩ v).heap[r]? = w.heap[r]? := (heap_setCell_other _ _ r v hne).trans (heap_setCell_other _ _ r u hne)
  exact ⟨(World.cell?_of_block (a := ⟨r, 0, none⟩) e).trans h.c0, (World.cell?_of_block (a := ⟨r, 1, none⟩) e).trans h.c1, (World.frozen?_of_block (a := ⟨r, 0, none⟩) e).trans h.f0, (World.frozen?_of_block (a := ⟨r, 1, none⟩) e).trans h.f1⟩
theorem rows_step {w W0 W2 v2 v3 : World} {M M' K N ga i j t : Nat} {zs ys : List Int} {us : List Ent} {e2 ea : Ent} {x : Int} (hR1 : Row2 W2 w.heap.size 47 us) (hul : us.length = N) (hev : ∀ t, t < N → NV (w.heap.size + 1) W2 M (pj zs ys i j t) (ge us t)) (hB1 : Below w.heap.size W0 W2)
    (hXa : Bx W2 ga (.bool ea.s) (.slice ea.p ea.n ea.c)) (hva : EV W2 K x ea) (hBw : Below w.heap.size w W2) (hga : w.heap.size < ga) (hoff : 0 < ea.n → Off w.heap.size ea.p) (hpb : ((pj zs ys i (j + 1) t).natAbs : Int) < pw M) (ht : t = i + j) (htN : t < N) (hsW : w.heap.size ≤ W0.heap.size) (hs0 : w.heap.size + 1 ≤ W0.heap.size)
    (hV2 : Below W2.heap.size W2 v2) (hb3 : Below v2.heap.size v2 v3) (hN2 : NV v2.heap.size v3 M' (pj zs ys i j t + gx zs i * gx ys j) e2) :
    PrI (pj zs ys i (j + 1)) M w.heap.size N W0 ((v3.setCell ⟨w.heap.size, t * 2, none⟩ (.bool e2.s)).setCell ⟨w.heap.size, t * 2 + 1, none⟩ (.slice e2.p e2.n e2.c)) ∧ Bx ((v3.setCell ⟨w.heap.size, t * 2, none⟩ (.bool e2.s)).setCell ⟨w.heap.size, t * 2 + 1, none⟩ (.slice e2.p e2.n e2.c)) ga (.bool ea.s) (.slice ea.p ea.n ea.c) ∧ EV ((v3.setCell ⟨w.heap.size, t * 2, none⟩ (.bool e2.s)).setCell ⟨w.heap.size, t * 2 + 1, none⟩ (.slice e2.p e2.n e2.c)) K x ea ∧ Below w.heap.size w ((v3.setCell ⟨w.heap.size, t * 2, none⟩ (.bool e2.s)).setCell ⟨w.heap.size, t * 2 + 1, none⟩ (.slice e2.p e2.n e2.c)) := by
  have hb := bnext' hV2 hb3
  have hR3 := hR1.below hb hR1.lt
  have hs1 := hB1.size
  have hs2 := hV2.size
  have hval : pj zs ys i j t + gx zs i * gx ys j = pj zs ys i (j + 1) t := by subst ht; exact (pj_succ_same zs ys i j).symm
  rw [hval] at hN2
  refine ⟨⟨us.set t e2, hR3.set t e2 (by omega), by simpa using hul, fun t' ht' => ?_, ?_⟩, Bx_any (hXa.later hb) (by omega), (hva.below hb).set2 hoff, ?_⟩
  · by_cases he : t' = t
    · subst he
      rw [ge_set_same _ _ _ (by omega)]
      exact ((hN2.le hpb).mono (by omega)).set2 (by omega) _ _
    · rw [ge_set_other _ _ _ _ he, pj_succ_other _ _ _ _ _ (by omega)]
      exact ((hev t' ht').below hb).set2 (by omega) _ _
  · exact ((hB1.trans (hb.mono (by omega))).setCell (p := ⟨w.heap.size, t * 2, none⟩) (Nat.le_refl _) _).setCell (p := ⟨w.heap.size, t * 2 + 1, none⟩) (Nat.le_refl _) _
  · exact ((hBw.trans (hb.mono hBw.size)).setCell (p := ⟨w.heap.size, t * 2, none⟩) (Nat.le_refl _) _).setCell (p := ⟨w.heap.size, t * 2 + 1, none⟩) (Nat.le_refl _) _
set_option maxRecDepth 100000 in
theorem rows_any {w : World} {K L : Nat} {p q : Option Addr} {n nc m mc : Nat} {es fs : List Ent} {zs ys : List Int} (h : PA w K p n nc es zs) (k : PA w L q m mc fs ys) (hn : n ≤ 1000) (hm : m ≤ 1000) (hn1 : 1 ≤ n) (hm1 : 1 ≤ m) (hK : K < 80) (hL : L < 80) :
    Calls Tryz.prog 100 #[.slice p n nc, .slice q m mc] w fun r w' => ∃ u us, r = .returned (.slice u (n + m - 1) (n + m - 1)) ∧ us.length = n + m - 1 ∧ PL w' u us ∧ Go.Proofs.YtkjpeehbhmcojaaGreatDoor.From w.heap.size u ∧ (∀ t, t < n + m - 1 → NV w.heap.size w' (K + L + 1) (ps zs ys n t) (ge us t)) ∧ Below w.heap.size w w' := by
  have hel := h.el
  have hfl := k.el
  have hzl := h.zl
  have hyl := k.zl
  obtain ⟨N, hN⟩ : ∃ N, N = n + m - 1 := ⟨_, rfl⟩
  rw [← hN]
  have hNI : (n : Int) + (m : Int) - 1 = (N : Int) := by omega
  have w1 : IntKind.i64.wrap ((n : Int) + (m : Int)) = (n : Int) + (m : Int) := by rw [IntKind.wrap_i64]; omega
  have w2 : IntKind.i64.wrap (N : Int) = (N : Int) := by rw [IntKind.wrap_i64]; omega
  have HN : Hid (N = n + m - 1) := hN
  have hN3 : N ≤ 2000 := by omega
  clear hN
  have hmk := mk_poly N (by omega)
  go_enter Tryz.func100, Tryz.ntmps100
  go_wp2_with fail
  have hR0 := Row2.new w 47 (ezs N)
  have hW0 : Below w.heap.size w (w.alloc (.cells (ca2 (ezs N)) 47)) := (Below.refl _ _).alloc (Nat.le_refl _) _
  have hs0 : w.heap.size + 1 ≤ (w.alloc (.cells (ca2 (ezs N)) 47)).heap.size := by simp
  generalize w.alloc (.cells (ca2 (ezs N)) 47) = W0 at *
  clear hmk
  have HX : Hid (∀ i, ((gx zs i).natAbs : Int) < pw K) := h.gbd
  have HY : Hid (∀ i, ((gx ys i).natAbs : Int) < pw L) := k.gbd
  go_loopw [6, 7, 8, 9, 19] (fun iv av jv bv kv wr => ∃ i : Nat, i ≤ n ∧ kv = .int .i64 i ∧ Hid (PrI (ps zs ys i) (K + L + 1) w.heap.size N W0 wr)) (fun _ _ _ _ kv _ => n - (intOf kv).toNat)
  case atStart => exact ⟨0, Nat.zero_le _, by go_num, ezs N, hR0, length_ezs N, fun t ht => by rw [ge_ezs]; exact NV.ez _ _ _, Below.refl _ _⟩
  case round =>
    obtain ⟨i, hi, rfl, H⟩ := hrel
    rcases Nat.lt_or_ge i n with hlt | hge
    · have hBw : Below w.heap.size w wr := by
        obtain ⟨es', hR, hel', hev, hB⟩ := H.out
        exact hW0.trans hB
      have hPA := h.below hBw
      obtain ⟨b, o, hp, hc⟩ := hPA.pl (by omega)
      subst hp
      obtain ⟨c0, c1⟩ := hc i (by omega)
      have hv := hPA.ev i hlt
      clear hc hPA
      go_wp2_with fail
      have hal := bel_al (o := .cells #[.bool (ge es i).s, .slice (ge es i).p (ge es i).n (ge es i).c] 47) (Below.refl wr.heap.size wr)
      have hX1 : Bx (wr.alloc (.cells #[.bool (ge es i).s, .slice (ge es i).p (ge es i).n (ge es i).c] 47)) wr.heap.size (.bool (ge es i).s) (.slice (ge es i).p (ge es i).n (ge es i).c) := Bx.new _ _ _ rfl
      have hv1 := hv.below hal
      have HP : Hid (PrI (ps zs ys i) (K + L + 1) w.heap.size N W0 (wr.alloc (.cells #[.bool (ge es i).s, .slice (ge es i).p (ge es i).n (ge es i).c] 47))) := by
        obtain ⟨es', hR, hel', hev, hB⟩ := H.out
        exact ⟨es', hR.below hal hR.lt, hel', fun t ht => (hev t ht).below hal, hB.trans (hal.mono hBw.size)⟩
      have hB1 := bnext hBw (Nat.le_refl _) hal
      have hga : w.heap.size < wr.heap.size := by
        obtain ⟨es', hR, -⟩ := H.out
        exact hR.lt
      clear H hal hv hBw c0 c1
      generalize wr.alloc (.cells #[.bool (ge es i).s, .slice (ge es i).p (ge es i).n (ge es i).c] 47) = W1 at *
      generalize wr.heap.size = ga at *
      refine (isZero_any hv1).mono ?_
      rintro r v1 ⟨rfl, hb1⟩
      have hX2 := hX1.later hb1
      have hv2 := hv1.below hb1
      have hB2 := bnext hB1 (Nat.le_refl _) hb1
      have HP2 : Hid (PrI (ps zs ys i) (K + L + 1) w.heap.size N W0 v1) := by
        obtain ⟨es', hR, hel', hev, hB⟩ := HP.out
        exact ⟨es', hR.below hb1 hR.lt, hel', fun t ht => (hev t ht).below hb1, hB.trans (hb1.mono hB1.size)⟩
      clear hX1 hv1 hB1 HP hb1
      have hcs : Hid (gx zs i = 0 ∨ ¬ gx zs i = 0) := Classical.em _
      rcases hcs.out with hz | hz
      · rw [decide_eq_true hz]
        have HZ : Hid (gx zs i = 0) := hz
        clear hz hcs
        go_wp2
        go_roundw
        case rel =>
          obtain ⟨es', hR, hel', hev, hB⟩ := HP2.out
          exact ⟨i + 1, by omega, by go_num, es', hR, hel', fun t ht => by rw [ps_none _ _ _ _ HZ.out]; exact hev t ht, hB⟩
        case measure => simp [intOf]; omega
      · rw [decide_eq_false hz]
        clear hz hcs
        go_wp2_with fail
        go_loopw [8, 9, 28] (fun jv bv kv w3 => ∃ j : Nat, j ≤ m ∧ kv = .int .i64 j ∧ Hid (PrI (pj zs ys i j) (K + L + 1) w.heap.size N W0 w3 ∧ Bx w3 ga (.bool (ge es i).s) (.slice (ge es i).p (ge es i).n (ge es i).c) ∧ EV w3 K (gx zs i) (ge es i) ∧ Below w.heap.size w w3)) (fun _ _ kv _ => m - (intOf kv).toNat)
        case atStart =>
          obtain ⟨es', hR, hel', hev, hB⟩ := HP2.out
          exact ⟨0, Nat.zero_le _, by go_num, ⟨es', hR, hel', fun t ht => by rw [pj_zero]; exact hev t ht, hB⟩, hX2, hv2, hB2⟩
        case round =>
          obtain ⟨j, hj, rfl, HJ⟩ := hrel
          rcases Nat.lt_or_ge j m with hjm | hjm
          · have hBw : Below w.heap.size w wr := HJ.out.2.2.2
            have hQA := k.below hBw
            obtain ⟨c, r, hq, hd⟩ := hQA.pl (by omega)
            subst hq
            obtain ⟨d0, d1⟩ := hd j (by omega)
            have hu := hQA.ev j hjm
            clear hd hQA
            obtain ⟨t, ht⟩ : ∃ t, t = i + j := ⟨_, rfl⟩
            have hwt : IntKind.i64.wrap ((i : Int) + (j : Int)) = (t : Int) := by rw [IntKind.wrap_i64]; omega
            have htN : t < N := by have := HN.out; omega
            have HT : Hid (t = i + j) := ht
            clear ht
            go_upto_region 9 with fail
            have hal := bel_al (o := .cells #[.bool (ge fs j).s, .slice (ge fs j).p (ge fs j).n (ge fs j).c] 47) (Below.refl wr.heap.size wr)
            have hYb : Bx (wr.alloc (.cells #[.bool (ge fs j).s, .slice (ge fs j).p (ge fs j).n (ge fs j).c] 47)) wr.heap.size (.bool (ge fs j).s) (.slice (ge fs j).p (ge fs j).n (ge fs j).c) := Bx.new _ _ _ rfl
            obtain ⟨⟨us, hR, hul, hev, hB⟩, hXa, hva, -⟩ := HJ.out
            have hR1 := hR.below hal hR.lt
            have hev1 : ∀ t, t < N → NV (w.heap.size + 1) (wr.alloc (.cells #[.bool (ge fs j).s, .slice (ge fs j).p (ge fs j).n (ge fs j).c] 47)) (K + L + 1) (pj zs ys i j t) (ge us t) := fun t ht => (hev t ht).below hal
            have hB1 := hB.trans (hal.mono hBw.size)
            have hXa1 := hXa.later hal
            have hva1 := hva.below hal
            have hu1 := hu.below hal
            have hBw1 := bnext hBw (Nat.le_refl _) hal
            have hgb : w.heap.size < wr.heap.size := hR.lt
            clear HJ hR hev hB hXa hva hu hBw hal d0 d1
            generalize wr.alloc (.cells #[.bool (ge fs j).s, .slice (ge fs j).p (ge fs j).n (ge fs j).c] 47) = W2 at *
            generalize wr.heap.size = gb at *
            obtain ⟨x0, x1⟩ := hR1.cell t (by omega)
            obtain ⟨a0, a1, -, -⟩ := id hXa1
            obtain ⟨b0, b1, -, -⟩ := id hYb
            have HE : Hid (∀ t, t < N → NV (w.heap.size + 1) W2 (K + L + 1) (pj zs ys i j t) (ge us t)) := hev1
            clear hev1
            have hoff : Hid (0 < (ge es i).n → Off w.heap.size (ge es i).p) := fun h0 => by obtain ⟨xs, q1, -⟩ := h.ev i hlt; exact q1.rd.off (Nat.le_refl _) (by rw [q1.len]; exact h0)
            have hpb : Hid (((pj zs ys i (j + 1) t).natAbs : Int) < pw (K + L + 1)) := pj_bd HX.out HY.out i (j + 1) t (by omega)
            go_region_with (first
              | (go_at_call 88; refine (Mul_ev hva1.drew hu1.drew hK).mono ?_; rintro r v2 ⟨e1, rfl, hN1, hb2⟩; have hV2 := undrew hb2; have hR2 := hR1.below hV2 hR1.lt; obtain ⟨y0, y1⟩ := hR2.cell t (by omega))
              | (go_at_call 57; refine (Add_ev (((HE.out t htN).below hV2).ev (by omega)) (hN1.ev (by omega))).mono ?_; rintro r v3 ⟨e2, rfl, hN2, hb3⟩; have hR3 := hR2.below hb3 hR2.lt; obtain ⟨z0, z1⟩ := hR3.cell t (by omega); have f0 := hR3.frozen (t * 2); have f1 := hR3.frozen (t * 2 + 1)))
            all_goals
              have hstep := rows_step (zs := zs) (ys := ys) (i := i) (j := j) hR1 hul HE.out hB1 hXa1 hva1 hBw1 hga hoff.out hpb.out HT.out htN hW0.size hs0 hV2 hb3 hN2
              have HST := (show Hid _ from hstep)
              clear hstep x0 x1 a0 a1 b0 b1 y0 y1 hR1 hB1 hXa1 hva1 hu1 hBw1 hYb HE hN1 hN2 hR2 hR3
              go_wp2
              refine ⟨⟨j + 1, by omega, by go_num, HST.out⟩, by simp [intOf]; omega⟩
          · obtain rfl : j = m := by omega
            have HQ : Hid (PrI (ps zs ys (i + 1)) (K + L + 1) w.heap.size N W0 wr) := by
              obtain ⟨⟨us, hR, hul, hev, hB⟩, -⟩ := HJ.out
              exact ⟨us, hR, hul, fun t ht => by rw [← pj_all, hyl]; exact hev t ht, hB⟩
            clear HJ hjm
            go_wp2
            refine ⟨⟨i + 1, by omega, by go_num, HQ.out⟩, by simp [intOf]; omega⟩
    · obtain rfl : i = n := by omega
      have HQ : Hid (PrI (ps zs ys i) (K + L + 1) w.heap.size N W0 wr) := H.out
      clear H hge
      go_wp2
      go_ret
      obtain ⟨us, hR, hul, hev, hB⟩ := HQ.out
      exact ⟨_, us, rfl, hul, hR.pl, fun a ha => by cases ha; exact Nat.le_refl _, fun t ht => (hev t ht).mono (by omega), hW0.trans hB⟩
end Go.Proofs.YtkjpeehbhmcojaaGreatDoor
