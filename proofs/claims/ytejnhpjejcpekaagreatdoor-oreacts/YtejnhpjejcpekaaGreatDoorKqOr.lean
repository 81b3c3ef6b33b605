/-
  upoly.Mul of any two polynomials (rows or packed), at the code that has package packed.
-/
import Derived.Test.YtejnhpjejcpekaaGreatDoorPuPvPwPxKa
import Derived.Test.YtejnhpjejcpekaaGreatDoorKl
import Derived.Test.YtejnhpjejcpekaaGreatDoorKnKm
import Derived.Test.YtejnhpjejcpekaaGreatDoorKo
import Derived.Deep.DeepFit
import Derived.Test.YtejnhpjejcpekaaGreatDoorProg
import Derived.Test.YtejnhpjejcpekaaGreatDoorFpCdDeGaGbKpGcGdGeQaQbQcQdQgQhGfGgUnWfUu
import Derived.Lib.Mul64
import Derived.Laws.Bits64b
namespace Go.Proofs.YtejnhpjejcpekaaGreatDoor
open Go.RowKit
set_option linter.unusedVariables false
set_option linter.unusedSimpArgs false
set_option maxHeartbeats 8000000
theorem Mul_ev6 {w : World} {K L : Nat} {x y : Int} {e f : Ent} (h : EV w K x e) (k : EV w L y f) (hK : K ≤ 1000000) (hL : L ≤ 1000000) : Calls Tryz.prog 115 #[.agg #[.bool e.s, .slice e.p e.n e.c], .agg #[.bool f.s, .slice f.p f.n f.c]] w fun r w' => ∃ u : Ent, r = .returned (.agg #[.bool u.s, .slice u.p u.n u.c]) ∧ NV w.heap.size w' (K + L) (x * y) u ∧ Below w.heap.size w w' := by
  obtain ⟨xs, h1, rfl, h3⟩ := h
  obtain ⟨ys, k1, rfl, k3⟩ := k
  refine (Mul_all e.s f.s e.p f.p e.n e.c f.n f.c xs ys w h1 k1 (by omega) (by omega)).mono ?_
  rintro r w' ⟨s', p', n', zs, g1, g2, g3, g4⟩
  exact ⟨⟨s', p', n', n'⟩, g1, ⟨zs, g2, rfl, by show n' ≤ _; omega⟩, g4⟩
set_option maxRecDepth 100000 in
theorem packedProduct_any {B C : Nat} {w : World} {K L W : Nat} {p q : Option Addr} {n m : Nat} {es fs : List Ent} {zs ys : List Int} (h : PB B w K p n es zs) (k : PB C w L q m fs ys) (hn : n ≤ 250) (hm : m ≤ 250) (hn1 : 1 ≤ n) (hm1 : 1 ≤ m) (hW1 : 1 ≤ W) (hW : W ≤ 900) (he1 : ∀ j, j < n → zl (gx zs j) ≤ W) (he2 : ∀ j, j < m → zl (gx ys j) ≤ W) (hr : ∀ t, 2 * ((ps zs ys n t).natAbs : Int) < pw W) (h0 : ps zs ys n (n + m - 1 - 1) ≠ 0) :
    Calls Tryz.prog 224 #[.slice p n n, .slice q m m, .int .i64 W] w fun r w' => ∃ u us, r = .returned (.slice u (n + m - 1) (n + m - 1)) ∧ us.length = n + m - 1 ∧ PL w' u us ∧ Go.Proofs.YtejnhpjejcpekaaGreatDoor.From w.heap.size u ∧ (∀ t, t < n + m - 1 → NV w.heap.size w' W (ps zs ys n t) (ge us t)) ∧ Below w.heap.size w w' := by
  have hyl := k.zl
  have HM : Hid (pkf W (gx zs) n * pkf W (gx ys) m = pkf W (ps zs ys n) (n + m - 1)) := by
    show _ = _
    rw [← hyl, pkf_mul W zs ys _ n (by omega)]
  have b1 : W * n + W * n + 1 ≤ 500000 := by have := Nat.mul_le_mul hW hn; omega
  have b2 : W * m + W * m + 1 ≤ 500000 := by have := Nat.mul_le_mul hW hm; omega
  go_enter Tryz.func224, Tryz.ntmps224
  have hp1 := pkOf_any h W hW1 (by omega) (by omega) he1
  have HK : Hid (PB C w L q m fs ys ∧ (∀ j, j < m → zl (gx ys j) ≤ W) ∧ (∀ t, 2 * ((ps zs ys n t).natAbs : Int) < pw W) ∧ ps zs ys n (n + m - 1 - 1) ≠ 0) := ⟨k, he2, hr, h0⟩
  clear h k he1 he2 hr h0 hyl
  go_wp2_with fail
  refine hp1.mono ?_
  rintro e w4 ⟨u, rfl, hu, hb4⟩
  have hp2 := pkOf_any (HK.out.1.below hb4) W hW1 (by omega) (by omega) HK.out.2.1
  clear hp1
  go_wp2_with fail
  refine hp2.mono ?_
  rintro e w5 ⟨v, rfl, hv, hb5⟩
  have hb := bnext' hb4 hb5
  have hm5 := Mul_ev6 ((hu.below hb5).ev6 (by omega)) (hv.ev6 (by omega)) (by omega) (by omega)
  rw [HM.out] at hm5
  generalize W * n + W * n + 1 = K1 at *
  generalize W * m + W * m + 1 = L1 at *
  clear hp2 hu hv hb4 hb5
  go_wp2_with fail
  refine hm5.mono ?_
  rintro e w6 ⟨z, rfl, hz, hb6⟩
  have hbb := bnext' hb hb6
  have hpp := pkPoly_any hz W (n + m - 1) (ps zs ys n) hW1 hW (by omega) (by omega) (by omega) rfl (fun j _ => HK.out.2.2.1 j) HK.out.2.2.2
  clear hm5 hz hb hb6
  go_wp2_with fail
  refine hpp.mono ?_
  rintro e w7 ⟨u7, us, rfl, r1, r2, r3, r4, hb7⟩
  have hs := hbb.size
  have HR : Hid (us.length = n + m - 1 ∧ PL w7 u7 us ∧ Go.Proofs.YtejnhpjejcpekaaGreatDoor.From w.heap.size u7 ∧ (∀ t, t < n + m - 1 → NV w.heap.size w7 W (ps zs ys n t) (ge us t)) ∧ Below w.heap.size w w7) := ⟨r1, r2, fun a ha => Nat.le_trans hs (r3 a ha), fun t ht => (r4 t ht).mono hs, bnext' hbb hb7⟩
  clear r1 r2 r3 r4 hb7 hpp
  go_wp2
  go_ret
  exact ⟨u7, us, rfl, HR.out⟩
theorem ps_lead {zs ys : List Int} {n m : Nat} (hz : zs.length = n) (hy : ys.length = m) (tz : tlen zs = n) (ty : tlen ys = m) (hn : 1 ≤ n) (hm : 1 ≤ m) : ps zs ys n (n + m - 1 - 1) ≠ 0 := by
  have h1 := mulz_top (zs := zs) (ys := ys) (by rw [tz, hz]) (by rw [ty, hy]) (by omega) (by omega)
  have h2 := tlen_top (mulz zs ys) (by rw [h1]; omega)
  rw [h1, gx_mulz _ _ _ (by omega), hz, hy] at h2
  exact h2
set_option maxRecDepth 100000 in
theorem product_p {B C : Nat} {w : World} {K L : Nat} {p q : Option Addr} {n m : Nat} {es fs : List Ent} {zs ys : List Int} (h : PB B w K p n es zs) (k : PB C w L q m fs ys) (hn : n ≤ 80) (hm : m ≤ 80) (hn1 : 1 ≤ n) (hm1 : 1 ≤ m) (hK : K < 80) (hL : L < 80) (hd : K + L + 1 ≤ 70) :
    Calls Tryz.prog 149 #[.slice p n n, .slice q m m] w (PnP (mulz zs ys) (K + L + 1) w) := by
  have hpa := h.pa (by omega)
  have hqa := k.pa (by omega)
  have hzl := h.zl
  have hyl := k.zl
  have HB : Hid (pb zs ≤ 32 * K ∧ pb ys ≤ 32 * L) := ⟨pb_le hpa (by omega), pb_le hqa (by omega)⟩
  have hW1 : 1 ≤ wd zs ys := by unfold wd; omega
  have hW2 : wd zs ys ≤ K + L + 1 := wd_le HB.out.1 HB.out.2 (by omega) (by omega) (by omega)
  have HR : Hid (∀ t, 2 * ((ps zs ys n t).natAbs : Int) < pw (wd zs ys)) := by
    show ∀ t, 2 * ((ps zs ys n t).natAbs : Int) < pw (wd zs ys)
    intro t
    rw [← hzl]
    exact ps_room zs ys (by omega) (by omega) (by omega) t
  have HE : Hid ((∀ j, j < n → zl (gx zs j) ≤ wd zs ys) ∧ (∀ j, j < m → zl (gx ys j) ≤ wd zs ys)) := by
    refine ⟨fun j hj => ?_, fun j hj => ?_⟩
    · have := zb_pb zs j (by omega)
      unfold zl wd
      omega
    · have := zb_pb ys j (by omega)
      unfold zl wd
      omega
  have HZ : Hid (tlen zs = n ∧ tlen ys = m) := ⟨h.nrm, k.nrm⟩
  have g1 : ((n : Int) == 0) = false := by rw [beq_eq_false_iff_ne]; omega
  have g2 : ((m : Int) == 0) = false := by rw [beq_eq_false_iff_ne]; omega
  have g3 : ¬ (n : Int) = 0 := by omega
  have g4 : ¬ (m : Int) = 0 := by omega
  go_enter Tryz.func149, Tryz.ntmps149
  go_wp2_with fail
  refine (digitWidth_any hpa hqa (by omega) (by omega) (by omega) (by omega)).mono ?_
  rintro e w1 ⟨rfl, hb1⟩
  have h1 := rowsCost_any (h.below hb1) (k.below hb1) (by omega) (by omega) (by omega) (by omega)
  generalize hW : wd zs ys = W at *
  have HW : Hid (wd zs ys = W) := hW
  clear hW
  generalize hX : sl zs * sl ys + 80 * cnt zs * cnt ys = X at *
  clear hX
  go_wp2_with fail
  refine h1.mono ?_
  rintro e w2 ⟨rfl, hb2⟩
  clear h1
  go_wp2_with fail
  refine (packedCost_some n m W w2 hn hm (by omega) hW1).mono ?_
  rintro e w3 ⟨⟨x, rfl⟩, hb3⟩
  have hb := bnext' (bnext' hb1 hb2) hb3
  by_cases hx : (X : Int) ≤ x
  · go_wp2_with fail
    refine (rows_any (hpa.below hb) (hqa.below hb) (by omega) (by omega) hn1 hm1 hK hL).mono ?_
    rintro e w4 ⟨u, us, rfl, r1, r2, r3, r4, hb4⟩
    clear hpa hqa
    go_wp2
    go_ret
    have hs := hb.size
    refine ⟨u, n + m - 1, us, rfl, ⟨r1, by rw [length_mulz, hzl, hyl], ?_, r2, fun a ha => Nat.le_trans hs (r3 a ha), fun t ht => ?_⟩, bnext' hb hb4⟩
    · rw [mulz_top (by rw [HZ.out.1, hzl]) (by rw [HZ.out.2, hyl]) (by omega) (by omega), hzl, hyl]
    · rw [gx_mulz _ _ _ (by rw [hzl, hyl]; exact ht), hzl]
      exact (r4 t ht).mono hs
  · have hpp := packedProduct_any (h.below hb) (k.below hb) (by omega) (by omega) hn1 hm1 hW1 (by omega) HE.out.1 HE.out.2 HR.out (ps_lead hzl hyl HZ.out.1 HZ.out.2 hn1 hm1)
    clear hpa hqa
    go_wp2_with fail
    refine hpp.mono ?_
    rintro e w7 ⟨u7, us, rfl, r1, r2, r3, r4, hb7⟩
    have hs := hb.size
    clear hpp
    go_wp2
    go_ret
    refine ⟨u7, n + m - 1, us, rfl, ⟨r1, by rw [length_mulz, hzl, hyl], ?_, r2, fun a ha => Nat.le_trans hs (r3 a ha), fun t ht => ?_⟩, bnext' hb hb7⟩
    · rw [mulz_top (by rw [HZ.out.1, hzl]) (by rw [HZ.out.2, hyl]) (by omega) (by omega), hzl, hyl]
    · rw [gx_mulz _ _ _ (by rw [hzl, hyl]; exact ht), hzl]
      obtain ⟨xs, k1, k2, k3⟩ := (r4 t ht).mono hs
      exact ⟨xs, k1, k2, by omega⟩
set_option maxRecDepth 100000 in
theorem product_pk {B C : Nat} {w : World} {K L : Nat} {p q : Option Addr} {n m : Nat} {es fs : List Ent} {zs ys : List Int} (h : PB B w K p n es zs) (k : PB C w L q m fs ys) (hn : n ≤ 80) (hm : m ≤ 80) (hd : K + L + 1 ≤ 70) :
    Calls Tryz.prog 149 #[.slice p n n, .slice q m m] w (PnP (mulp zs ys) (K + L + 1) w) := by
  rw [mulp, h.zl, k.zl]
  by_cases h0 : n = 0 ∨ m = 0
  · rw [if_pos h0]
    exact product_nil w _ p q n m n m (by omega) (by omega) h0
  · rw [if_neg h0]
    exact product_p h k hn hm (by omega) (by omega) (by omega) (by omega) hd
set_option maxRecDepth 100000 in
theorem uMul_pk {w : World} {K L : Nat} {p q : Option Addr} {n nc m mc : Nat} {es fs : List Ent} {zs ys : List Int} (h : PA w K p n nc es zs) (k : PA w L q m mc fs ys) (hn : n ≤ 80) (hm : m ≤ 80) (hd : K + L + 1 ≤ 70) :
    Calls Tryz.prog 78 #[.slice p n nc, .slice q m mc] w (PnP (mulp (tr zs) (tr ys)) (K + L + 1) w) := by
  have hzl := h.zl
  have hyl := k.zl
  have htz := tlen_le zs
  have hty := tlen_le ys
  go_enter Tryz.func78, Tryz.ntmps78
  go_wp2_with fail
  refine (read_any K p n nc es zs _ h (by omega) (by omega)).mono ?_
  rintro e w1 ⟨p1, n1, es1, rfl, h1, hb1⟩
  go_wp2_with fail
  refine (read_any L q m mc fs ys _ (k.below hb1) (by omega) (by omega)).mono ?_
  rintro e w2 ⟨q1, m1, fs1, rfl, k1, hb2⟩
  have hn' := h1.zl
  have hm' := k1.zl
  rw [length_tr] at hn' hm'
  subst hn' hm'
  go_wp2_with fail
  refine (product_pk (h1.below hb2) k1 (by omega) (by omega) hd).mono ?_
  rintro e w3 ⟨p3, n3, es3, rfl, h3, hb3⟩
  go_wp2
  go_ret
  exact PnP.from ⟨p3, n3, es3, rfl, h3, hb3⟩ (bnext' hb1 hb2)
def tmf (c x : Int) : Int := min (c * max x 1) 4611686018427387904
def tms (xs : List Int) : Int := xs.foldl tmf 1
theorem tms_take (c : Int) (xs : List Int) (k : Nat) (h : k < xs.length) : (xs.take (k + 1)).foldl tmf c = tmf ((xs.take k).foldl tmf c) (gx xs k) := by
  rw [List.take_succ_eq_append_getElem h, List.foldl_append, gx_mem xs k h]
  rfl
theorem tmf_bd {c x : Int} (h0 : 1 ≤ c) : 1 ≤ tmf c x ∧ tmf c x ≤ 4611686018427387904 := by
  have h := Int.mul_le_mul h0 (Int.le_max_right x 1) (by decide) (by omega)
  unfold tmf
  omega
theorem tms_bd : ∀ (xs : List Int) (c : Int), 1 ≤ c → c ≤ 4611686018427387904 → 1 ≤ xs.foldl tmf c ∧ xs.foldl tmf c ≤ 4611686018427387904
  | [], c, h0, h1 => ⟨h0, h1⟩
  | x :: xs, c, h0, h1 => tms_bd xs (tmf c x) (tmf_bd h0).1 (tmf_bd h0).2
theorem m64_mask (a : Nat) (ha : a < 18446744073709551616) : bits .and .u64 (a : Int) 4294967295 = ((a % 4294967296 : Nat) : Int) := by
  have h := bits_and_u64_nat a 4294967295 ha (by omega)
  have e : a &&& 4294967295 = a % 4294967296 := Nat.and_two_pow_sub_one_eq_mod a 32
  rw [e] at h
  exact h
theorem m64_div (a : Nat) : (a : Int) / 4294967296 = ((a / 4294967296 : Nat) : Int) := by omega
theorem m64_mul (a b : Nat) : (a : Int) * (b : Int) = ((a * b : Nat) : Int) := (Int.natCast_mul a b).symm
theorem m64_add (a b : Nat) : (a : Int) + (b : Int) = ((a + b : Nat) : Int) := (Int.natCast_add a b).symm
theorem m64_wrap (a : Nat) (ha : a < 18446744073709551616) : IntKind.u64.wrap (a : Int) = (a : Int) := by rw [IntKind.wrap_u64]; omega
theorem m64_wrapM (a : Nat) : IntKind.u64.wrap (a : Int) = ((a % 18446744073709551616 : Nat) : Int) := by rw [IntKind.wrap_u64]; omega
set_option maxRecDepth 100000 in
theorem Mul64_any (x y : Nat) (hx : x < 18446744073709551616) (hy : y < 18446744073709551616) (w : World) :
    Calls Tryz.prog 277 #[.int .u64 x, .int .u64 y] w fun e w' => e = .returned (.tuple #[.int .u64 ((x * y / 18446744073709551616 : Nat) : Int), .int .u64 ((x * y % 18446744073709551616 : Nat) : Int)]) ∧ w' = w := by
  obtain ⟨bd, bt, bw, hhi⟩ := Lib.mul64_hi x y hx hy
  have ba := Lib.half_mul_le (a := x / 4294967296) (b := y / 4294967296) (by omega) (by omega)
  have bb := Lib.half_mul_le (a := x / 4294967296) (b := y % 4294967296) (by omega) (by omega)
  have bc := Lib.half_mul_le (a := x % 4294967296) (b := y / 4294967296) (by omega) (by omega)
  have ba' : x / 4294967296 * (y / 4294967296) < 18446744073709551616 := by omega
  have bb' : x / 4294967296 * (y % 4294967296) < 18446744073709551616 := by omega
  have bc' : x % 4294967296 * (y / 4294967296) < 18446744073709551616 := by omega
  have bh1 : x / 4294967296 * (y / 4294967296) + (x / 4294967296 * (y % 4294967296) + x % 4294967296 * (y % 4294967296) / 4294967296) / 4294967296 < 18446744073709551616 := by omega
  have bh : x / 4294967296 * (y / 4294967296) + (x / 4294967296 * (y % 4294967296) + x % 4294967296 * (y % 4294967296) / 4294967296) / 4294967296 + ((x / 4294967296 * (y % 4294967296) + x % 4294967296 * (y % 4294967296) / 4294967296) % 4294967296 + x % 4294967296 * (y / 4294967296)) / 4294967296 < 18446744073709551616 := by omega
  go_enter Tryz.func277, Tryz.ntmps277
  go_wp2
  simp only [m64_mask x hx, m64_mask y hy, m64_div, m64_mul, m64_add, m64_wrap _ bd, m64_wrap _ bb', m64_wrap _ bt, m64_mask _ bt, m64_wrap _ bc', m64_wrap _ bw, m64_wrap _ ba', m64_wrap _ bh1, m64_wrap _ bh, m64_wrapM (x * y)]
  rw [hhi]
  go_ret2
  exact ⟨rfl, rfl⟩
structure TmP (r : Nat) (v : Int) (w w' : World) : Prop where
  cell : w'.cell? ⟨r, 0, none⟩ = some (.int .i64 v)
  fz : w'.frozen? ⟨r, 0, none⟩ = false
  kp : Kp r r w w'
set_option maxRecDepth 100000 in
theorem emul_any {w : World} {r : Nat} {c n : Int} (hc : w.cell? ⟨r, 0, none⟩ = some (.int .i64 c)) (hf : w.frozen? ⟨r, 0, none⟩ = false) (h0 : 0 ≤ c) (h1 : c ≤ 4611686018427387904) (h2 : 0 ≤ n) (h3 : n ≤ 9223372036854775807) :
    Calls Tryz.prog 203 #[.pointer (some ⟨r, 0, none⟩), .int .i64 n] w fun e w' => e = .returned (.tuple #[]) ∧ TmP r (min (c * n) 4611686018427387904) w w' := by
  obtain ⟨x, rfl⟩ := Int.eq_ofNat_of_zero_le h0
  obtain ⟨y, rfl⟩ := Int.eq_ofNat_of_zero_le h2
  have hm := fun w => Mul64_any x y (by omega) (by omega) w
  have e0 : x * y = 18446744073709551616 * (x * y / 18446744073709551616) + x * y % 18446744073709551616 := (Nat.div_add_mod _ _).symm
  have e1 : x * y % 18446744073709551616 < 18446744073709551616 := Nat.mod_lt _ (by decide)
  have v1 : IntKind.u64.wrap (x : Int) = x := m64_wrap x (by omega)
  have v2 : IntKind.u64.wrap (y : Int) = y := m64_wrap y (by omega)
  have HM : Hid (((x : Int) * (y : Int)) = ((x * y : Nat) : Int)) := m64_mul x y
  generalize x * y / 18446744073709551616 = H at *
  generalize x * y % 18446744073709551616 = L at *
  generalize hq : x * y = q at *
  clear hq
  have fin : ∀ v : Int, v = min ((x : Int) * (y : Int)) 4611686018427387904 → TmP r (min ((x : Int) * (y : Int)) 4611686018427387904) w (w.setCell ⟨r, 0, none⟩ (.int .i64 v)) := fun v hv => by
    subst hv
    refine ⟨?_, ?_, ?_⟩
    · simp [go_sem, hc]
    · simp [go_sem, hf]
    · exact ⟨fun i hi a b => heap_setCell_other w ⟨r, 0, none⟩ i _ a, rfl, rfl, rfl, by simp [World.setCell]⟩
  go_enter Tryz.func203, Tryz.ntmps203
  go_wp2_with fail
  refine (hm _).mono ?_
  rintro e w1 ⟨rfl, rfl⟩
  have HF : Hid (∀ v : Int, v = min ((x : Int) * (y : Int)) 4611686018427387904 → TmP r (min ((x : Int) * (y : Int)) 4611686018427387904) w1 (w1.setCell ⟨r, 0, none⟩ (.int .i64 v))) := fin
  have HE : Hid (q = 18446744073709551616 * H + L) := e0
  clear fin hm v1 v2 e0
  rcases Nat.lt_or_ge 0 H with hH | hH
  · have i1 : (0 : Int) < (H : Int) := by omega
    have hv : (4611686018427387904 : Int) = min ((x : Int) * (y : Int)) 4611686018427387904 := by have := HM.out; have := HE.out; omega
    have HV : Hid _ := HF.out _ hv
    clear hv
    go_wp2
    go_end0
    exact ⟨rfl, HV.out⟩
  · have i1 : ¬ (0 : Int) < (H : Int) := by omega
    rcases Nat.lt_or_ge 4611686018427387904 L with hL | hL
    · have i2 : (4611686018427387904 : Int) < (L : Int) := by omega
      have hv : (4611686018427387904 : Int) = min ((x : Int) * (y : Int)) 4611686018427387904 := by have := HM.out; have := HE.out; omega
      have HV : Hid _ := HF.out _ hv
      clear hv
      go_wp2
      go_end0
      exact ⟨rfl, HV.out⟩
    · have i2 : ¬ (4611686018427387904 : Int) < (L : Int) := by omega
      have v3 : wrap64 (L : Int) = L := by unfold wrap64; omega
      have hv : (L : Int) = min ((x : Int) * (y : Int)) 4611686018427387904 := by have := HM.out; have := HE.out; omega
      have HV : Hid _ := HF.out _ hv
      clear hv
      go_wp2
      go_end0
      exact ⟨rfl, HV.out⟩
set_option maxRecDepth 100000 in
theorem eraise_any {w : World} {r : Nat} {c n : Int} (hc : w.cell? ⟨r, 0, none⟩ = some (.int .i64 c)) (hf : w.frozen? ⟨r, 0, none⟩ = false) (h0 : 1 ≤ c) (h1 : c ≤ 4611686018427387904) (h3 : n ≤ 9223372036854775807) :
    Calls Tryz.prog 204 #[.pointer (some ⟨r, 0, none⟩), .int .i64 n] w fun e w' => e = .returned (.tuple #[]) ∧ TmP r (tmf c n) w w' := by
  have ht : tmf c n = min (c * max n 1) 4611686018427387904 := by unfold tmf; rfl
  rcases Int.lt_or_le n 1 with hn | hn
  · have h4 : max n 1 = 1 := by omega
    rw [h4] at ht
    have hm := emul_any (n := 1) hc hf (by omega) h1 (by omega) (by omega)
    rw [← ht] at hm
    clear ht
    have hn' : ¬ 1 ≤ n := by omega
    go_enter Tryz.func204, Tryz.ntmps204
    go_wp2_with fail
    all_goals first
      | omega
      | (go_fit hm
         rintro e w1 ⟨rfl, h⟩
         have H : Hid (TmP r (tmf c n) w w1) := h
         clear h
         go_wp2
         go_end0
         exact ⟨rfl, H.out⟩)
  · have h4 : max n 1 = n := by omega
    rw [h4] at ht
    have hm := emul_any (n := n) hc hf (by omega) h1 (by omega) (by omega)
    rw [← ht] at hm
    clear ht
    have hn' : ¬ n < 1 := by omega
    go_enter Tryz.func204, Tryz.ntmps204
    go_wp2_with fail
    all_goals first
      | omega
      | (go_fit hm
         rintro e w1 ⟨rfl, h⟩
         have H : Hid (TmP r (tmf c n) w w1) := h
         clear h
         go_wp2
         go_end0
         exact ⟨rfl, H.out⟩)
theorem Kp.comp {r : Nat} {a b c : World} (h : Kp r r a b) (k : Kp r r b c) : Kp r r a c :=
  ⟨fun i hi x y => (k.block i (Nat.lt_of_lt_of_le hi h.size) x y).trans (h.block i hi x y), k.os.trans h.os, k.tape.trans h.tape, k.output.trans h.output, Nat.le_trans h.size k.size⟩
theorem Kp.cells {r : Nat} {a b : World} (h : Kp r r a b) {x : Addr} {v : Value} (hx : x.block ≠ r) (hc : a.cell? x = some v) : b.cell? x = some v :=
  (World.cell?_of_block (h.block x.block (block_lt_of_cell hc) hx hx)).trans hc
theorem Kp.bel {r B : Nat} {w0 a b : World} (h : Kp r r a b) (hB : Below B w0 a) (h1 : B ≤ r) (h2 : B ≤ a.heap.size) : Below B w0 b :=
  ⟨h.os.trans hB.os, h.tape.trans hB.tape, h.output.trans hB.output, Nat.le_trans hB.size h.size, fun k hk => (h.block k (by omega) (by omega) (by omega)).trans (hB.block k hk)⟩
set_option maxRecDepth 100000 in
theorem eeach_any {w : World} {p : Option Addr} {n nc r : Nat} {xs : List Int} (hl : xs.length = n) (hX : Rd w p .i64 xs) (hn : n ≤ 1000000) (hx : ∀ j, j < n → gx xs j ≤ 9223372036854775807) (hr : ∀ a, p = some a → 0 < n → a.block ≠ r)
    (hc : w.cell? ⟨r, 0, none⟩ = some (.int .i64 1)) (hf : w.frozen? ⟨r, 0, none⟩ = false) :
    Calls Tryz.prog 201 #[.slice p n nc, .func (.func 204) #[.pointer (some ⟨r, 0, none⟩)] #[]] w fun e w' => e = .returned (.tuple #[]) ∧ TmP r (tms xs) w w' := by
  have HX : Hid (xs.length = n ∧ Rd w p .i64 xs ∧ (∀ j, j < n → gx xs j ≤ 9223372036854775807) ∧ ∀ a, p = some a → 0 < n → a.block ≠ r) := ⟨hl, hX, hx, hr⟩
  have H0 : Hid (TmP r 1 w w) := ⟨hc, hf, ⟨fun _ _ _ _ => rfl, rfl, rfl, rfl, Nat.le_refl _⟩⟩
  clear hl hX hx hr hc hf
  go_enter Tryz.func201, Tryz.ntmps201
  go_wp2_with fail
  go_loopw [5, 8] (fun nv iv wr => ∃ k : Nat, k ≤ n ∧ iv = .int .i64 k ∧ Hid (TmP r (tms (xs.take k)) w wr)) (fun _ iv _ => n - (intOf iv).toNat)
  case atStart => exact ⟨0, Nat.zero_le _, by go_num, H0.out⟩
  case round =>
    obtain ⟨k, hk, rfl, H⟩ := hrel
    obtain ⟨hl, hX, hx, hr⟩ := HX.out
    rcases Nat.lt_or_ge k n with hlt | hge
    · obtain ⟨b, o, hp, hc⟩ := hX (by omega)
      subst hp
      have c0 := H.out.kp.cells (x := ⟨b, o + k, none⟩) (hr ⟨b, o, none⟩ rfl (by omega)) (hc k (by omega))
      obtain ⟨d1, d2⟩ := tms_bd (xs.take k) 1 (by decide) (by decide)
      have hm := eraise_any H.out.cell H.out.fz d1 d2 (hx k hlt)
      have HT : Hid (tms (xs.take (k + 1)) = tmf (tms (xs.take k)) (gx xs k)) := tms_take 1 xs k (by omega)
      have i1 : (k : Int) < (n : Int) := by omega
      clear hl hX hx hr hc d1 d2
      go_wp2_with fail
      refine hm.mono ?_
      rintro e w1 ⟨rfl, h⟩
      have H1 : Hid (TmP r (tms (xs.take (k + 1))) w w1) := ⟨by rw [HT.out]; exact h.cell, h.fz, H.out.kp.comp h.kp⟩
      clear h hm c0
      go_wp2_with fail
      refine ⟨⟨k + 1, by omega, by go_num, H1.out⟩, by simp [intOf]; omega⟩
    · obtain rfl : k = n := by omega
      have HE : Hid (TmP r (tms xs) w wr) := by have h := H.out; rw [List.take_of_length_le (by omega)] at h; exact h
      have i1 : ¬ (k : Int) < (k : Int) := by omega
      clear hX hx hl hr
      go_wp2
      go_end0
      exact ⟨rfl, HE.out⟩
set_option maxRecDepth 100000 in
theorem eTimes_any {w : World} {p : Option Addr} {n nc : Nat} {xs : List Int} (hl : xs.length = n) (hX : Rd w p .i64 xs) (hn : n ≤ 1000000) (hx : ∀ j, j < n → gx xs j ≤ 9223372036854775807) :
    Calls Tryz.prog 127 #[.slice p n nc] w fun e w' => e = .returned (.int .i64 (tms xs)) ∧ Below w.heap.size w w' := by
  have hp : ∀ a, p = some a → 0 < n → a.block < w.heap.size := fun a ha h0 => by
    obtain ⟨b, o, e, hlt⟩ := hX.lt (by omega)
    rw [e] at ha
    cases ha
    exact hlt
  have HX : Hid (xs.length = n ∧ Rd w p .i64 xs ∧ (∀ j, j < n → gx xs j ≤ 9223372036854775807) ∧ ∀ a, p = some a → 0 < n → a.block < w.heap.size) := ⟨hl, hX, hx, hp⟩
  clear hl hX hx hp
  go_enter Tryz.func127, Tryz.ntmps127
  go_wp2_with fail
  obtain ⟨hl, hX, hx, hp⟩ := HX.out
  have hb0 : Below w.heap.size w (w.alloc (.cells #[.int .i64 1] 225)) := (Below.refl _ _).alloc (Nat.le_refl _) _
  refine (eeach_any (xs := xs) hl (hX.below hb0) hn hx (fun a ha h0 => Nat.ne_of_lt (hp a ha h0)) (by simp [go_sem]) (by simp [go_sem])).mono ?_
  rintro e w1 ⟨rfl, h⟩
  have c1 := h.cell
  have HB : Hid (Below w.heap.size w w1) := h.kp.bel hb0 (Nat.le_refl _) (by simp)
  clear h hb0 hl hX hx hp
  go_wp2
  go_ret
  exact ⟨rfl, HB.out⟩
end Go.Proofs.YtejnhpjejcpekaaGreatDoor
