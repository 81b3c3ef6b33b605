/-
  limbs.multiplyRows.
-/
import Derived.Test.YtcdfckjlmifjiaaGreatNiUaOwPnWk
import Derived.Test.YtcdfckjlmifjiaaGreatAvWa
import Derived.Test.YtcdfckjlmifjiaaGreatWlBxRaWhWm
import Derived.Test.YtcdfckjlmifjiaaGreatZcZdYb
import Derived.Test.YtcdfckjlmifjiaaGreatYcZsRmRpYd
import Derived.Test.YtcdfckjlmifjiaaGreatOnUdLnWrIbWgUeUfUgAb
import Derived.Test.YtcdfckjlmifjiaaGreatCxRbCyRvCzTeZa
namespace Go.Proofs.YtcdfckjlmifjiaaGreat
open Go.RowKit
set_option linter.unusedVariables false
set_option linter.unusedSimpArgs false

set_option maxHeartbeats 2000000 in
/-- limbs.multiplyRows. -/
theorem multiplyRows_any (g o cap : Nat) (Z : List Int) (p q : Option Addr) (n nc m mc : Nat) (xs ys : List Int) (w : World)
    (hz : o + (n + m) ≤ Z.length) (hcap : cap ≤ 1099511627776) (hn : n + m ≤ cap) (hR : Row w g 100 .u32 Z) (hZ : (Z.drop o).take (n + m) = zeros (n + m)) (hx : xs.length = n) (hy : ys.length = m)
    (hX : Rd w p .u32 xs) (hXu : U32 xs) (hY : Rd w q .u32 ys) (hYu : U32 ys) (hoffx : 0 < n → Off g p) (hoffy : 0 < m → Off g q) :
    Calls Tryz.prog 135 #[.slice (some ⟨g, o, none⟩) (n + m) cap, .slice p n nc, .slice q m mc] w fun e w' => ∃ R, e = .returned (.tuple #[]) ∧ R.length = n + m ∧ U32 R ∧ val R = val xs * val ys ∧ Row w' g 100 .u32 (mid Z o R) ∧ w.grownBy w' (some g) := by
  go_enter Tryz.func135, Tryz.ntmps135
  go_wp2
  go_loopw [15] (fun iv wr => ∃ (i : Nat) (R : List Int), i ≤ m ∧ iv = .int .i64 i ∧ Hid (R.length = n + m ∧ U32 R ∧ val R = val xs * val (ys.take i) ∧ (∀ j, n + i ≤ j → gx R j = 0) ∧ Row wr g 100 .u32 (mid Z o R) ∧ w.grownBy wr (some g)))
    (fun iv _ => m - (intOf iv).toNat)
  case atStart => exact ⟨0, zeros (n + m), Nat.zero_le _, rfl, length_zeros _, u32_zeros _, by simp [val_zero, val], fun j _ => gx_zeros _ j, by rw [← hZ, mid_self Z o (n + m) hz]; exact hR, grownBy_refl _ _⟩
  case round =>
    obtain ⟨i, R, hi, rfl, H⟩ := hrel
    by_cases hlt : i < m
    · obtain ⟨hl, hu, hv, h0, hr, hg⟩ := H.out
      obtain ⟨b, off, rfl, hcell⟩ := (hY.keptOff hg (hoffy (by omega))) (by omega)
      have hcy := hcell i (by omega)
      clear hl hu hv h0 hr hg hcell
      go_wp2
      go_loopw [8, 29] (fun cv jv wr' => ∃ (j : Nat) (c : Int) (T : List Int), j ≤ n ∧ jv = .int .i64 j ∧ cv = .int .u64 c ∧ 0 ≤ c ∧ c < 4294967296 ∧ Hid (T.length = n + m ∧ U32 T ∧ val T + pw (i + j) * c = val R + pw i * (gx ys i * val (xs.take j)) ∧ (∀ j, n + i ≤ j → gx T j = 0) ∧ Row wr' g 100 .u32 (mid Z o T) ∧ w.grownBy wr' (some g)))
        (fun _ jv _ => n - (intOf jv).toNat)
      case atStart =>
        obtain ⟨hl, hu, hv, h0, hr, hg⟩ := H.out
        exact ⟨0, 0, R, Nat.zero_le _, rfl, rfl, by decide, by decide, hl, hu, by simp [val], h0, hr, hg⟩
      case round =>
        obtain ⟨j, c, T, hj, rfl, rfl, hc0, hc1, HT⟩ := hrel
        by_cases hjn : j < n
        · obtain ⟨hl, hu, hv, h0, hr, hg⟩ := HT.out
          obtain ⟨b', off', rfl, hcell⟩ := (hX.keptOff hg (hoffx (by omega))) (by omega)
          have hcx := hcell j (by omega)
          have hct := hr.mid_cell (by omega) (i + j) (by omega)
          have hfz := hr.frozen (o + (i + j))
          obtain ⟨bt0, bt1⟩ := hu (i + j)
          obtain ⟨bm0, bm1⟩ := mul_bd (hYu i) (hXu j)
          obtain ⟨by0, by1⟩ := hYu i
          obtain ⟨bx0, bx1⟩ := hXu j
          rw [← Nat.add_assoc] at hct hfz
          clear hl hu hv h0 hr hg hcell
          go_wp2
          obtain ⟨hl, hu, hv, h0, hr, hg⟩ := HT.out
          refine ⟨⟨j + 1, _, T.set (i + j) ((gx ys i * gx xs j + gx T (i + j) + c) % 4294967296), by omega, by go_num, rfl, by omega, by omega, ?_⟩, by simp [intOf]; omega⟩
          refine ⟨by rw [List.length_set]; exact hl, u32_set hu _ (by omega), ?_, fun k hk => ?_, ?_, ?_⟩
          · rw [val_set T _ _ (by omega), val_take_succ xs j (by omega), ← Nat.add_assoc, pw_succ]
            have e := cut_step (pw (i + j)) (gx ys i * gx xs j + gx T (i + j) + c)
            have e2 : pw i * (gx ys i * (val (List.take j xs) + pw j * gx xs j)) = pw i * (gx ys i * val (List.take j xs)) + pw (i + j) * (gx ys i * gx xs j) := by
              rw [pw_add, Int.mul_add, Int.mul_add]
              congr 1
              simp only [Int.mul_assoc, Int.mul_left_comm]
            rw [e2]
            simp only [Int.mul_add, Int.mul_sub] at e ⊢
            omega
          · rw [gx_set_ne T _ _ _ (by omega)]; exact h0 k hk
          · rw [Nat.add_assoc]; exact hr.mid_set (by omega) (i + j) (by omega) _
          · exact grownBy_setCell hg _ _
        · have hjn' : j = n := by omega
          subst hjn'
          obtain ⟨hl, hu, hv, h0, hr, hg⟩ := HT.out
          have hct := hr.mid_cell (by omega) (i + j) (by omega)
          have hfz := hr.frozen (o + (i + j))
          clear hl hu hv h0 hr hg
          go_wp2
          obtain ⟨hl, hu, hv, h0, hr, hg⟩ := HT.out
          obtain ⟨rl, ru, rv, r0, rr, rg⟩ := H.out
          refine ⟨⟨i + 1, T.set (i + j) c, by omega, by go_num, ?_⟩, by simp [intOf]; omega⟩
          refine ⟨by rw [List.length_set]; exact hl, u32_set hu _ ⟨hc0, hc1⟩, ?_, fun k hk => ?_, hr.mid_set (by omega) (i + j) (by omega) _, grownBy_setCell hg _ _⟩
          · rw [val_set T _ _ (by omega), h0 (i + j) (by omega), Int.sub_zero, hv, rv, List.take_of_length_le (l := xs) (by omega), val_take_succ ys i (by omega)]
            rw [Int.mul_add]
            congr 1
            simp only [Int.mul_assoc, Int.mul_left_comm, Int.mul_comm]
          · rw [gx_set_ne T _ _ _ (by omega)]; exact h0 k (by omega)
    · have him : i = m := by omega
      subst him
      go_wp2
      go_end0
      obtain ⟨hl, hu, hv, h0, hr, hg⟩ := H.out
      rw [List.take_of_length_le (by omega)] at hv
      exact ⟨R, rfl, hl, hu, hv, hr, hg⟩
end Go.Proofs.YtcdfckjlmifjiaaGreat
/-
  limbs.multiply, product, Mul: where one of the two has fewer than 80 limbs.
-/
namespace Go.Proofs.YtcdfckjlmifjiaaGreat
open Go.RowKit
set_option linter.unusedVariables false
set_option linter.unusedSimpArgs false

set_option maxHeartbeats 1000000 in
/-- limbs.multiply, by rows. -/
theorem multiply_small (g o cap : Nat) (Z : List Int) (p q : Option Addr) (n nc m mc : Nat) (xs ys : List Int) (w : World)
    (hz : o + (n + m) ≤ Z.length) (hcap : cap ≤ 1099511627776) (hn : n + m ≤ cap) (hR : Row w g 100 .u32 Z) (hZ : (Z.drop o).take (n + m) = zeros (n + m)) (hx : xs.length = n) (hy : ys.length = m)
    (hX : Rd w p .u32 xs) (hXu : U32 xs) (hY : Rd w q .u32 ys) (hYu : U32 ys) (hoffx : 0 < n → Off g p) (hoffy : 0 < m → Off g q) (h80 : n < 80 ∨ m < 80) :
    Calls Tryz.prog 134 #[.slice (some ⟨g, o, none⟩) (n + m) cap, .slice p n nc, .slice q m mc] w fun e w' => ∃ R, e = .returned (.tuple #[]) ∧ R.length = n + m ∧ U32 R ∧ val R = val xs * val ys ∧ Row w' g 100 .u32 (mid Z o R) ∧ w.grownBy w' (some g) := by
  by_cases hlt : n < m
  · have h1 : (n : Int) < m := by omega
    have h2 : (n : Int) < 80 := by omega
    go_enter Tryz.func134, Tryz.ntmps134
    go_wp2_with fail
    have hmr := multiplyRows_any g o cap Z q p m mc n nc ys xs w (by omega) hcap (by omega) hR (by rw [Nat.add_comm m n]; exact hZ) hy hx hY hYu hX hXu hoffy hoffx
    rw [Nat.add_comm m n] at hmr
    refine hmr.mono ?_
    rintro e w' ⟨R, rfl, r1, r2, r3, r4, r5⟩
    go_wp2
    go_end0
    exact ⟨R, rfl, r1, r2, by rw [r3, Int.mul_comm], r4, r5⟩
  · have h1 : ¬ (n : Int) < m := by omega
    have h2 : (m : Int) < 80 := by omega
    go_enter Tryz.func134, Tryz.ntmps134
    go_wp2_with fail
    refine (multiplyRows_any g o cap Z p q n nc m mc xs ys w hz hcap hn hR hZ hx hy hX hXu hY hYu hoffx hoffy).mono ?_
    rintro e w' ⟨R, rfl, r1, r2, r3, r4, r5⟩
    go_wp2
    go_end0
    exact ⟨R, rfl, r1, r2, r3, r4, r5⟩

set_option maxHeartbeats 1000000 in
/-- limbs.product. -/
theorem product_small (p q : Option Addr) (n nc m mc : Nat) (xs ys : List Int) (w : World) (hn : n ≤ 100000000) (hm : m ≤ 100000000) (hx : xs.length = n) (hy : ys.length = m)
    (hX : Rd w p .u32 xs) (hXu : U32 xs) (hY : Rd w q .u32 ys) (hYu : U32 ys) (h80 : n < 80 ∨ m < 80) :
    Calls Tryz.prog 133 #[.slice p n nc, .slice q m mc] w fun e w' => ∃ R, e = .returned (.slice (some ⟨w.heap.size, 0, none⟩) (n + m) (n + m)) ∧ R.length = n + m ∧ U32 R ∧ val R = val xs * val ys ∧ Row w' w.heap.size 100 .u32 R ∧ Below w.heap.size w w' := by
  have hmk := mk_u32 (n + m) (by omega)
  have ec : ((n + m : Nat) : Int) = (n : Int) + (m : Int) := by omega
  rw [ec] at hmk
  clear ec
  go_enter Tryz.func133, Tryz.ntmps133
  go_wp2_with fail
  refine (multiply_small w.heap.size 0 (n + m) (zeros (n + m)) p q n nc m mc xs ys _ (by rw [length_zeros]; omega) (by omega) (Nat.le_refl _) (Row.new w _ _ _) (by rw [List.drop_zero, List.take_of_length_le (by rw [length_zeros]; omega)]) hx hy (hX.alloc _) hXu (hY.alloc _) hYu (fun h => hX.off (Nat.le_refl _) (by omega)) (fun h => hY.off (Nat.le_refl _) (by omega)) h80).mono ?_
  rintro e w' ⟨R, rfl, r1, r2, r3, r4, r5⟩
  go_wp2
  go_ret
  rw [mid_zero _ _ (by rw [r1, length_zeros])] at r4
  exact ⟨R, rfl, r1, r2, r3, r4, below_grown ((Below.refl _ _).alloc (Nat.le_refl _) _) r5 (by simp) (Nat.le_refl _)⟩

theorem ival_mul (s t : Bool) (xs ys zs : List Int) (h : val zs = val xs * val ys) : ival (s != t) zs = ival s xs * ival t ys := by
  cases s <;> cases t <;> simp [ival, h, Int.neg_mul, Int.mul_neg]

end Go.Proofs.YtcdfckjlmifjiaaGreat
/-
  limbs.Cmp.
-/
namespace Go.Proofs.YtcdfckjlmifjiaaGreat
open Go.RowKit
set_option linter.unusedVariables false
set_option linter.unusedSimpArgs false

end Go.Proofs.YtcdfckjlmifjiaaGreat
/-
  rat.Mul, Cmp, and what the functions of two rationals share.
-/
namespace Go.Proofs.YtcdfckjlmifjiaaGreat
open Go.RowKit
set_option linter.unusedVariables false
set_option linter.unusedSimpArgs false

/-- Two rationals in variables, both with a Den above 0. -/
structure U2 (w wc : World) (Ka Kb : Nat) (Qa Qb : Rat) (sa ta sb tb : Bool) (pa qa pb qb : Option Addr) (na nac ma mac nb nbc mb mbc : Nat) (xa ya xb yb : List Int) : Prop where
  a : Bq wc w.heap.size (.bool sa) (.slice pa na nac) (.bool ta) (.slice qa ma mac)
  b : Bq wc (w.heap.size + 1) (.bool sb) (.slice pb nb nbc) (.bool tb) (.slice qb mb mbc)
  an : AI wc pa na nac xa
  ad : AI wc qa ma mac ya
  bn : AI wc pb nb nbc xb
  bd : AI wc qb mb mbc yb
  ap : 0 < ival ta ya
  bp : 0 < ival tb yb
  va : Rat.divInt (ival sa xa) (ival ta ya) = Qa
  vb : Rat.divInt (ival sb xb) (ival tb yb) = Qb
  la : na ≤ Ka
  la' : ma ≤ Ka
  lb : nb ≤ Kb
  lb' : mb ≤ Kb
  bel : Below w.heap.size w wc
theorem U2.later {w wc w' : World} {Ka Kb : Nat} {Qa Qb : Rat} {sa ta sb tb : Bool} {pa qa pb qb : Option Addr} {na nac ma mac nb nbc mb mbc : Nat} {xa ya xb yb : List Int} (h : U2 w wc Ka Kb Qa Qb sa ta sb tb pa qa pb qb na nac ma mac nb nbc mb mbc xa ya xb yb) (hb : Below wc.heap.size wc w') : U2 w w' Ka Kb Qa Qb sa ta sb tb pa qa pb qb na nac ma mac nb nbc mb mbc xa ya xb yb :=
  ⟨h.a.later hb, h.b.later hb, h.an.below hb, h.ad.below hb, h.bn.below hb, h.bd.below hb, h.ap, h.bp, h.va, h.vb, h.la, h.la', h.lb, h.lb', bnext' h.bel hb⟩
theorem icmp_mul {x y k : Int} (hk : 0 < k) : icmp (x * k) (y * k) = icmp x y := by
  unfold icmp
  simp only [Int.mul_lt_mul_right hk]
theorem icmp_cross {a b c d : Int} (hb : 0 < b) (hd : 0 < d) : icmp (a * d) (c * b) = icmp ((Rat.divInt a b).num * (Rat.divInt c d).den) ((Rat.divInt c d).num * (Rat.divInt a b).den) := by
  obtain ⟨g, hg, g0, h1, h2⟩ := rat_low a b (by omega)
  obtain ⟨h, hh, h0, h3, h4⟩ := rat_low c d (by omega)
  rw [if_neg (by omega)] at hg hh
  have hk : 0 < g * h := Int.mul_pos (by omega) (by omega)
  rw [← icmp_mul hk (x := (Rat.divInt a b).num * (Rat.divInt c d).den)]
  congr 1
  · conv => lhs; rw [h1, h4]
    simp only [Int.mul_assoc, Int.mul_comm, Int.mul_left_comm]
  · conv => lhs; rw [h3, h2]
    simp only [Int.mul_assoc, Int.mul_comm, Int.mul_left_comm]
theorem NR.of {B : Nat} {w : World} {r r' : Rat} {s : Bool} {p : Option Addr} {n : Nat} {xs : List Int} {t : Bool} {q : Option Addr} {m : Nat} {ys : List Int} (h : NR B w s p n xs t q m ys r) (e : r = r') : NR B w s p n xs t q m ys r' := e ▸ h
end Go.Proofs.YtcdfckjlmifjiaaGreat
/-
  rat.Over, Quo, combine, Add, Sub.
-/
namespace Go.Proofs.YtcdfckjlmifjiaaGreat
open Go.RowKit
set_option linter.unusedVariables false
set_option linter.unusedSimpArgs false

/-- What a function answers that gives a rational and a code. -/
def NcPost (r : Rat) (c : Int) (w : World) (e : Ending) (w' : World) : Prop :=
  ∃ s p n xs t q m ys, e = .returned (.tuple #[.agg #[.bool s, .slice p n n, .bool t, .slice q m m], .int .i64 c]) ∧ NR w.heap.size w' s p n xs t q m ys r ∧ Below w.heap.size w w'
theorem end_nc {w W w1 : World} {r : Nat} {s : Bool} {p : Option Addr} {n : Nat} {xs : List Int} {t : Bool} {q : Option Addr} {m : Nat} {ys : List Int} {z : Rat} {c : Int} {u v x y : Value} (hw : Below w.heap.size w W) (hr : w.heap.size ≤ r) (hr' : r < W.heap.size)
    (hN : NR W.heap.size w1 s p n xs t q m ys z) (hb : Below W.heap.size W w1) :
    NcPost z c w (.returned (.tuple #[.agg #[.bool s, .slice p n n, .bool t, .slice q m m], .int .i64 c])) ((((w1.setCell ⟨r, 0, none⟩ u).setCell ⟨r, 1, none⟩ v).setCell ⟨r, 2, none⟩ x).setCell ⟨r, 3, none⟩ y) :=
  ⟨_, _, _, xs, _, _, _, ys, rfl, ⟨(hN.num.set4 hr' _ _ _ _).mono hw.size, (hN.den.set4 hr' _ _ _ _).mono hw.size⟩, bset4 (bnext' hw hb) hr _ _ _ _⟩
theorem NI.nil (B : Nat) (w : World) : NI B w false none 0 [] 0 := ⟨rfl, Rd.nil, fun j => by simp [gx], by decide, fun _ => rfl, fun _ => rfl, by decide, (fun a ha => by cases ha), (fun a ha => by cases ha)⟩
theorem quo_code {a b c d : Int} {e : Int} (hb : 0 < b) (hd : 0 < d) (h : (if Rat.divInt c d = 0 then (2 : Int) else 0) = e) : (if b * c = 0 then (2 : Int) else 0) = e := by
  rw [← h]
  have h1 : (b * c = 0) ↔ (Rat.divInt c d = 0) := by
    have h0 : (0 : Rat) = Rat.divInt 0 1 := rfl
    rw [h0, Rat.divInt_eq_divInt_iff (by omega) (by decide), Int.mul_eq_zero]
    omega
  simp only [h1]
end Go.Proofs.YtcdfckjlmifjiaaGreat
/-
  What holds behind each part of a region 'x, y, z := From(a), From(b), From(c)', in whatever order its operations come up.
-/
namespace Go.Proofs.YtcdfckjlmifjiaaGreat
open Go.RowKit
set_option linter.unusedVariables false
set_option linter.unusedSimpArgs false

/-- One number is answered. -/
def RR (B : Nat) (w : World) (V : Int) (r : Value) (s : Bool) (p : Option Addr) (n : Nat) (d : List Int) : Prop :=
  r = .agg #[.bool s, .slice p n n] ∧ RN w s p n d ∧ rval s d = V ∧ n ≤ 48 ∧ Go.Proofs.YtcdfckjlmifjiaaGreat.From B p
theorem RR.later {B : Nat} {w w' : World} {V : Int} {r : Value} {s : Bool} {p : Option Addr} {n : Nat} {d : List Int} (h : RR B w V r s p n d) (hb : Below w.heap.size w w') : RR B w' V r s p n d := ⟨h.1, h.2.1.below hb, h.2.2⟩
theorem RR.store {B : Nat} {w : World} {V : Int} {r : Value} {s : Bool} {p : Option Addr} {n : Nat} {d : List Int} (h : RR B w V r s p n d) {g : Nat} (hg : 0 < n → ∀ q, p = some q → q.block ≠ g) (u v : Value) : RR B ((w.setCell ⟨g, 0, none⟩ u).setCell ⟨g, 1, none⟩ v) V r s p n d :=
  ⟨h.1, (h.2.1.set (a := ⟨g, 0, none⟩) (fun h0 q hq => hg h0 q hq) _).set (a := ⟨g, 1, none⟩) (fun h0 q hq => hg h0 q hq) _, h.2.2⟩
/-- One variable is there. -/
def XX (B : Nat) (w : World) (x : Value) (g : Nat) (done : Bool) (r : Value) : Prop :=
  x = .pointer (some ⟨g, 0, none⟩) ∧ B ≤ g ∧ ∃ u v, Bx w g u v ∧ (done = true → r = .agg #[u, v])
theorem XX.later {B : Nat} {w w' : World} {x : Value} {g : Nat} {done : Bool} {r : Value} (h : XX B w x g done r) (hb : Below w.heap.size w w') : XX B w' x g done r := by
  obtain ⟨h1, h2, u, v, h3, h4⟩ := h
  exact ⟨h1, h2, u, v, h3.later hb, h4⟩
theorem XX.lt {B : Nat} {w : World} {x : Value} {g : Nat} {done : Bool} {r : Value} (h : XX B w x g done r) : g < w.heap.size := by
  obtain ⟨h1, h2, u, v, h3, h4⟩ := h
  exact block_lt_of_cell h3.c0
theorem XX.res {B : Nat} {w : World} {x : Value} {g : Nat} {done : Bool} {r r' : Value} (h : XX B w x g done r) (hd : ¬ done = true) : XX B w x g done r' := by
  obtain ⟨h1, h2, u, v, h3, h4⟩ := h
  exact ⟨h1, h2, u, v, h3, fun e => absurd e hd⟩
theorem XX.other {B : Nat} {w : World} {x : Value} {g k : Nat} {done : Bool} {r : Value} (h : XX B w x g done r) (hk : g ≠ k) (u v : Value) : XX B ((w.setCell ⟨k, 0, none⟩ u).setCell ⟨k, 1, none⟩ v) x g done r := by
  obtain ⟨h1, h2, u', v', h3, h4⟩ := h
  exact ⟨h1, h2, u', v', Bx_oth h3 hk, h4⟩
theorem XX.own {B : Nat} {w : World} {x : Value} {g : Nat} {done : Bool} {r : Value} (h : XX B w x g done r) (u v : Value) : XX B ((w.setCell ⟨g, 0, none⟩ u).setCell ⟨g, 1, none⟩ v) x g true (.agg #[u, v]) := by
  obtain ⟨h1, h2, u', v', h3, h4⟩ := h
  exact ⟨h1, h2, u, v, Bx_set h3, fun _ => rfl⟩

/-- Behind each part of the region. -/
structure G3 (wc w : World) (V1 V2 V3 : Int) (c1 c2 c3 a1 a2 a3 s1 s2 s3 : Bool) (r1 r2 r3 x1 x2 x3 : Value) (t1 : Bool) (p1 : Option Addr) (n1 : Nat) (d1 : List Int) (t2 : Bool) (p2 : Option Addr) (n2 : Nat) (d2 : List Int) (t3 : Bool) (p3 : Option Addr) (n3 : Nat) (d3 : List Int) (g1 g2 g3 : Nat) : Prop where
  bel : Below wc.heap.size wc w
  R1 : c1 = true → RR wc.heap.size w V1 r1 t1 p1 n1 d1
  R2 : c2 = true → RR wc.heap.size w V2 r2 t2 p2 n2 d2
  R3 : c3 = true → RR wc.heap.size w V3 r3 t3 p3 n3 d3
  X1 : a1 = true → XX wc.heap.size w x1 g1 s1 r1
  X2 : a2 = true → XX wc.heap.size w x2 g2 s2 r2
  X3 : a3 = true → XX wc.heap.size w x3 g3 s3 r3
  d11 : c1 = true → a1 = true → 0 < n1 → ∀ q, p1 = some q → q.block ≠ g1
  d12 : c1 = true → a2 = true → 0 < n1 → ∀ q, p1 = some q → q.block ≠ g2
  d13 : c1 = true → a3 = true → 0 < n1 → ∀ q, p1 = some q → q.block ≠ g3
  d21 : c2 = true → a1 = true → 0 < n2 → ∀ q, p2 = some q → q.block ≠ g1
  d22 : c2 = true → a2 = true → 0 < n2 → ∀ q, p2 = some q → q.block ≠ g2
  d23 : c2 = true → a3 = true → 0 < n2 → ∀ q, p2 = some q → q.block ≠ g3
  d31 : c3 = true → a1 = true → 0 < n3 → ∀ q, p3 = some q → q.block ≠ g1
  d32 : c3 = true → a2 = true → 0 < n3 → ∀ q, p3 = some q → q.block ≠ g2
  d33 : c3 = true → a3 = true → 0 < n3 → ∀ q, p3 = some q → q.block ≠ g3
  e12 : a1 = true → a2 = true → g1 ≠ g2
  e13 : a1 = true → a3 = true → g1 ≠ g3
  e23 : a2 = true → a3 = true → g2 ≠ g3
  o1 : s1 = true → c1 = true
  o2 : s2 = true → c2 = true
  o3 : s3 = true → c3 = true
  q1 : s1 = true → a1 = true
  q2 : s2 = true → a2 = true
  q3 : s3 = true → a3 = true
theorem G3.call1 {wc w w1 : World} {V1 V2 V3 : Int} {c1 c2 c3 a1 a2 a3 s1 s2 s3 : Bool} {r1 r2 r3 x1 x2 x3 : Value} {t1 : Bool} {p1 : Option Addr} {n1 : Nat} {d1 : List Int} {t2 : Bool} {p2 : Option Addr} {n2 : Nat} {d2 : List Int} {t3 : Bool} {p3 : Option Addr} {n3 : Nat} {d3 : List Int} {g1 g2 g3 : Nat} (h : G3 wc w V1 V2 V3 c1 c2 c3 a1 a2 a3 s1 s2 s3 r1 r2 r3 x1 x2 x3 t1 p1 n1 d1 t2 p2 n2 d2 t3 p3 n3 d3 g1 g2 g3) (hc : ¬ c1 = true) {t : Bool} {p : Option Addr} {n : Nat} {d : List Int} (hb : Below w.heap.size w w1) (hr : RN w1 t p n d) (hv : rval t d = V1) (hn : n ≤ 48) (hf : Go.Proofs.YtcdfckjlmifjiaaGreat.From w.heap.size p) :
    G3 wc w1 V1 V2 V3 (true) c2 c3 a1 a2 a3 s1 s2 s3 (.agg #[.bool t, .slice p n n]) r2 r3 x1 x2 x3 (t) (p) (n) (d) t2 p2 n2 d2 t3 p3 n3 d3 g1 g2 g3 :=
  ⟨h.bel.trans (hb.mono h.bel.size), fun _ => ⟨rfl, hr, hv, hn, fun a ha => Nat.le_trans h.bel.size (hf a ha)⟩, fun k => (h.R2 k).later hb, fun k => (h.R3 k).later hb, fun k => ((h.X1 k).later hb).res (fun e => hc (h.o1 e)), fun k => (h.X2 k).later hb, fun k => (h.X3 k).later hb, fun _ k h0 q hq e => by have h1 := (h.X1 k).lt; have h2 := hf q hq; omega, fun _ k h0 q hq e => by have h1 := (h.X2 k).lt; have h2 := hf q hq; omega, fun _ k h0 q hq e => by have h1 := (h.X3 k).lt; have h2 := hf q hq; omega, h.d21, h.d22, h.d23, h.d31, h.d32, h.d33, h.e12, h.e13, h.e23, fun _ => rfl, h.o2, h.o3, h.q1, h.q2, h.q3⟩
theorem G3.call2 {wc w w1 : World} {V1 V2 V3 : Int} {c1 c2 c3 a1 a2 a3 s1 s2 s3 : Bool} {r1 r2 r3 x1 x2 x3 : Value} {t1 : Bool} {p1 : Option Addr} {n1 : Nat} {d1 : List Int} {t2 : Bool} {p2 : Option Addr} {n2 : Nat} {d2 : List Int} {t3 : Bool} {p3 : Option Addr} {n3 : Nat} {d3 : List Int} {g1 g2 g3 : Nat} (h : G3 wc w V1 V2 V3 c1 c2 c3 a1 a2 a3 s1 s2 s3 r1 r2 r3 x1 x2 x3 t1 p1 n1 d1 t2 p2 n2 d2 t3 p3 n3 d3 g1 g2 g3) (hc : ¬ c2 = true) {t : Bool} {p : Option Addr} {n : Nat} {d : List Int} (hb : Below w.heap.size w w1) (hr : RN w1 t p n d) (hv : rval t d = V2) (hn : n ≤ 48) (hf : Go.Proofs.YtcdfckjlmifjiaaGreat.From w.heap.size p) :
    G3 wc w1 V1 V2 V3 c1 (true) c3 a1 a2 a3 s1 s2 s3 r1 (.agg #[.bool t, .slice p n n]) r3 x1 x2 x3 t1 p1 n1 d1 (t) (p) (n) (d) t3 p3 n3 d3 g1 g2 g3 :=
  ⟨h.bel.trans (hb.mono h.bel.size), fun k => (h.R1 k).later hb, fun _ => ⟨rfl, hr, hv, hn, fun a ha => Nat.le_trans h.bel.size (hf a ha)⟩, fun k => (h.R3 k).later hb, fun k => (h.X1 k).later hb, fun k => ((h.X2 k).later hb).res (fun e => hc (h.o2 e)), fun k => (h.X3 k).later hb, h.d11, h.d12, h.d13, fun _ k h0 q hq e => by have h1 := (h.X1 k).lt; have h2 := hf q hq; omega, fun _ k h0 q hq e => by have h1 := (h.X2 k).lt; have h2 := hf q hq; omega, fun _ k h0 q hq e => by have h1 := (h.X3 k).lt; have h2 := hf q hq; omega, h.d31, h.d32, h.d33, h.e12, h.e13, h.e23, h.o1, fun _ => rfl, h.o3, h.q1, h.q2, h.q3⟩
theorem G3.call3 {wc w w1 : World} {V1 V2 V3 : Int} {c1 c2 c3 a1 a2 a3 s1 s2 s3 : Bool} {r1 r2 r3 x1 x2 x3 : Value} {t1 : Bool} {p1 : Option Addr} {n1 : Nat} {d1 : List Int} {t2 : Bool} {p2 : Option Addr} {n2 : Nat} {d2 : List Int} {t3 : Bool} {p3 : Option Addr} {n3 : Nat} {d3 : List Int} {g1 g2 g3 : Nat} (h : G3 wc w V1 V2 V3 c1 c2 c3 a1 a2 a3 s1 s2 s3 r1 r2 r3 x1 x2 x3 t1 p1 n1 d1 t2 p2 n2 d2 t3 p3 n3 d3 g1 g2 g3) (hc : ¬ c3 = true) {t : Bool} {p : Option Addr} {n : Nat} {d : List Int} (hb : Below w.heap.size w w1) (hr : RN w1 t p n d) (hv : rval t d = V3) (hn : n ≤ 48) (hf : Go.Proofs.YtcdfckjlmifjiaaGreat.From w.heap.size p) :
    G3 wc w1 V1 V2 V3 c1 c2 (true) a1 a2 a3 s1 s2 s3 r1 r2 (.agg #[.bool t, .slice p n n]) x1 x2 x3 t1 p1 n1 d1 t2 p2 n2 d2 (t) (p) (n) (d) g1 g2 g3 :=
  ⟨h.bel.trans (hb.mono h.bel.size), fun k => (h.R1 k).later hb, fun k => (h.R2 k).later hb, fun _ => ⟨rfl, hr, hv, hn, fun a ha => Nat.le_trans h.bel.size (hf a ha)⟩, fun k => (h.X1 k).later hb, fun k => (h.X2 k).later hb, fun k => ((h.X3 k).later hb).res (fun e => hc (h.o3 e)), h.d11, h.d12, h.d13, h.d21, h.d22, h.d23, fun _ k h0 q hq e => by have h1 := (h.X1 k).lt; have h2 := hf q hq; omega, fun _ k h0 q hq e => by have h1 := (h.X2 k).lt; have h2 := hf q hq; omega, fun _ k h0 q hq e => by have h1 := (h.X3 k).lt; have h2 := hf q hq; omega, h.e12, h.e13, h.e23, h.o1, h.o2, fun _ => rfl, h.q1, h.q2, h.q3⟩
theorem G3.alloc1 {wc w : World} {V1 V2 V3 : Int} {c1 c2 c3 a1 a2 a3 s1 s2 s3 : Bool} {r1 r2 r3 x1 x2 x3 : Value} {t1 : Bool} {p1 : Option Addr} {n1 : Nat} {d1 : List Int} {t2 : Bool} {p2 : Option Addr} {n2 : Nat} {d2 : List Int} {t3 : Bool} {p3 : Option Addr} {n3 : Nat} {d3 : List Int} {g1 g2 g3 : Nat} (h : G3 wc w V1 V2 V3 c1 c2 c3 a1 a2 a3 s1 s2 s3 r1 r2 r3 x1 x2 x3 t1 p1 n1 d1 t2 p2 n2 d2 t3 p3 n3 d3 g1 g2 g3) (hs : ¬ a1 = true) (u v : Value) (ty : Nat) :
    G3 wc (w.alloc (.cells #[u, v] ty)) V1 V2 V3 c1 c2 c3 (true) a2 a3 s1 s2 s3 r1 r2 r3 (.pointer (some ⟨w.heap.size, 0, none⟩)) x2 x3 t1 p1 n1 d1 t2 p2 n2 d2 t3 p3 n3 d3 (w.heap.size) g2 g3 :=
  ⟨h.bel.alloc h.bel.size _, fun k => (h.R1 k).later (bel_al (Below.refl _ _)), fun k => (h.R2 k).later (bel_al (Below.refl _ _)), fun k => (h.R3 k).later (bel_al (Below.refl _ _)), fun _ => ⟨rfl, h.bel.size, u, v, Bx.new _ _ _ rfl, fun e => absurd (h.q1 e) hs⟩, fun k => (h.X2 k).later (bel_al (Below.refl _ _)), fun k => (h.X3 k).later (bel_al (Below.refl _ _)), fun k _ h0 q hq => Nat.ne_of_lt ((h.R1 k).2.1.lt h0 q hq), h.d12, h.d13, fun k _ h0 q hq => Nat.ne_of_lt ((h.R2 k).2.1.lt h0 q hq), h.d22, h.d23, fun k _ h0 q hq => Nat.ne_of_lt ((h.R3 k).2.1.lt h0 q hq), h.d32, h.d33, fun _ k => Ne.symm (Nat.ne_of_lt (h.X2 k).lt), fun _ k => Ne.symm (Nat.ne_of_lt (h.X3 k).lt), h.e23, h.o1, h.o2, h.o3, fun _ => rfl, h.q2, h.q3⟩
theorem G3.alloc2 {wc w : World} {V1 V2 V3 : Int} {c1 c2 c3 a1 a2 a3 s1 s2 s3 : Bool} {r1 r2 r3 x1 x2 x3 : Value} {t1 : Bool} {p1 : Option Addr} {n1 : Nat} {d1 : List Int} {t2 : Bool} {p2 : Option Addr} {n2 : Nat} {d2 : List Int} {t3 : Bool} {p3 : Option Addr} {n3 : Nat} {d3 : List Int} {g1 g2 g3 : Nat} (h : G3 wc w V1 V2 V3 c1 c2 c3 a1 a2 a3 s1 s2 s3 r1 r2 r3 x1 x2 x3 t1 p1 n1 d1 t2 p2 n2 d2 t3 p3 n3 d3 g1 g2 g3) (hs : ¬ a2 = true) (u v : Value) (ty : Nat) :
    G3 wc (w.alloc (.cells #[u, v] ty)) V1 V2 V3 c1 c2 c3 a1 (true) a3 s1 s2 s3 r1 r2 r3 x1 (.pointer (some ⟨w.heap.size, 0, none⟩)) x3 t1 p1 n1 d1 t2 p2 n2 d2 t3 p3 n3 d3 g1 (w.heap.size) g3 :=
  ⟨h.bel.alloc h.bel.size _, fun k => (h.R1 k).later (bel_al (Below.refl _ _)), fun k => (h.R2 k).later (bel_al (Below.refl _ _)), fun k => (h.R3 k).later (bel_al (Below.refl _ _)), fun k => (h.X1 k).later (bel_al (Below.refl _ _)), fun _ => ⟨rfl, h.bel.size, u, v, Bx.new _ _ _ rfl, fun e => absurd (h.q2 e) hs⟩, fun k => (h.X3 k).later (bel_al (Below.refl _ _)), h.d11, fun k _ h0 q hq => Nat.ne_of_lt ((h.R1 k).2.1.lt h0 q hq), h.d13, h.d21, fun k _ h0 q hq => Nat.ne_of_lt ((h.R2 k).2.1.lt h0 q hq), h.d23, h.d31, fun k _ h0 q hq => Nat.ne_of_lt ((h.R3 k).2.1.lt h0 q hq), h.d33, fun k _ => Nat.ne_of_lt (h.X1 k).lt, h.e13, fun _ k => Ne.symm (Nat.ne_of_lt (h.X3 k).lt), h.o1, h.o2, h.o3, h.q1, fun _ => rfl, h.q3⟩
theorem G3.alloc3 {wc w : World} {V1 V2 V3 : Int} {c1 c2 c3 a1 a2 a3 s1 s2 s3 : Bool} {r1 r2 r3 x1 x2 x3 : Value} {t1 : Bool} {p1 : Option Addr} {n1 : Nat} {d1 : List Int} {t2 : Bool} {p2 : Option Addr} {n2 : Nat} {d2 : List Int} {t3 : Bool} {p3 : Option Addr} {n3 : Nat} {d3 : List Int} {g1 g2 g3 : Nat} (h : G3 wc w V1 V2 V3 c1 c2 c3 a1 a2 a3 s1 s2 s3 r1 r2 r3 x1 x2 x3 t1 p1 n1 d1 t2 p2 n2 d2 t3 p3 n3 d3 g1 g2 g3) (hs : ¬ a3 = true) (u v : Value) (ty : Nat) :
    G3 wc (w.alloc (.cells #[u, v] ty)) V1 V2 V3 c1 c2 c3 a1 a2 (true) s1 s2 s3 r1 r2 r3 x1 x2 (.pointer (some ⟨w.heap.size, 0, none⟩)) t1 p1 n1 d1 t2 p2 n2 d2 t3 p3 n3 d3 g1 g2 (w.heap.size) :=
  ⟨h.bel.alloc h.bel.size _, fun k => (h.R1 k).later (bel_al (Below.refl _ _)), fun k => (h.R2 k).later (bel_al (Below.refl _ _)), fun k => (h.R3 k).later (bel_al (Below.refl _ _)), fun k => (h.X1 k).later (bel_al (Below.refl _ _)), fun k => (h.X2 k).later (bel_al (Below.refl _ _)), fun _ => ⟨rfl, h.bel.size, u, v, Bx.new _ _ _ rfl, fun e => absurd (h.q3 e) hs⟩, h.d11, h.d12, fun k _ h0 q hq => Nat.ne_of_lt ((h.R1 k).2.1.lt h0 q hq), h.d21, h.d22, fun k _ h0 q hq => Nat.ne_of_lt ((h.R2 k).2.1.lt h0 q hq), h.d31, h.d32, fun k _ h0 q hq => Nat.ne_of_lt ((h.R3 k).2.1.lt h0 q hq), h.e12, fun k _ => Nat.ne_of_lt (h.X1 k).lt, fun k _ => Nat.ne_of_lt (h.X2 k).lt, h.o1, h.o2, h.o3, h.q1, h.q2, fun _ => rfl⟩
theorem G3.store1 {wc w : World} {V1 V2 V3 : Int} {c1 c2 c3 a1 a2 a3 s1 s2 s3 : Bool} {r1 r2 r3 x1 x2 x3 : Value} {t1 : Bool} {p1 : Option Addr} {n1 : Nat} {d1 : List Int} {t2 : Bool} {p2 : Option Addr} {n2 : Nat} {d2 : List Int} {t3 : Bool} {p3 : Option Addr} {n3 : Nat} {d3 : List Int} {g1 g2 g3 : Nat} (h : G3 wc w V1 V2 V3 c1 c2 c3 a1 a2 a3 s1 s2 s3 r1 r2 r3 x1 x2 x3 t1 p1 n1 d1 t2 p2 n2 d2 t3 p3 n3 d3 g1 g2 g3) (ha : a1 = true) (hc : c1 = true) :
    G3 wc ((w.setCell ⟨g1, 0, none⟩ (.bool t1)).setCell ⟨g1, 1, none⟩ (.slice p1 n1 n1)) V1 V2 V3 c1 c2 c3 a1 a2 a3 (true) s2 s3 r1 r2 r3 x1 x2 x3 t1 p1 n1 d1 t2 p2 n2 d2 t3 p3 n3 d3 g1 g2 g3 :=
  ⟨bset2 h.bel (h.X1 ha).2.1 _ _, fun k => (h.R1 k).store (h.d11 k ha) _ _, fun k => (h.R2 k).store (h.d21 k ha) _ _, fun k => (h.R3 k).store (h.d31 k ha) _ _, fun k => by have h1 := (h.X1 k).own (.bool t1) (.slice p1 n1 n1); rw [(h.R1 hc).1]; exact h1, fun k => (h.X2 k).other (Ne.symm (h.e12 ha k)) _ _, fun k => (h.X3 k).other (Ne.symm (h.e13 ha k)) _ _, h.d11, h.d12, h.d13, h.d21, h.d22, h.d23, h.d31, h.d32, h.d33, h.e12, h.e13, h.e23, fun _ => hc, h.o2, h.o3, fun _ => ha, h.q2, h.q3⟩
theorem G3.store2 {wc w : World} {V1 V2 V3 : Int} {c1 c2 c3 a1 a2 a3 s1 s2 s3 : Bool} {r1 r2 r3 x1 x2 x3 : Value} {t1 : Bool} {p1 : Option Addr} {n1 : Nat} {d1 : List Int} {t2 : Bool} {p2 : Option Addr} {n2 : Nat} {d2 : List Int} {t3 : Bool} {p3 : Option Addr} {n3 : Nat} {d3 : List Int} {g1 g2 g3 : Nat} (h : G3 wc w V1 V2 V3 c1 c2 c3 a1 a2 a3 s1 s2 s3 r1 r2 r3 x1 x2 x3 t1 p1 n1 d1 t2 p2 n2 d2 t3 p3 n3 d3 g1 g2 g3) (ha : a2 = true) (hc : c2 = true) :
    G3 wc ((w.setCell ⟨g2, 0, none⟩ (.bool t2)).setCell ⟨g2, 1, none⟩ (.slice p2 n2 n2)) V1 V2 V3 c1 c2 c3 a1 a2 a3 s1 (true) s3 r1 r2 r3 x1 x2 x3 t1 p1 n1 d1 t2 p2 n2 d2 t3 p3 n3 d3 g1 g2 g3 :=
  ⟨bset2 h.bel (h.X2 ha).2.1 _ _, fun k => (h.R1 k).store (h.d12 k ha) _ _, fun k => (h.R2 k).store (h.d22 k ha) _ _, fun k => (h.R3 k).store (h.d32 k ha) _ _, fun k => (h.X1 k).other (h.e12 k ha) _ _, fun k => by have h1 := (h.X2 k).own (.bool t2) (.slice p2 n2 n2); rw [(h.R2 hc).1]; exact h1, fun k => (h.X3 k).other (Ne.symm (h.e23 ha k)) _ _, h.d11, h.d12, h.d13, h.d21, h.d22, h.d23, h.d31, h.d32, h.d33, h.e12, h.e13, h.e23, h.o1, fun _ => hc, h.o3, h.q1, fun _ => ha, h.q3⟩
theorem G3.store3 {wc w : World} {V1 V2 V3 : Int} {c1 c2 c3 a1 a2 a3 s1 s2 s3 : Bool} {r1 r2 r3 x1 x2 x3 : Value} {t1 : Bool} {p1 : Option Addr} {n1 : Nat} {d1 : List Int} {t2 : Bool} {p2 : Option Addr} {n2 : Nat} {d2 : List Int} {t3 : Bool} {p3 : Option Addr} {n3 : Nat} {d3 : List Int} {g1 g2 g3 : Nat} (h : G3 wc w V1 V2 V3 c1 c2 c3 a1 a2 a3 s1 s2 s3 r1 r2 r3 x1 x2 x3 t1 p1 n1 d1 t2 p2 n2 d2 t3 p3 n3 d3 g1 g2 g3) (ha : a3 = true) (hc : c3 = true) :
    G3 wc ((w.setCell ⟨g3, 0, none⟩ (.bool t3)).setCell ⟨g3, 1, none⟩ (.slice p3 n3 n3)) V1 V2 V3 c1 c2 c3 a1 a2 a3 s1 s2 (true) r1 r2 r3 x1 x2 x3 t1 p1 n1 d1 t2 p2 n2 d2 t3 p3 n3 d3 g1 g2 g3 :=
  ⟨bset2 h.bel (h.X3 ha).2.1 _ _, fun k => (h.R1 k).store (h.d13 k ha) _ _, fun k => (h.R2 k).store (h.d23 k ha) _ _, fun k => (h.R3 k).store (h.d33 k ha) _ _, fun k => (h.X1 k).other (h.e13 k ha) _ _, fun k => (h.X2 k).other (h.e23 k ha) _ _, fun k => by have h1 := (h.X3 k).own (.bool t3) (.slice p3 n3 n3); rw [(h.R3 hc).1]; exact h1, h.d11, h.d12, h.d13, h.d21, h.d22, h.d23, h.d31, h.d32, h.d33, h.e12, h.e13, h.e23, h.o1, h.o2, fun _ => hc, h.q1, h.q2, fun _ => ha⟩
end Go.Proofs.YtcdfckjlmifjiaaGreat
