/-
  math/bits.Mul64; the totals of package estimate, and its Times.
-/
import Derived.Test.YtejnhpjejcpekaaGreatDoorProg
import Derived.Test.YtejnhpjejcpekaaGreatDoorGaGbKpGcGdGeQaQbQcQdQgQhGfGgUnWfUuByUxUtUvUwUyUzUrUsHaHbHcHeVv
import Derived.Lib.Mul64
import Derived.Laws.Bits64b
import Derived.Deep.DeepFit
import Derived.StillTailTactics
namespace Go.Proofs.YtejnhpjejcpekaaGreatDoor
open Go.RowKit
set_option linter.unusedVariables false
set_option linter.unusedSimpArgs false
set_option maxHeartbeats 8000000
def tmf (c x : Int) : Int := min (c * max x 1) 4611686018427387904
def tms (xs : List Int) : Int := xs.foldl tmf 1
theorem tms_take (c : Int) (xs : List Int) (k : Nat) (h : k < xs.length) : (xs.take (k + 1)).foldl tmf c = tmf ((xs.take k).foldl tmf c) (gx xs k) := by
  rw [List.take_succ_eq_append_getElem h, List.foldl_append, gx_mem xs k h]
  rfl
theorem tmf_bd {c x : Int} (h0 : 1 ≤ c) : 1 ≤ tmf c x ∧ tmf c x ≤ 4611686018427387904 := by
  have h := Int.mul_le_mul h0 (Int.le_max_right x 1) (by decide) (by omega)
  unfold tmf
  omega
theorem tms_bd : ∀ (xs : List Int) (c : Int), 1 ≤ c → c ≤ 4611686018427387904 → 1 ≤ xs.foldl tmf c ∧ xs.foldl tmf c ≤ 4611686018427387904
  | [], c, h0, h1 => ⟨h0, h1⟩
  | x :: xs, c, h0, h1 => tms_bd xs (tmf c x) (tmf_bd h0).1 (tmf_bd h0).2
theorem m64_mask (a : Nat) (ha : a < 18446744073709551616) : bits .and .u64 (a : Int) 4294967295 = ((a % 4294967296 : Nat) : Int) := by
  have h := bits_and_u64_nat a 4294967295 ha (by omega)
  have e : a &&& 4294967295 = a % 4294967296 := Nat.and_two_pow_sub_one_eq_mod a 32
  rw [e] at h
  exact h
theorem m64_div (a : Nat) : (a : Int) / 4294967296 = ((a / 4294967296 : Nat) : Int) := by omega
theorem m64_mul (a b : Nat) : (a : Int) * (b : Int) = ((a * b : Nat) : Int) := (Int.natCast_mul a b).symm
theorem m64_add (a b : Nat) : (a : Int) + (b : Int) = ((a + b : Nat) : Int) := (Int.natCast_add a b).symm
theorem m64_wrap (a : Nat) (ha : a < 18446744073709551616) : IntKind.u64.wrap (a : Int) = (a : Int) := by rw [IntKind.wrap_u64]; omega
theorem m64_wrapM (a : Nat) : IntKind.u64.wrap (a : Int) = ((a % 18446744073709551616 : Nat) : Int) := by rw [IntKind.wrap_u64]; omega
set_option maxRecDepth 100000 in
theorem Mul64_any (x y : Nat) (hx : x < 18446744073709551616) (hy : y < 18446744073709551616) (w : World) :
    Calls Tryz.prog 277 #[.int .u64 x, .int .u64 y] w fun e w' => e = .returned (.tuple #[.int .u64 ((x * y / 18446744073709551616 : Nat) : Int), .int .u64 ((x * y % 18446744073709551616 : Nat) : Int)]) ∧ w' = w := by
  obtain ⟨bd, bt, bw, hhi⟩ := Lib.mul64_hi x y hx hy
  have ba := Lib.half_mul_le (a := x / 4294967296) (b := y / 4294967296) (by omega) (by omega)
  have bb := Lib.half_mul_le (a := x / 4294967296) (b := y % 4294967296) (by omega) (by omega)
  have bc := Lib.half_mul_le (a := x % 4294967296) (b := y / 4294967296) (by omega) (by omega)
  have ba' : x / 4294967296 * (y / 4294967296) < 18446744073709551616 := by omega
  have bb' : x / 4294967296 * (y % 4294967296) < 18446744073709551616 := by omega
  have bc' : x % 4294967296 * (y / 4294967296) < 18446744073709551616 := by omega
  have bh1 : x / 4294967296 * (y / 4294967296) + (x / 4294967296 * (y % 4294967296) + x % 4294967296 * (y % 4294967296) / 4294967296) / 4294967296 < 18446744073709551616 := by omega
  have bh : x / 4294967296 * (y / 4294967296) + (x / 4294967296 * (y % 4294967296) + x % 4294967296 * (y % 4294967296) / 4294967296) / 4294967296 + ((x / 4294967296 * (y % 4294967296) + x % 4294967296 * (y % 4294967296) / 4294967296) % 4294967296 + x % 4294967296 * (y / 4294967296)) / 4294967296 < 18446744073709551616 := by omega
  go_enter Tryz.func277, Tryz.ntmps277
  go_wp2
  simp only [m64_mask x hx, m64_mask y hy, m64_div, m64_mul, m64_add, m64_wrap _ bd, m64_wrap _ bb', m64_wrap _ bt, m64_mask _ bt, m64_wrap _ bc', m64_wrap _ bw, m64_wrap _ ba', m64_wrap _ bh1, m64_wrap _ bh, m64_wrapM (x * y)]
  rw [hhi]
  go_ret2
  exact ⟨rfl, rfl⟩
structure TmP (r : Nat) (v : Int) (w w' : World) : Prop where
  cell : w'.cell? ⟨r, 0, none⟩ = some (.int .i64 v)
  fz : w'.frozen? ⟨r, 0, none⟩ = false
  kp : Kp r r w w'
set_option maxRecDepth 100000 in
theorem emul_any {w : World} {r : Nat} {c n : Int} (hc : w.cell? ⟨r, 0, none⟩ = some (.int .i64 c)) (hf : w.frozen? ⟨r, 0, none⟩ = false) (h0 : 0 ≤ c) (h1 : c ≤ 4611686018427387904) (h2 : 0 ≤ n) (h3 : n ≤ 9223372036854775807) :
    Calls Tryz.prog 203 #[.pointer (some ⟨r, 0, none⟩), .int .i64 n] w fun e w' => e = .returned (.tuple #[]) ∧ TmP r (min (c * n) 4611686018427387904) w w' := by
  obtain ⟨x, rfl⟩ := Int.eq_ofNat_of_zero_le h0
  obtain ⟨y, rfl⟩ := Int.eq_ofNat_of_zero_le h2
  have hm := fun w => Mul64_any x y (by omega) (by omega) w
  have e0 : x * y = 18446744073709551616 * (x * y / 18446744073709551616) + x * y % 18446744073709551616 := (Nat.div_add_mod _ _).symm
  have e1 : x * y % 18446744073709551616 < 18446744073709551616 := Nat.mod_lt _ (by decide)
  have v1 : IntKind.u64.wrap (x : Int) = x := m64_wrap x (by omega)
  have v2 : IntKind.u64.wrap (y : Int) = y := m64_wrap y (by omega)
  have HM : Hid (((x : Int) * (y : Int)) = ((x * y : Nat) : Int)) := m64_mul x y
  generalize x * y / 18446744073709551616 = H at *
  generalize x * y % 18446744073709551616 = L at *
  generalize hq : x * y = q at *
  clear hq
  have fin : ∀ v : Int, v = min ((x : Int) * (y : Int)) 4611686018427387904 → TmP r (min ((x : Int) * (y : Int)) 4611686018427387904) w (w.setCell ⟨r, 0, none⟩ (.int .i64 v)) := fun v hv => by
    subst hv
    refine ⟨?_, ?_, ?_⟩
    · simp [go_sem, hc]
    · simp [go_sem, hf]
    · exact ⟨fun i hi a b => heap_setCell_other w ⟨r, 0, none⟩ i _ a, rfl, rfl, rfl, by simp [World.setCell]⟩
  go_enter Tryz.func203, Tryz.ntmps203
  go_wp2_with fail
  refine (hm _).mono ?_
  rintro e w1 ⟨rfl, rfl⟩
  have HF : Hid (∀ v : Int, v = min ((x : Int) * (y : Int)) 4611686018427387904 → TmP r (min ((x : Int) * (y : Int)) 4611686018427387904) w1 (w1.setCell ⟨r, 0, none⟩ (.int .i64 v))) := fin
  have HE : Hid (q = 18446744073709551616 * H + L) := e0
  clear fin hm v1 v2 e0
  rcases Nat.lt_or_ge 0 H with hH | hH
  · have i1 : (0 : Int) < (H : Int) := by omega
    have hv : (4611686018427387904 : Int) = min ((x : Int) * (y : Int)) 4611686018427387904 := by have := HM.out; have := HE.out; omega
    have HV : Hid _ := HF.out _ hv
    clear hv
    go_wp2
    go_end0
    exact ⟨rfl, HV.out⟩
  · have i1 : ¬ (0 : Int) < (H : Int) := by omega
    rcases Nat.lt_or_ge 4611686018427387904 L with hL | hL
    · have i2 : (4611686018427387904 : Int) < (L : Int) := by omega
      have hv : (4611686018427387904 : Int) = min ((x : Int) * (y : Int)) 4611686018427387904 := by have := HM.out; have := HE.out; omega
      have HV : Hid _ := HF.out _ hv
      clear hv
      go_wp2
      go_end0
      exact ⟨rfl, HV.out⟩
    · have i2 : ¬ (4611686018427387904 : Int) < (L : Int) := by omega
      have v3 : wrap64 (L : Int) = L := by unfold wrap64; omega
      have hv : (L : Int) = min ((x : Int) * (y : Int)) 4611686018427387904 := by have := HM.out; have := HE.out; omega
      have HV : Hid _ := HF.out _ hv
      clear hv
      go_wp2
      go_end0
      exact ⟨rfl, HV.out⟩
set_option maxRecDepth 100000 in
theorem eraise_any {w : World} {r : Nat} {c n : Int} (hc : w.cell? ⟨r, 0, none⟩ = some (.int .i64 c)) (hf : w.frozen? ⟨r, 0, none⟩ = false) (h0 : 1 ≤ c) (h1 : c ≤ 4611686018427387904) (h3 : n ≤ 9223372036854775807) :
    Calls Tryz.prog 204 #[.pointer (some ⟨r, 0, none⟩), .int .i64 n] w fun e w' => e = .returned (.tuple #[]) ∧ TmP r (tmf c n) w w' := by
  have ht : tmf c n = min (c * max n 1) 4611686018427387904 := by unfold tmf; rfl
  rcases Int.lt_or_le n 1 with hn | hn
  · have h4 : max n 1 = 1 := by omega
    rw [h4] at ht
    have hm := emul_any (n := 1) hc hf (by omega) h1 (by omega) (by omega)
    rw [← ht] at hm
    clear ht
    have hn' : ¬ 1 ≤ n := by omega
    go_enter Tryz.func204, Tryz.ntmps204
    go_wp2_with fail
    all_goals first
      | omega
      | (go_fit hm
         rintro e w1 ⟨rfl, h⟩
         have H : Hid (TmP r (tmf c n) w w1) := h
         clear h
         go_wp2
         go_end0
         exact ⟨rfl, H.out⟩)
  · have h4 : max n 1 = n := by omega
    rw [h4] at ht
    have hm := emul_any (n := n) hc hf (by omega) h1 (by omega) (by omega)
    rw [← ht] at hm
    clear ht
    have hn' : ¬ n < 1 := by omega
    go_enter Tryz.func204, Tryz.ntmps204
    go_wp2_with fail
    all_goals first
      | omega
      | (go_fit hm
         rintro e w1 ⟨rfl, h⟩
         have H : Hid (TmP r (tmf c n) w w1) := h
         clear h
         go_wp2
         go_end0
         exact ⟨rfl, H.out⟩)
theorem Kp.comp {r : Nat} {a b c : World} (h : Kp r r a b) (k : Kp r r b c) : Kp r r a c :=
  ⟨fun i hi x y => (k.block i (Nat.lt_of_lt_of_le hi h.size) x y).trans (h.block i hi x y), k.os.trans h.os, k.tape.trans h.tape, k.output.trans h.output, Nat.le_trans h.size k.size⟩
theorem Kp.cells {r : Nat} {a b : World} (h : Kp r r a b) {x : Addr} {v : Value} (hx : x.block ≠ r) (hc : a.cell? x = some v) : b.cell? x = some v :=
  (World.cell?_of_block (h.block x.block (block_lt_of_cell hc) hx hx)).trans hc
theorem Kp.bel {r B : Nat} {w0 a b : World} (h : Kp r r a b) (hB : Below B w0 a) (h1 : B ≤ r) (h2 : B ≤ a.heap.size) : Below B w0 b :=
  ⟨h.os.trans hB.os, h.tape.trans hB.tape, h.output.trans hB.output, Nat.le_trans hB.size h.size, fun k hk => (h.block k (by omega) (by omega) (by omega)).trans (hB.block k hk)⟩
set_option maxRecDepth 100000 in
theorem eeach_any {w : World} {p : Option Addr} {n nc r : Nat} {xs : List Int} (hl : xs.length = n) (hX : Rd w p .i64 xs) (hn : n ≤ 1000000) (hx : ∀ j, j < n → gx xs j ≤ 9223372036854775807) (hr : ∀ a, p = some a → 0 < n → a.block ≠ r)
    (hc : w.cell? ⟨r, 0, none⟩ = some (.int .i64 1)) (hf : w.frozen? ⟨r, 0, none⟩ = false) :
    Calls Tryz.prog 201 #[.slice p n nc, .func (.func 204) #[.pointer (some ⟨r, 0, none⟩)] #[]] w fun e w' => e = .returned (.tuple #[]) ∧ TmP r (tms xs) w w' := by
  have HX : Hid (xs.length = n ∧ Rd w p .i64 xs ∧ (∀ j, j < n → gx xs j ≤ 9223372036854775807) ∧ ∀ a, p = some a → 0 < n → a.block ≠ r) := ⟨hl, hX, hx, hr⟩
  have H0 : Hid (TmP r 1 w w) := ⟨hc, hf, ⟨fun _ _ _ _ => rfl, rfl, rfl, rfl, Nat.le_refl _⟩⟩
  clear hl hX hx hr hc hf
  go_enter Tryz.func201, Tryz.ntmps201
  go_wp2_with fail
  go_loopw [5, 8] (fun nv iv wr => ∃ k : Nat, k ≤ n ∧ iv = .int .i64 k ∧ Hid (TmP r (tms (xs.take k)) w wr)) (fun _ iv _ => n - (intOf iv).toNat)
  case atStart => exact ⟨0, Nat.zero_le _, by go_num, H0.out⟩
  case round =>
    obtain ⟨k, hk, rfl, H⟩ := hrel
    obtain ⟨hl, hX, hx, hr⟩ := HX.out
    rcases Nat.lt_or_ge k n with hlt | hge
    · obtain ⟨b, o, hp, hc⟩ := hX (by omega)
      subst hp
      have c0 := H.out.kp.cells (x := ⟨b, o + k, none⟩) (hr ⟨b, o, none⟩ rfl (by omega)) (hc k (by omega))
      obtain ⟨d1, d2⟩ := tms_bd (xs.take k) 1 (by decide) (by decide)
      have hm := eraise_any H.out.cell H.out.fz d1 d2 (hx k hlt)
      have HT : Hid (tms (xs.take (k + 1)) = tmf (tms (xs.take k)) (gx xs k)) := tms_take 1 xs k (by omega)
      have i1 : (k : Int) < (n : Int) := by omega
      clear hl hX hx hr hc d1 d2
      go_wp2_with fail
      refine hm.mono ?_
      rintro e w1 ⟨rfl, h⟩
      have H1 : Hid (TmP r (tms (xs.take (k + 1))) w w1) := ⟨by rw [HT.out]; exact h.cell, h.fz, H.out.kp.comp h.kp⟩
      clear h hm c0
      go_wp2_with fail
      refine ⟨⟨k + 1, by omega, by go_num, H1.out⟩, by simp [intOf]; omega⟩
    · obtain rfl : k = n := by omega
      have HE : Hid (TmP r (tms xs) w wr) := by have h := H.out; rw [List.take_of_length_le (by omega)] at h; exact h
      have i1 : ¬ (k : Int) < (k : Int) := by omega
      clear hX hx hl hr
      go_wp2
      go_end0
      exact ⟨rfl, HE.out⟩
set_option maxRecDepth 100000 in
theorem eTimes_any {w : World} {p : Option Addr} {n nc : Nat} {xs : List Int} (hl : xs.length = n) (hX : Rd w p .i64 xs) (hn : n ≤ 1000000) (hx : ∀ j, j < n → gx xs j ≤ 9223372036854775807) :
    Calls Tryz.prog 127 #[.slice p n nc] w fun e w' => e = .returned (.int .i64 (tms xs)) ∧ Below w.heap.size w w' := by
  have hp : ∀ a, p = some a → 0 < n → a.block < w.heap.size := fun a ha h0 => by
    obtain ⟨b, o, e, hlt⟩ := hX.lt (by omega)
    rw [e] at ha
    cases ha
    exact hlt
  have HX : Hid (xs.length = n ∧ Rd w p .i64 xs ∧ (∀ j, j < n → gx xs j ≤ 9223372036854775807) ∧ ∀ a, p = some a → 0 < n → a.block < w.heap.size) := ⟨hl, hX, hx, hp⟩
  clear hl hX hx hp
  go_enter Tryz.func127, Tryz.ntmps127
  go_wp2_with fail
  obtain ⟨hl, hX, hx, hp⟩ := HX.out
  have hb0 : Below w.heap.size w (w.alloc (.cells #[.int .i64 1] 225)) := (Below.refl _ _).alloc (Nat.le_refl _) _
  refine (eeach_any (xs := xs) hl (hX.below hb0) hn hx (fun a ha h0 => Nat.ne_of_lt (hp a ha h0)) (by simp [go_sem]) (by simp [go_sem])).mono ?_
  rintro e w1 ⟨rfl, h⟩
  have c1 := h.cell
  have HB : Hid (Below w.heap.size w w1) := h.kp.bel hb0 (Nat.le_refl _) (by simp)
  clear h hb0 hl hX hx hp
  go_wp2
  go_ret
  exact ⟨rfl, HB.out⟩
theorem fold_take (f : Int → Int → Int) (c : Int) (xs : List Int) (k : Nat) (h : k < xs.length) : (xs.take (k + 1)).foldl f c = f ((xs.take k).foldl f c) (gx xs k) := by
  rw [List.take_succ_eq_append_getElem h, List.foldl_append, gx_mem xs k h]
  rfl
theorem fold_inv (f : Int → Int → Int) (P Q : Int → Prop) (hP : ∀ c x, P c → Q x → P (f c x)) : ∀ (xs : List Int) (c : Int), P c → (∀ x ∈ xs, Q x) → P (xs.foldl f c)
  | [], c, h, _ => h
  | x :: xs, c, h, hq => fold_inv f P Q hP xs (f c x) (hP c x h (hq x (by simp))) fun y hy => hq y (by simp [hy])
set_option maxRecDepth 100000 in
theorem eeach_gen {w : World} {p : Option Addr} {n nc r : Nat} {xs : List Int} {c0 : Int} (J : Nat) (hE0 : ∀ args w', Sem.run Tryz.prog (callFunc J args) w' = .ok (.enter J args) w') (f : Int → Int → Int) (P Q : Int → Prop) (hP : ∀ c x, P c → Q x → P (f c x))
    (hJ : ∀ wq c x, wq.cell? ⟨r, 0, none⟩ = some (.int .i64 c) → wq.frozen? ⟨r, 0, none⟩ = false → P c → Q x → Calls Tryz.prog J #[.pointer (some ⟨r, 0, none⟩), .int .i64 x] wq fun e w' => e = .returned (.tuple #[]) ∧ TmP r (f c x) wq w')
    (hl : xs.length = n) (hX : Rd w p .i64 xs) (hn : n ≤ 1000000) (hx : ∀ j, j < n → Q (gx xs j)) (hr : ∀ a, p = some a → 0 < n → a.block ≠ r)
    (hc : w.cell? ⟨r, 0, none⟩ = some (.int .i64 c0)) (hf : w.frozen? ⟨r, 0, none⟩ = false) (h0 : P c0) :
    Calls Tryz.prog 201 #[.slice p n nc, .func (.func J) #[.pointer (some ⟨r, 0, none⟩)] #[]] w fun e w' => e = .returned (.tuple #[]) ∧ TmP r (xs.foldl f c0) w w' := by
  have HX : Hid (xs.length = n ∧ Rd w p .i64 xs ∧ (∀ j, j < n → Q (gx xs j)) ∧ ∀ a, p = some a → 0 < n → a.block ≠ r) := ⟨hl, hX, hx, hr⟩
  have H0 : Hid (TmP r c0 w w ∧ P c0) := ⟨⟨hc, hf, ⟨fun _ _ _ _ => rfl, rfl, rfl, rfl, Nat.le_refl _⟩⟩, h0⟩
  have HJ := (show Hid _ from hJ)
  have HP := (show Hid _ from hP)
  clear hl hX hx hr hc hf hJ hP h0
  go_enter Tryz.func201, Tryz.ntmps201
  go_wp2_with fail
  go_loopw [5, 8] (fun nv iv wr => ∃ k : Nat, k ≤ n ∧ iv = .int .i64 k ∧ Hid (TmP r ((xs.take k).foldl f c0) w wr ∧ P ((xs.take k).foldl f c0))) (fun _ iv _ => n - (intOf iv).toNat)
  case atStart => exact ⟨0, Nat.zero_le _, by go_num, H0.out⟩
  case round =>
    obtain ⟨k, hk, rfl, H⟩ := hrel
    obtain ⟨hl, hX, hx, hr⟩ := HX.out
    rcases Nat.lt_or_ge k n with hlt | hge
    · obtain ⟨b, o, hp, hc⟩ := hX (by omega)
      subst hp
      have c1 := H.out.1.kp.cells (x := ⟨b, o + k, none⟩) (hr ⟨b, o, none⟩ rfl (by omega)) (hc k (by omega))
      have hm := HJ.out wr _ _ H.out.1.cell H.out.1.fz H.out.2 (hx k hlt)
      have HT : Hid ((xs.take (k + 1)).foldl f c0 = f ((xs.take k).foldl f c0) (gx xs k) ∧ P (f ((xs.take k).foldl f c0) (gx xs k))) := ⟨fold_take f c0 xs k (by omega), HP.out _ _ H.out.2 (hx k hlt)⟩
      have i1 : (k : Int) < (n : Int) := by omega
      clear hl hX hx hr hc
      go_wp2_with fail
      go_fit hm
      rintro e w1 ⟨rfl, h⟩
      have H1 : Hid (TmP r ((xs.take (k + 1)).foldl f c0) w w1 ∧ P ((xs.take (k + 1)).foldl f c0)) := ⟨⟨by rw [HT.out.1]; exact h.cell, h.fz, H.out.1.kp.comp h.kp⟩, by rw [HT.out.1]; exact HT.out.2⟩
      clear h hm c1
      go_wp2_with fail
      refine ⟨⟨k + 1, by omega, by go_num, H1.out⟩, by simp [intOf]; omega⟩
    · obtain rfl : k = n := by omega
      have HE : Hid (TmP r (xs.foldl f c0) w wr) := by have h := H.out.1; rw [List.take_of_length_le (by omega)] at h; exact h
      have i1 : ¬ (k : Int) < (k : Int) := by omega
      clear hX hx hl hr
      go_wp2
      go_end0
      exact ⟨rfl, HE.out⟩
def smf (c x : Int) : Int := min (c + x) 4611686018427387904
def sms (xs : List Int) : Int := xs.foldl smf 0
def pmf (c x : Int) : Int := min (c * x) 4611686018427387904
def pms (xs : List Int) : Int := xs.foldl pmf 1
theorem smf_bd (c x : Int) (h : 0 ≤ c ∧ c ≤ 4611686018427387904) (hx : 0 ≤ x ∧ x ≤ 9223372036854775807) : 0 ≤ smf c x ∧ smf c x ≤ 4611686018427387904 := by unfold smf; omega
theorem pmf_bd (c x : Int) (h : 0 ≤ c ∧ c ≤ 4611686018427387904) (hx : 0 ≤ x ∧ x ≤ 9223372036854775807) : 0 ≤ pmf c x ∧ pmf c x ≤ 4611686018427387904 := by
  have := Int.mul_nonneg h.1 hx.1
  unfold pmf
  omega
set_option maxRecDepth 100000 in
theorem eadd_any {w : World} {r : Nat} {c n : Int} (hc : w.cell? ⟨r, 0, none⟩ = some (.int .i64 c)) (hf : w.frozen? ⟨r, 0, none⟩ = false) (h0 : 0 ≤ c ∧ c ≤ 4611686018427387904) (h2 : 0 ≤ n ∧ n ≤ 9223372036854775807) :
    Calls Tryz.prog 202 #[.pointer (some ⟨r, 0, none⟩), .int .i64 n] w fun e w' => e = .returned (.tuple #[]) ∧ TmP r (smf c n) w w' := by
  have v1 : wrap64 (4611686018427387904 - c) = 4611686018427387904 - c := by unfold wrap64; omega
  have v2 : n ≤ 4611686018427387904 - c → wrap64 (c + n) = c + n := fun h => by unfold wrap64; omega
  have v3 : wrap64 (c + (4611686018427387904 - c)) = c + (4611686018427387904 - c) := by unfold wrap64; omega
  have fin : ∀ v : Int, v = smf c n → TmP r (smf c n) w (w.setCell ⟨r, 0, none⟩ (.int .i64 v)).drew := fun v hv => by
    subst hv
    refine ⟨?_, ?_, ?_⟩
    · simp [go_sem, hc]
    · simp [go_sem, hf]
    · exact ⟨fun i hi a b => heap_setCell_other w ⟨r, 0, none⟩ i _ a, rfl, rfl, rfl, by simp [World.setCell, World.drew]⟩
  have HF := (show Hid _ from fin)
  clear fin
  rcases Int.lt_or_le (4611686018427387904 - c) n with h | h
  · clear v2
    have h' : ¬ n ≤ 4611686018427387904 - c := by omega
    have hm : min n (4611686018427387904 - c) = 4611686018427387904 - c := by omega
    go_enter Tryz.func202, Tryz.ntmps202
    go_wp2_with fail
    go_still_tail 12, (by kernel_rfl)
    go_wp2
    all_goals first
      | omega
      | (go_end0
         exact ⟨rfl, HF.out _ (by unfold smf; omega)⟩)
  · have v4 := v2 h
    have h' : ¬ 4611686018427387904 - c < n := by omega
    have hm : min n (4611686018427387904 - c) = n := by omega
    clear v2
    go_enter Tryz.func202, Tryz.ntmps202
    go_wp2_with fail
    go_still_tail 12, (by kernel_rfl)
    go_wp2
    all_goals first
      | omega
      | (go_end0
         exact ⟨rfl, HF.out _ (by unfold smf; omega)⟩)
theorem callEadd (args : Array Value) (w' : World) : Sem.run Tryz.prog (callFunc 202 args) w' = .ok (.enter 202 args) w' := by
  have h1 : ¬ Tryz.f202.name = "runtime.NumGoroutine" := of_decide_eq_false (by kernel_rfl)
  have h2 : ¬ Tryz.f202.body = none := fun h => by cases h
  simp only [callFunc, Tryz.func202, go_sem]
  simp [h1, h2, go_sem]
theorem callEmul (args : Array Value) (w' : World) : Sem.run Tryz.prog (callFunc 203 args) w' = .ok (.enter 203 args) w' := by
  have h1 : ¬ Tryz.f203.name = "runtime.NumGoroutine" := of_decide_eq_false (by kernel_rfl)
  have h2 : ¬ Tryz.f203.body = none := fun h => by cases h
  simp only [callFunc, Tryz.func203, go_sem]
  simp [h1, h2, go_sem]
def InT (c : Int) : Prop := 0 ≤ c ∧ c ≤ 4611686018427387904
def InI (c : Int) : Prop := 0 ≤ c ∧ c ≤ 9223372036854775807
set_option maxRecDepth 100000 in
theorem eSum_any {w : World} {p : Option Addr} {n nc : Nat} {xs : List Int} (hl : xs.length = n) (hX : Rd w p .i64 xs) (hn : n ≤ 1000000) (hx : ∀ j, j < n → InI (gx xs j)) :
    Calls Tryz.prog 125 #[.slice p n nc] w fun e w' => e = .returned (.int .i64 (xs.foldl smf 0)) ∧ Below w.heap.size w w' := by
  have hp : ∀ a, p = some a → 0 < n → a.block < w.heap.size := fun a ha h0 => by
    obtain ⟨b, o, e, hlt⟩ := hX.lt (by omega)
    rw [e] at ha
    cases ha
    exact hlt
  have HX : Hid (xs.length = n ∧ Rd w p .i64 xs ∧ (∀ j, j < n → InI (gx xs j)) ∧ ∀ a, p = some a → 0 < n → a.block < w.heap.size) := ⟨hl, hX, hx, hp⟩
  clear hl hX hx hp
  go_enter Tryz.func125, Tryz.ntmps125
  go_wp2_with fail
  obtain ⟨hl, hX, hx, hp⟩ := HX.out
  have hb0 : Below w.heap.size w (w.alloc (.cells #[.int .i64 0] 225)) := (Below.refl _ _).alloc (Nat.le_refl _) _
  have hc := eeach_gen (nc := nc) (r := w.heap.size) (c0 := 0) 202 callEadd smf InT InI smf_bd (fun wq c x h1 h2 h3 h4 => eadd_any h1 h2 h3 h4) hl (hX.below hb0) hn hx (fun a ha h0 => Nat.ne_of_lt (hp a ha h0)) (by simp [go_sem]) (by simp [go_sem]) (by unfold InT; omega)
  go_fit hc
  rintro e w1 ⟨rfl, h⟩
  have c1 := h.cell
  have HB : Hid (Below w.heap.size w w1) := h.kp.bel hb0 (Nat.le_refl _) (by simp)
  clear h hb0 hl hX hx hp hc
  go_wp2
  go_ret
  exact ⟨rfl, HB.out⟩
set_option maxRecDepth 100000 in
theorem eProduct_any {w : World} {p : Option Addr} {n nc : Nat} {xs : List Int} (hl : xs.length = n) (hX : Rd w p .i64 xs) (hn : n ≤ 1000000) (hx : ∀ j, j < n → InI (gx xs j)) :
    Calls Tryz.prog 126 #[.slice p n nc] w fun e w' => e = .returned (.int .i64 (xs.foldl pmf 1)) ∧ Below w.heap.size w w' := by
  have hp : ∀ a, p = some a → 0 < n → a.block < w.heap.size := fun a ha h0 => by
    obtain ⟨b, o, e, hlt⟩ := hX.lt (by omega)
    rw [e] at ha
    cases ha
    exact hlt
  have HX : Hid (xs.length = n ∧ Rd w p .i64 xs ∧ (∀ j, j < n → InI (gx xs j)) ∧ ∀ a, p = some a → 0 < n → a.block < w.heap.size) := ⟨hl, hX, hx, hp⟩
  clear hl hX hx hp
  go_enter Tryz.func126, Tryz.ntmps126
  go_wp2_with fail
  obtain ⟨hl, hX, hx, hp⟩ := HX.out
  have hb0 : Below w.heap.size w (w.alloc (.cells #[.int .i64 1] 225)) := (Below.refl _ _).alloc (Nat.le_refl _) _
  have hc := eeach_gen (nc := nc) (r := w.heap.size) (c0 := 1) 203 callEmul pmf InT InI pmf_bd (fun wq c x h1 h2 h3 h4 => emul_any h1 h2 h3.1 h3.2 h4.1 h4.2) hl (hX.below hb0) hn hx (fun a ha h0 => Nat.ne_of_lt (hp a ha h0)) (by simp [go_sem]) (by simp [go_sem]) (by unfold InT; omega)
  go_fit hc
  rintro e w1 ⟨rfl, h⟩
  have c1 := h.cell
  have HB : Hid (Below w.heap.size w w1) := h.kp.bel hb0 (Nat.le_refl _) (by simp)
  clear h hb0 hl hX hx hp hc
  go_wp2
  go_ret
  exact ⟨rfl, HB.out⟩
end Go.Proofs.YtejnhpjejcpekaaGreatDoor
