/-
  Package estimate: Sum, Product.
-/
import Derived.Test.YtcdfckjlmifjiaaGreatMmKpOr
import Derived.Deep.DeepFit
import Derived.StillTailTactics
import Derived.Test.YtcdfckjlmifjiaaGreatProg
namespace Go.Proofs.YtcdfckjlmifjiaaGreat
open Go.RowKit
set_option linter.unusedVariables false
set_option linter.unusedSimpArgs false

theorem fold_take (f : Int → Int → Int) (c : Int) (xs : List Int) (k : Nat) (h : k < xs.length) : (xs.take (k + 1)).foldl f c = f ((xs.take k).foldl f c) (gx xs k) := by
  rw [List.take_succ_eq_append_getElem h, List.foldl_append, gx_mem xs k h]
  rfl
theorem fold_inv (f : Int → Int → Int) (P Q : Int → Prop) (hP : ∀ c x, P c → Q x → P (f c x)) : ∀ (xs : List Int) (c : Int), P c → (∀ x ∈ xs, Q x) → P (xs.foldl f c)
  | [], c, h, _ => h
  | x :: xs, c, h, hq => fold_inv f P Q hP xs (f c x) (hP c x h (hq x (by simp))) fun y hy => hq y (by simp [hy])
set_option maxHeartbeats 1000000 in
set_option maxRecDepth 100000 in
/-- each, with a method of a total. -/
theorem eeach_gen {w : World} {p : Option Addr} {n nc r : Nat} {xs : List Int} {c0 : Int} (J : Nat) (hE0 : ∀ args w', Sem.run Tryz.prog (callFunc J args) w' = .ok (.enter J args) w') (f : Int → Int → Int) (P Q : Int → Prop) (hP : ∀ c x, P c → Q x → P (f c x))
    (hJ : ∀ wq c x, wq.cell? ⟨r, 0, none⟩ = some (.int .i64 c) → wq.frozen? ⟨r, 0, none⟩ = false → P c → Q x → Calls Tryz.prog J #[.pointer (some ⟨r, 0, none⟩), .int .i64 x] wq fun e w' => e = .returned (.tuple #[]) ∧ TmP r (f c x) wq w')
    (hl : xs.length = n) (hX : Rd w p .i64 xs) (hn : n ≤ 1000000) (hx : ∀ j, j < n → Q (gx xs j)) (hr : ∀ a, p = some a → 0 < n → a.block ≠ r)
    (hc : w.cell? ⟨r, 0, none⟩ = some (.int .i64 c0)) (hf : w.frozen? ⟨r, 0, none⟩ = false) (h0 : P c0) :
    Calls Tryz.prog 70 #[.slice p n nc, .func (.func J) #[.pointer (some ⟨r, 0, none⟩)] #[]] w fun e w' => e = .returned (.tuple #[]) ∧ TmP r (xs.foldl f c0) w w' := by
  have HX : Hid (xs.length = n ∧ Rd w p .i64 xs ∧ (∀ j, j < n → Q (gx xs j)) ∧ ∀ a, p = some a → 0 < n → a.block ≠ r) := ⟨hl, hX, hx, hr⟩
  have H0 : Hid (TmP r c0 w w ∧ P c0) := ⟨⟨hc, hf, ⟨fun _ _ _ _ => rfl, rfl, rfl, rfl, Nat.le_refl _⟩⟩, h0⟩
  have HJ := (show Hid _ from hJ)
  have HP := (show Hid _ from hP)
  clear hl hX hx hr hc hf hJ hP h0
  go_enter Tryz.func70, Tryz.ntmps70
  go_wp2_with fail
  go_loopw [5, 8] (fun nv iv wr => ∃ k : Nat, k ≤ n ∧ iv = .int .i64 k ∧ Hid (TmP r ((xs.take k).foldl f c0) w wr ∧ P ((xs.take k).foldl f c0))) (fun _ iv _ => n - (intOf iv).toNat)
  case atStart => exact ⟨0, Nat.zero_le _, by go_num, H0.out⟩
  case round =>
    obtain ⟨k, hk, rfl, H⟩ := hrel
    obtain ⟨hl, hX, hx, hr⟩ := HX.out
    rcases Nat.lt_or_ge k n with hlt | hge
    · obtain ⟨b, o, hp, hc⟩ := hX (by omega)
      subst hp
      have c1 := H.out.1.kp.cells (x := ⟨b, o + k, none⟩) (hr ⟨b, o, none⟩ rfl (by omega)) (hc k (by omega))
      have hm := HJ.out wr _ _ H.out.1.cell H.out.1.fz H.out.2 (hx k hlt)
      have HT : Hid ((xs.take (k + 1)).foldl f c0 = f ((xs.take k).foldl f c0) (gx xs k) ∧ P (f ((xs.take k).foldl f c0) (gx xs k))) := ⟨fold_take f c0 xs k (by omega), HP.out _ _ H.out.2 (hx k hlt)⟩
      have i1 : (k : Int) < (n : Int) := by omega
      clear hl hX hx hr hc
      go_wp2_with fail
      go_fit hm
      rintro e w1 ⟨rfl, h⟩
      have H1 : Hid (TmP r ((xs.take (k + 1)).foldl f c0) w w1 ∧ P ((xs.take (k + 1)).foldl f c0)) := ⟨⟨by rw [HT.out.1]; exact h.cell, h.fz, H.out.1.kp.comp h.kp⟩, by rw [HT.out.1]; exact HT.out.2⟩
      clear h hm c1
      go_wp2_with fail
      refine ⟨⟨k + 1, by omega, by go_num, H1.out⟩, by simp [intOf]; omega⟩
    · obtain rfl : k = n := by omega
      have HE : Hid (TmP r (xs.foldl f c0) w wr) := by have h := H.out.1; rw [List.take_of_length_le (by omega)] at h; exact h
      have i1 : ¬ (k : Int) < (k : Int) := by omega
      clear hX hx hl hr
      go_wp2
      go_end0
      exact ⟨rfl, HE.out⟩
/-- A sum that stops at the top. -/
def smf (c x : Int) : Int := min (c + x) 4611686018427387904
def sms (xs : List Int) : Int := xs.foldl smf 0
/-- A product that stops at the top. -/
def pmf (c x : Int) : Int := min (c * x) 4611686018427387904
def pms (xs : List Int) : Int := xs.foldl pmf 1
theorem smf_bd (c x : Int) (h : 0 ≤ c ∧ c ≤ 4611686018427387904) (hx : 0 ≤ x ∧ x ≤ 9223372036854775807) : 0 ≤ smf c x ∧ smf c x ≤ 4611686018427387904 := by unfold smf; omega
theorem pmf_bd (c x : Int) (h : 0 ≤ c ∧ c ≤ 4611686018427387904) (hx : 0 ≤ x ∧ x ≤ 9223372036854775807) : 0 ≤ pmf c x ∧ pmf c x ≤ 4611686018427387904 := by
  have := Int.mul_nonneg h.1 hx.1
  unfold pmf
  omega
set_option maxHeartbeats 1000000 in
set_option maxRecDepth 100000 in
/-- (total).add. -/
theorem eadd_any {w : World} {r : Nat} {c n : Int} (hc : w.cell? ⟨r, 0, none⟩ = some (.int .i64 c)) (hf : w.frozen? ⟨r, 0, none⟩ = false) (h0 : 0 ≤ c ∧ c ≤ 4611686018427387904) (h2 : 0 ≤ n ∧ n ≤ 9223372036854775807) :
    Calls Tryz.prog 75 #[.pointer (some ⟨r, 0, none⟩), .int .i64 n] w fun e w' => e = .returned (.tuple #[]) ∧ TmP r (smf c n) w w' := by
  have v1 : wrap64 (4611686018427387904 - c) = 4611686018427387904 - c := by unfold wrap64; omega
  have v2 : n ≤ 4611686018427387904 - c → wrap64 (c + n) = c + n := fun h => by unfold wrap64; omega
  have v3 : wrap64 (c + (4611686018427387904 - c)) = c + (4611686018427387904 - c) := by unfold wrap64; omega
  have fin : ∀ v : Int, v = smf c n → TmP r (smf c n) w (w.setCell ⟨r, 0, none⟩ (.int .i64 v)).drew := fun v hv => by
    subst hv
    refine ⟨?_, ?_, ?_⟩
    · simp [go_sem, hc]
    · simp [go_sem, hf]
    · exact ⟨fun i hi a b => heap_setCell_other w ⟨r, 0, none⟩ i _ a, rfl, rfl, rfl, by simp [World.setCell, World.drew]⟩
  have HF := (show Hid _ from fin)
  clear fin
  rcases Int.lt_or_le (4611686018427387904 - c) n with h | h
  · clear v2
    have h' : ¬ n ≤ 4611686018427387904 - c := by omega
    have hm : min n (4611686018427387904 - c) = 4611686018427387904 - c := by omega
    go_enter Tryz.func75, Tryz.ntmps75
    go_wp2_with fail
    go_still_tail 12, (by kernel_rfl)
    go_wp2
    all_goals first
      | omega
      | (go_end0
         exact ⟨rfl, HF.out _ (by unfold smf; omega)⟩)
  · have v4 := v2 h
    have h' : ¬ 4611686018427387904 - c < n := by omega
    have hm : min n (4611686018427387904 - c) = n := by omega
    clear v2
    go_enter Tryz.func75, Tryz.ntmps75
    go_wp2_with fail
    go_still_tail 12, (by kernel_rfl)
    go_wp2
    all_goals first
      | omega
      | (go_end0
         exact ⟨rfl, HF.out _ (by unfold smf; omega)⟩)
theorem callEadd (args : Array Value) (w' : World) : Sem.run Tryz.prog (callFunc 75 args) w' = .ok (.enter 75 args) w' := by
  have h1 : ¬ Tryz.f75.name = "runtime.NumGoroutine" := of_decide_eq_false (by kernel_rfl)
  have h2 : ¬ Tryz.f75.body = none := fun h => by cases h
  simp only [callFunc, Tryz.func75, go_sem]
  simp [h1, h2, go_sem]
theorem callEmul (args : Array Value) (w' : World) : Sem.run Tryz.prog (callFunc 76 args) w' = .ok (.enter 76 args) w' := by
  have h1 : ¬ Tryz.f76.name = "runtime.NumGoroutine" := of_decide_eq_false (by kernel_rfl)
  have h2 : ¬ Tryz.f76.body = none := fun h => by cases h
  simp only [callFunc, Tryz.func76, go_sem]
  simp [h1, h2, go_sem]
def InT (c : Int) : Prop := 0 ≤ c ∧ c ≤ 4611686018427387904
def InI (c : Int) : Prop := 0 ≤ c ∧ c ≤ 9223372036854775807
set_option maxHeartbeats 1000000 in
set_option maxRecDepth 100000 in
/-- estimate.Sum. -/
theorem eSum_any {w : World} {p : Option Addr} {n nc : Nat} {xs : List Int} (hl : xs.length = n) (hX : Rd w p .i64 xs) (hn : n ≤ 1000000) (hx : ∀ j, j < n → InI (gx xs j)) :
    Calls Tryz.prog 53 #[.slice p n nc] w fun e w' => e = .returned (.int .i64 (xs.foldl smf 0)) ∧ Below w.heap.size w w' := by
  have hp : ∀ a, p = some a → 0 < n → a.block < w.heap.size := fun a ha h0 => by
    obtain ⟨b, o, e, hlt⟩ := hX.lt (by omega)
    rw [e] at ha
    cases ha
    exact hlt
  have HX : Hid (xs.length = n ∧ Rd w p .i64 xs ∧ (∀ j, j < n → InI (gx xs j)) ∧ ∀ a, p = some a → 0 < n → a.block < w.heap.size) := ⟨hl, hX, hx, hp⟩
  clear hl hX hx hp
  go_enter Tryz.func53, Tryz.ntmps53
  go_wp2_with fail
  obtain ⟨hl, hX, hx, hp⟩ := HX.out
  have hb0 : Below w.heap.size w (w.alloc (.cells #[.int .i64 0] 102)) := (Below.refl _ _).alloc (Nat.le_refl _) _
  have hc := eeach_gen (nc := nc) (r := w.heap.size) (c0 := 0) 75 callEadd smf InT InI smf_bd (fun wq c x h1 h2 h3 h4 => eadd_any h1 h2 h3 h4) hl (hX.below hb0) hn hx (fun a ha h0 => Nat.ne_of_lt (hp a ha h0)) (by simp [go_sem]) (by simp [go_sem]) (by unfold InT; omega)
  go_fit hc
  rintro e w1 ⟨rfl, h⟩
  have c1 := h.cell
  have HB : Hid (Below w.heap.size w w1) := h.kp.bel hb0 (Nat.le_refl _) (by simp)
  clear h hb0 hl hX hx hp hc
  go_wp2
  go_ret
  exact ⟨rfl, HB.out⟩
set_option maxHeartbeats 1000000 in
set_option maxRecDepth 100000 in
/-- estimate.Product. -/
theorem eProduct_any {w : World} {p : Option Addr} {n nc : Nat} {xs : List Int} (hl : xs.length = n) (hX : Rd w p .i64 xs) (hn : n ≤ 1000000) (hx : ∀ j, j < n → InI (gx xs j)) :
    Calls Tryz.prog 54 #[.slice p n nc] w fun e w' => e = .returned (.int .i64 (xs.foldl pmf 1)) ∧ Below w.heap.size w w' := by
  have hp : ∀ a, p = some a → 0 < n → a.block < w.heap.size := fun a ha h0 => by
    obtain ⟨b, o, e, hlt⟩ := hX.lt (by omega)
    rw [e] at ha
    cases ha
    exact hlt
  have HX : Hid (xs.length = n ∧ Rd w p .i64 xs ∧ (∀ j, j < n → InI (gx xs j)) ∧ ∀ a, p = some a → 0 < n → a.block < w.heap.size) := ⟨hl, hX, hx, hp⟩
  clear hl hX hx hp
  go_enter Tryz.func54, Tryz.ntmps54
  go_wp2_with fail
  obtain ⟨hl, hX, hx, hp⟩ := HX.out
  have hb0 : Below w.heap.size w (w.alloc (.cells #[.int .i64 1] 102)) := (Below.refl _ _).alloc (Nat.le_refl _) _
  have hc := eeach_gen (nc := nc) (r := w.heap.size) (c0 := 1) 76 callEmul pmf InT InI pmf_bd (fun wq c x h1 h2 h3 h4 => emul_any h1 h2 h3.1 h3.2 h4.1 h4.2) hl (hX.below hb0) hn hx (fun a ha h0 => Nat.ne_of_lt (hp a ha h0)) (by simp [go_sem]) (by simp [go_sem]) (by unfold InT; omega)
  go_fit hc
  rintro e w1 ⟨rfl, h⟩
  have c1 := h.cell
  have HB : Hid (Below w.heap.size w w1) := h.kp.bel hb0 (Nat.le_refl _) (by simp)
  clear h hb0 hl hX hx hp hc
  go_wp2
  go_ret
  exact ⟨rfl, HB.out⟩
end Go.Proofs.YtcdfckjlmifjiaaGreat
/-
  The contracts of the small functions of limbs, read off the program by walking it.
-/
namespace Go.Proofs.YtcdfckjlmifjiaaGreat
open Go.RowKit
set_option linter.unusedVariables false
set_option linter.unusedSimpArgs false

set_option maxHeartbeats 400000 in
/-- limbs.trim: the same memory, without the highest limbs that are 0. -/
theorem trim_any (p : Option Addr) (len cap : Nat) (xs : List Int) (w : World) (hl : xs.length = len) (hc : len ≤ cap) (hm : cap ≤ maxLen) (hx : Rd w p .u32 xs) :
    Calls Tryz.prog 68 #[.slice p len cap] w fun e w' => e = .returned (.slice p (tlen xs) cap) ∧ w = w' := by
  unfold maxLen at hm
  go_enter Tryz.func68, Tryz.ntmps68
  go_wp2
  go_loop [3] (fun n => ∃ k : Nat, k ≤ len ∧ n = .int .i64 k ∧ Hid (∀ j, k ≤ j → gx xs j = 0)) (fun n => (intOf n).toNat)
  case atStart => exact ⟨len, Nat.le_refl _, rfl, gx_past xs len (by omega)⟩
  case round =>
    obtain ⟨k, hk, rfl, hz⟩ := hrel
    by_cases h0 : k = 0
    · subst h0
      go_wp2
      go_ret
      rw [tlen_eq xs 0 hz.out (.inl rfl)]
      exact ⟨rfl, rfl⟩
    · obtain ⟨m, rfl⟩ : ∃ m, k = m + 1 := ⟨k - 1, by omega⟩
      obtain ⟨b, off, rfl, hcell⟩ := hx (by omega)
      have hcm := hcell m (by omega)
      clear hcell
      by_cases h1 : gx xs m = 0
      · have h2 : (gx xs m == 0) = true := by simp only [h1]; rfl
        go_wp2
        go_round
        case rel => exact ⟨m, by omega, by go_num, fun j hj => by
          rcases Nat.lt_or_ge m j with h | h
          · exact hz.out j h
          · have : j = m := by omega
            subst this; exact h1⟩
        case measure => simp [intOf]
      · have h2 : (gx xs m == 0) = false := by simpa using h1
        go_wp2
        go_ret
        rw [tlen_eq xs (m + 1) hz.out (.inr h1)]
        exact ⟨rfl, rfl⟩
set_option maxHeartbeats 1000000 in
/-- limbs.addTo: x is added to z in the memory of z; what does not fit is told. -/
theorem addTo_any (g o n cap : Nat) (Z : List Int) (q : Option Addr) (m mc : Nat) (xs : List Int) (w : World)
    (hz : o + n ≤ Z.length) (hcap : cap ≤ 1099511627776) (hn : n ≤ cap) (hR : Row w g 100 .u32 Z) (hU : U32 Z) (hx : xs.length = m) (hm : m ≤ n)
    (hX : Rd w q .u32 xs) (hXu : U32 xs) (hoff : 0 < m → Off g q) :
    Calls Tryz.prog 121 #[.slice (some ⟨g, o, none⟩) n cap, .slice q m mc] w fun e w' => ∃ c new, e = .returned (.int .u32 c) ∧ new.length = n ∧ U32 new ∧ 0 ≤ c ∧ c ≤ 1 ∧
      val new + pw n * c = val ((Z.drop o).take n) + val xs ∧ Row w' g 100 .u32 (Z.take o ++ new ++ Z.drop (o + n)) ∧ w.grownBy w' (some g) := by
  go_enter Tryz.func121, Tryz.ntmps121
  go_wp2
  go_loopw [5, 12] (fun cv iv wr => ∃ (k : Nat) (c : Int) (new : List Int), k ≤ m ∧ iv = .int .i64 k ∧ cv = .int .u64 c ∧ 0 ≤ c ∧ c ≤ 1 ∧ Hid (new.length = k ∧ U32 new ∧ val new + pw k * c = val ((Z.drop o).take k) + val (xs.take k) ∧ Row wr g 100 .u32 (Z.take o ++ new ++ Z.drop (o + new.length)) ∧ w.grownBy wr (some g)))
    (fun _ iv _ => m - (intOf iv).toNat)
  case atStart => exact ⟨0, 0, [], Nat.zero_le _, rfl, rfl, by decide, by decide, rfl, u32_nil, by simp [val], by rw [row_zero]; exact hR, grownBy_refl _ _⟩
  case round =>
    obtain ⟨k, c, new, hk, rfl, rfl, hc0, hc1, H⟩ := hrel
    by_cases hlt : k < m
    · obtain ⟨hl, hu, hv, hr, hg⟩ := H.out
      obtain ⟨b, off, rfl, hcell⟩ := (hX.keptOff hg (hoff (by omega))) (by omega)
      have hcx := hcell k (by omega)
      have hcz := hr.at (j := o + k) (by omega) (by omega) (by omega)
      have hfz := hr.frozen (o + k)
      have bx := hXu k
      have bz := hU (o + k)
      obtain ⟨bx0, bx1⟩ := bx
      obtain ⟨bz0, bz1⟩ := bz
      clear hl hu hv hr hg hcell
      go_wp2
      refine ⟨⟨k + 1, _, new ++ [(gx Z (o + k) + gx xs k + c) % 4294967296], by omega, by go_num, rfl, by omega, by omega, ?_⟩, by simp [intOf]; omega⟩
      obtain ⟨rfl, hu, hv, hr, hg⟩ := H.out
      refine ⟨by simp, u32_append hu (u32_one (by omega)), ?_, ?_, grownBy_setCell hg _ _⟩
      · rw [val_append, val_one, val_take_succ _ _ (by simp; omega), val_take_succ _ _ (by omega), gx_drop, pw_succ]
        have e := cut_step (pw new.length) (gx Z (o + new.length) + gx xs new.length + c)
        simp only [Int.mul_add] at e
        simp only [Int.mul_assoc] at e ⊢
        omega
      · exact hr.step (by omega) _
    · have hkm : k = m := by omega
      subst hkm
      go_wp2
      go_loopw [5, 9] (fun cv iv wr => ∃ (k : Nat) (c : Int) (new : List Int), k ≤ n ∧ iv = .int .i64 k ∧ cv = .int .u64 c ∧ 0 ≤ c ∧ c ≤ 1 ∧ Hid (new.length = k ∧ U32 new ∧ val new + pw k * c = val ((Z.drop o).take k) + val xs ∧ Row wr g 100 .u32 (Z.take o ++ new ++ Z.drop (o + new.length)) ∧ w.grownBy wr (some g)))
        (fun _ iv _ => n - (intOf iv).toNat)
      case atStart =>
        refine ⟨k, c, new, hm, rfl, rfl, hc0, hc1, ?_⟩
        have h := H.out
        rw [List.take_of_length_le (l := xs) (by omega)] at h
        exact h
      case round =>
        clear H hc0 hc1
        obtain ⟨j, c, new, hj, rfl, rfl, hc0, hc1, H⟩ := hrel
        by_cases hjn : j < n
        · by_cases hcz : c = 0
          · subst hcz
            go_wp2
            go_ret
            obtain ⟨hl, hu, hv, hr, hg⟩ := H.out
            refine ⟨0, new ++ ((Z.drop o).take n).drop new.length, rfl, ?_, u32_append hu (u32_drop (part_u32 hU o n) _), by decide, by decide, ?_, ?_, hg⟩
            · have := part_length Z o n hz
              simp at this ⊢; omega
            · rw [val_append, val_drop_take ((Z.drop o).take n) new.length (by rw [part_length Z o n hz]; omega), List.take_take, Nat.min_eq_left (by omega), hl]
              simp only [Int.mul_zero] at hv ⊢
              omega
            · rw [← row_rest Z new o n hz (by omega)]
              exact hr
          · have hc1' : c = 1 := by omega
            subst hc1'
            obtain ⟨hl, hu, hv, hr, hg⟩ := H.out
            have hcz := hr.at (j := o + j) (by omega) (by omega) (by omega)
            have hfz := hr.frozen (o + j)
            obtain ⟨bz0, bz1⟩ := hU (o + j)
            clear hl hu hv hr hg
            go_wp2
            · have hne : ((gx Z (o + j) + 1) % 4294967296 != 0) = true := by assumption
              obtain ⟨rfl, hu, hv, hr, hg⟩ := H.out
              refine ⟨⟨new.length + 1, 0, new ++ [(gx Z (o + new.length) + 1) % 4294967296], by omega, by go_num, rfl, by decide, by decide, by simp, u32_append hu (u32_one (by omega)), ?_, hr.step (by omega) _, grownBy_setCell hg _ _⟩, by simp [intOf]; omega⟩
              rw [val_append, val_one, val_take_succ _ _ (by simp; omega), gx_drop, pw_succ]
              simp at hne
              rw [show (gx Z (o + new.length) + 1) % 4294967296 = gx Z (o + new.length) + 1 by omega]
              simp only [Int.mul_add, Int.mul_zero, Int.mul_one] at hv ⊢
              omega
            · have hne : ((gx Z (o + j) + 1) % 4294967296 != 0) = false := by assumption
              obtain ⟨rfl, hu, hv, hr, hg⟩ := H.out
              refine ⟨⟨new.length + 1, 1, new ++ [(gx Z (o + new.length) + 1) % 4294967296], by omega, by go_num, rfl, by decide, by decide, by simp, u32_append hu (u32_one (by omega)), ?_, hr.step (by omega) _, grownBy_setCell hg _ _⟩, by simp [intOf]; omega⟩
              rw [val_append, val_one, val_take_succ _ _ (by simp; omega), gx_drop, pw_succ]
              simp at hne
              rw [show gx Z (o + new.length) = 4294967295 by omega]
              simp only [Int.mul_one] at hv ⊢
              omega
        · have hjn' : j = n := by omega
          subst hjn'
          go_wp2
          go_ret
          obtain ⟨hl, hu, hv, hr, hg⟩ := H.out
          exact ⟨c, new, rfl, hl, hu, hc0, hc1, hv, hl ▸ hr, hg⟩
end Go.Proofs.YtcdfckjlmifjiaaGreat
/-
  limbs.takeFrom.
-/
namespace Go.Proofs.YtcdfckjlmifjiaaGreat
open Go.RowKit
set_option linter.unusedVariables false
set_option linter.unusedSimpArgs false

set_option maxHeartbeats 1000000 in
theorem takeFrom_any (g o n cap : Nat) (Z : List Int) (q : Option Addr) (m mc : Nat) (xs : List Int) (w : World)
    (hz : o + n ≤ Z.length) (hcap : cap ≤ 1099511627776) (hn : n ≤ cap) (hR : Row w g 100 .u32 Z) (hU : U32 Z) (hx : xs.length = m) (hm : m ≤ n)
    (hX : Rd w q .u32 xs) (hXu : U32 xs) (hoff : 0 < m → Off g q) :
    Calls Tryz.prog 122 #[.slice (some ⟨g, o, none⟩) n cap, .slice q m mc] w fun e w' => ∃ c new, e = .returned (.int .u32 c) ∧ new.length = n ∧ U32 new ∧ 0 ≤ c ∧ c ≤ 1 ∧
      val new + val xs = val ((Z.drop o).take n) + pw n * c ∧ Row w' g 100 .u32 (Z.take o ++ new ++ Z.drop (o + n)) ∧ w.grownBy w' (some g) := by
  go_enter Tryz.func122, Tryz.ntmps122
  go_wp2
  go_loopw [5, 12] (fun cv iv wr => ∃ (k : Nat) (c : Int) (new : List Int), k ≤ m ∧ iv = .int .i64 k ∧ cv = .int .u64 c ∧ 0 ≤ c ∧ c ≤ 1 ∧ Hid (new.length = k ∧ U32 new ∧ val new + val (xs.take k) = val ((Z.drop o).take k) + pw k * c ∧ Row wr g 100 .u32 (Z.take o ++ new ++ Z.drop (o + new.length)) ∧ w.grownBy wr (some g)))
    (fun _ iv _ => m - (intOf iv).toNat)
  case atStart => exact ⟨0, 0, [], Nat.zero_le _, rfl, rfl, by decide, by decide, rfl, u32_nil, by simp [val], by rw [row_zero]; exact hR, grownBy_refl _ _⟩
  case round =>
    obtain ⟨k, c, new, hk, rfl, rfl, hc0, hc1, H⟩ := hrel
    by_cases hlt : k < m
    · obtain ⟨hl, hu, hv, hr, hg⟩ := H.out
      obtain ⟨b, off, rfl, hcell⟩ := (hX.keptOff hg (hoff (by omega))) (by omega)
      have hcx := hcell k (by omega)
      have hcz := hr.at (j := o + k) (by omega) (by omega) (by omega)
      have hfz := hr.frozen (o + k)
      have bx := hXu k
      have bz := hU (o + k)
      obtain ⟨bx0, bx1⟩ := bx
      obtain ⟨bz0, bz1⟩ := bz
      clear hl hu hv hr hg hcell
      go_wp2
      rw [borrow_hi _ _ _ bz0 bz1 bx0 bx1 hc0 hc1, borrow_lo _ _ _ bz0 bz1 bx0 bx1 hc0 hc1]
      refine ⟨⟨k + 1, _, new ++ [(gx Z (o + k) - gx xs k - c) % 4294967296], by omega, by go_num, rfl, by omega, by omega, ?_⟩, by simp [intOf]; omega⟩
      obtain ⟨rfl, hu, hv, hr, hg⟩ := H.out
      refine ⟨by simp, u32_append hu (u32_one (by omega)), ?_, ?_, grownBy_setCell hg _ _⟩
      · rw [val_append, val_one, val_take_succ xs _ (by omega), val_take_succ _ _ (by simp; omega), gx_drop, pw_succ]
        have e := cut_step (pw new.length) (gx Z (o + new.length) - gx xs new.length - c)
        simp only [Int.mul_sub] at e
        simp only [Int.mul_assoc, Int.mul_neg] at e ⊢
        omega
      · exact hr.step (by omega) _
    · have hkm : k = m := by omega
      subst hkm
      go_wp2
      go_loopw [5, 9] (fun cv iv wr => ∃ (k : Nat) (c : Int) (new : List Int), k ≤ n ∧ iv = .int .i64 k ∧ cv = .int .u64 c ∧ 0 ≤ c ∧ c ≤ 1 ∧ Hid (new.length = k ∧ U32 new ∧ val new + val xs = val ((Z.drop o).take k) + pw k * c ∧ Row wr g 100 .u32 (Z.take o ++ new ++ Z.drop (o + new.length)) ∧ w.grownBy wr (some g)))
        (fun _ iv _ => n - (intOf iv).toNat)
      case atStart =>
        refine ⟨k, c, new, hm, rfl, rfl, hc0, hc1, ?_⟩
        have h := H.out
        rw [List.take_of_length_le (l := xs) (by omega)] at h
        exact h
      case round =>
        clear H hc0 hc1
        obtain ⟨j, c, new, hj, rfl, rfl, hc0, hc1, H⟩ := hrel
        by_cases hjn : j < n
        · by_cases hcz : c = 0
          · subst hcz
            go_wp2
            go_ret
            obtain ⟨hl, hu, hv, hr, hg⟩ := H.out
            refine ⟨0, new ++ ((Z.drop o).take n).drop new.length, rfl, ?_, u32_append hu (u32_drop (part_u32 hU o n) _), by decide, by decide, ?_, ?_, hg⟩
            · have := part_length Z o n hz
              simp at this ⊢; omega
            · rw [val_append, val_drop_take ((Z.drop o).take n) new.length (by rw [part_length Z o n hz]; omega), List.take_take, Nat.min_eq_left (by omega), hl]
              simp only [Int.mul_zero] at hv ⊢
              omega
            · rw [← row_rest Z new o n hz (by omega)]
              exact hr
          · have hc1' : c = 1 := by omega
            subst hc1'
            obtain ⟨hl, hu, hv, hr, hg⟩ := H.out
            have hcz := hr.at (j := o + j) (by omega) (by omega) (by omega)
            have hfz := hr.frozen (o + j)
            obtain ⟨bz0, bz1⟩ := hU (o + j)
            clear hl hu hv hr hg
            go_wp2
            · have hne : (gx Z (o + j) != 0) = true := by assumption
              obtain ⟨rfl, hu, hv, hr, hg⟩ := H.out
              refine ⟨⟨new.length + 1, 0, new ++ [(gx Z (o + new.length) - 1) % 4294967296], by omega, by go_num, rfl, by decide, by decide, by simp, u32_append hu (u32_one (by omega)), ?_, hr.step (by omega) _, grownBy_setCell hg _ _⟩, by simp [intOf]; omega⟩
              rw [val_append, val_one, val_take_succ _ _ (by simp; omega), gx_drop, pw_succ]
              simp at hne
              rw [show (gx Z (o + new.length) - 1) % 4294967296 = gx Z (o + new.length) - 1 by omega]
              simp only [Int.mul_sub, Int.mul_zero, Int.mul_one] at hv ⊢
              omega
            · have hne : (gx Z (o + j) != 0) = false := by assumption
              obtain ⟨rfl, hu, hv, hr, hg⟩ := H.out
              refine ⟨⟨new.length + 1, 1, new ++ [(gx Z (o + new.length) - 1) % 4294967296], by omega, by go_num, rfl, by decide, by decide, by simp, u32_append hu (u32_one (by omega)), ?_, hr.step (by omega) _, grownBy_setCell hg _ _⟩, by simp [intOf]; omega⟩
              rw [val_append, val_one, val_take_succ _ _ (by simp; omega), gx_drop, pw_succ]
              simp at hne
              rw [show gx Z (o + new.length) = 0 by omega]
              simp only [Int.mul_one, Int.mul_zero] at hv ⊢
              omega
        · have hjn' : j = n := by omega
          subst hjn'
          go_wp2
          go_ret
          obtain ⟨hl, hu, hv, hr, hg⟩ := H.out
          exact ⟨c, new, rfl, hl, hu, hc0, hc1, hv, hl ▸ hr, hg⟩
end Go.Proofs.YtcdfckjlmifjiaaGreat
/-
  limbs: what makes memory: clone, words, number, Of; sums and differences of sizes.
-/
namespace Go.Proofs.YtcdfckjlmifjiaaGreat
open Go.RowKit
set_option linter.unusedVariables false
set_option linter.unusedSimpArgs false

theorem info_u32 : (Tryz.prog.info? 100).map (fun i => (i.zero, i.size, i.bytes)) = some (some (.int .u32 0), 1, 4) := by kernel_rfl
theorem mk_u32 (n : Nat) (h : n ≤ 1099511627776) (w : World) : (Instr.makeSlice 48 (.int .i64 n) (.int .i64 n)).run Tryz.prog w =
    .ok (.slice (some ⟨w.heap.size, 0, none⟩) n n) (w.alloc (.cells (ca .u32 (zeros n)) 100)) := by
  have hi := info_u32
  cases hq : Tryz.prog.info? 100 with
  | none => rw [hq] at hi; cases hi
  | some i =>
    rw [hq] at hi
    simp only [Option.map_some, Option.some.injEq, Prod.mk.injEq] at hi
    obtain ⟨h1, h2, h3⟩ := hi
    have hr := run_make (P := Tryz.prog) w 48 100 i (.int .u32 0) Tryz.underlying48 hq h1 .i64 .i64 n n (by omega) (Int.le_refl _) (by rw [h3]; omega) (by omega)
    rw [Int.toNat_natCast, h2] at hr
    rw [hr]
    exact congrArg (fun c => Result.ok (Value.slice (some ⟨w.heap.size, 0, none⟩) n n) (w.alloc (.cells c 100))) (made_zeros .u32 n)

theorem copy_u32 (ty : TypeId) (w : World) (q : Option Addr) (m mc n : Nat) (xs : List Int) (hX : Rd w q .u32 xs) (hl : xs.length = m) (hmn : m ≤ n) :
    (Builtin.copy_ #[48, 48] ty #[.slice (some ⟨w.heap.size, 0, none⟩) n n, .slice q m mc]).run Tryz.prog (w.alloc (.cells (ca .u32 (zeros n)) 100)) =
      .ok (.int .i64 m) (w.alloc (.cells (ca .u32 (xs ++ zeros (n - m))) 100)) := by
  by_cases h0 : m = 0
  · subst h0
    have : xs = [] := List.eq_nil_of_length_eq_zero hl
    subst this
    exact run_copy_none (P := Tryz.prog) _ 48 48 ty 100 _ _ n n 0 mc Tryz.underlying48 (by kernel_rfl) (by simp)
  · obtain ⟨b, off, rfl, hc⟩ := (hX.alloc (.cells (ca .u32 (zeros n)) 100)) (by omega)
    rw [run_copy_row Tryz.prog _ 48 48 ty 100 w.heap.size 0 n n ⟨b, off, none⟩ m mc _ 100 (xs.map (Value.int .u32)) Tryz.underlying48 (by kernel_rfl) (heap_alloc_new w _) (by simp only [List.length_map, hl]; exact (Nat.min_eq_left hmn).symm) (Rd.src hc) (by simp [size_ca, length_zeros]; omega) (oneCell_ca _ _)]
    rw [World.setRow_alloc_new]
    congr 2
    · simp [hl]
    · simp [ca, zeros, hl]

set_option maxHeartbeats 400000 in
/-- limbs.clone. -/
theorem clone_any (q : Option Addr) (m mc : Nat) (xs : List Int) (w : World) (hl : xs.length = m) (hm : m ≤ 1099511627776) (hX : Rd w q .u32 xs) :
    Calls Tryz.prog 104 #[.slice q m mc] w fun e w' => e = .returned (.slice (some ⟨w.heap.size, 0, none⟩) m m) ∧ w.alloc (.cells (ca .u32 xs) 100) = w' := by
  have hmk := mk_u32 m hm
  have hcp := fun ty => copy_u32 ty w q m mc m xs hX hl (Nat.le_refl m)
  rw [Nat.sub_self, show xs ++ zeros 0 = xs by simp [zeros]] at hcp
  go_enter Tryz.func104, Tryz.ntmps104
  go_wp2
  go_ret
  exact ⟨rfl, rfl⟩

set_option maxHeartbeats 400000 in
/-- slices.Clip: no spare room. -/
theorem clip_any (q : Option Addr) (m mc : Nat) (w : World) (hm : m ≤ mc) (hc : mc ≤ maxLen) :
    Calls Tryz.prog 110 #[.slice q m mc] w fun e w' => e = .returned (.slice q m m) ∧ w = w' := by
  unfold maxLen at hc
  go_enter Tryz.func110, Tryz.ntmps110
  go_wp2
  go_ret
  exact ⟨rfl, rfl⟩

/-- The sign and the place of a number in normal form. -/
def nsg (neg : Bool) (xs : List Int) : Bool := if tlen xs = 0 then false else neg
def nad (q : Option Addr) (xs : List Int) : Option Addr := if tlen xs = 0 then none else q

set_option maxHeartbeats 400000 in
/-- limbs.number. -/
theorem number_any (neg : Bool) (q : Option Addr) (m mc : Nat) (xs : List Int) (w : World) (hl : xs.length = m) (hm : m ≤ mc) (hc : mc ≤ maxLen) (hX : Rd w q .u32 xs) :
    Calls Tryz.prog 103 #[.bool neg, .slice q m mc] w fun e w' => e = .returned (.agg #[.bool (nsg neg xs), .slice (nad q xs) (tlen xs) (tlen xs)]) ∧ Below w.heap.size w w' := by
  have ht := tlen_le xs
  by_cases h0 : tlen xs = 0
  · rw [nsg, nad, if_pos h0, if_pos h0, h0]
    have hc' := hc
    unfold maxLen at hc'
    go_enter Tryz.func103, Tryz.ntmps103
    go_wp2_with (go_at_call 68; refine (trim_any q m mc xs _ hl hm hc (hX.alloc _)).mono ?_; rintro e w' ⟨rfl, rfl⟩)
    exact bodyPost_ret (v := .agg #[.bool false, .slice none 0 0]) (by simp [results, Tryz.results103, go_sem]) rfl ⟨rfl, (Below.refl _ _).alloc (Nat.le_refl _) _⟩
  · rw [nsg, nad, if_neg h0, if_neg h0]
    have hc' := hc
    unfold maxLen at hc'
    have h1 : (((tlen xs : Nat) : Int) == 0) = false := beq_eq_false_iff_ne.2 (by omega)
    go_enter Tryz.func103, Tryz.ntmps103
    go_wp2_with (first
      | (go_at_call 68; refine (trim_any q m mc xs _ hl hm hc (hX.alloc _)).mono ?_; rintro e w' ⟨rfl, rfl⟩)
      | (go_at_call 110; refine (clip_any q (tlen xs) mc _ (by omega) hc).mono ?_; rintro e w' ⟨rfl, rfl⟩))
    exact bodyPost_ret (v := .agg #[.bool neg, .slice q (tlen xs) (tlen xs)]) (by simp [results, Tryz.results103, go_sem]) rfl ⟨rfl, (Below.refl _ _).alloc (Nat.le_refl _) _⟩

set_option maxHeartbeats 400000 in
/-- limbs.words. -/
theorem words_any (m : Int) (w : World) (h0 : 0 ≤ m) (h1 : m < 18446744073709551616) :
    Calls Tryz.prog 109 #[.int .u64 m] w fun e w' => e = .returned (.slice (some ⟨w.heap.size, 0, none⟩) 2 2) ∧ w.alloc (.cells (ca .u32 [m % 4294967296, m / 4294967296]) 100) = w' := by
  go_enter Tryz.func109, Tryz.ntmps109
  go_wp2
  go_ret
  exact ⟨rfl, rfl⟩

end Go.Proofs.YtcdfckjlmifjiaaGreat
