/-
  Package estimate: Sum, Product.
-/
import Derived.Test.YtifebbacnlhggaaGreatDoorKqOr
import Derived.Deep.DeepFit
import Derived.StillTailTactics
import Derived.Test.YtifebbacnlhggaaGreatDoorBnBoBrBpAhAdDtAgAiVdRtDhVeRsVfVcAjDrBmBqDuAkAl
import Derived.Test.YtifebbacnlhggaaGreatDoorDyEo
import Derived.Test.YtifebbacnlhggaaGreatDoorNiUa
import Derived.Deep.DeepCutAuto
import Derived.Deep.RegionHeld3
namespace Go.Proofs.YtifebbacnlhggaaGreatDoor
open Go.RowKit
set_option linter.unusedVariables false
set_option linter.unusedSimpArgs false

theorem fold_take (f : Int → Int → Int) (c : Int) (xs : List Int) (k : Nat) (h : k < xs.length) : (xs.take (k + 1)).foldl f c = f ((xs.take k).foldl f c) (gx xs k) := by
  rw [List.take_succ_eq_append_getElem h, List.foldl_append, gx_mem xs k h]
  rfl
theorem fold_inv (f : Int → Int → Int) (P Q : Int → Prop) (hP : ∀ c x, P c → Q x → P (f c x)) : ∀ (xs : List Int) (c : Int), P c → (∀ x ∈ xs, Q x) → P (xs.foldl f c)
  | [], c, h, _ => h
  | x :: xs, c, h, hq => fold_inv f P Q hP xs (f c x) (hP c x h (hq x (by simp))) fun y hy => hq y (by simp [hy])
set_option maxHeartbeats 1000000 in
set_option maxRecDepth 100000 in
/-- each, with a method of a total. -/
theorem eeach_gen {w : World} {p : Option Addr} {n nc r : Nat} {xs : List Int} {c0 : Int} (J : Nat) (hE0 : ∀ args w', Sem.run Tryz.prog (callFunc J args) w' = .ok (.enter J args) w') (f : Int → Int → Int) (P Q : Int → Prop) (hP : ∀ c x, P c → Q x → P (f c x))
    (hJ : ∀ wq c x, wq.cell? ⟨r, 0, none⟩ = some (.int .i64 c) → wq.frozen? ⟨r, 0, none⟩ = false → P c → Q x → Calls Tryz.prog J #[.pointer (some ⟨r, 0, none⟩), .int .i64 x] wq fun e w' => e = .returned (.tuple #[]) ∧ TmP r (f c x) wq w')
    (hl : xs.length = n) (hX : Rd w p .i64 xs) (hn : n ≤ 1000000) (hx : ∀ j, j < n → Q (gx xs j)) (hr : ∀ a, p = some a → 0 < n → a.block ≠ r)
    (hc : w.cell? ⟨r, 0, none⟩ = some (.int .i64 c0)) (hf : w.frozen? ⟨r, 0, none⟩ = false) (h0 : P c0) :
    Calls Tryz.prog 142 #[.slice p n nc, .func (.func J) #[.pointer (some ⟨r, 0, none⟩)] #[]] w fun e w' => e = .returned (.tuple #[]) ∧ TmP r (xs.foldl f c0) w w' := by
  have HX : Hid (xs.length = n ∧ Rd w p .i64 xs ∧ (∀ j, j < n → Q (gx xs j)) ∧ ∀ a, p = some a → 0 < n → a.block ≠ r) := ⟨hl, hX, hx, hr⟩
  have H0 : Hid (TmP r c0 w w ∧ P c0) := ⟨⟨hc, hf, ⟨fun _ _ _ _ => rfl, rfl, rfl, rfl, Nat.le_refl _⟩⟩, h0⟩
  have HJ := (show Hid _ from hJ)
  have HP := (show Hid _ from hP)
  clear hl hX hx hr hc hf hJ hP h0
  go_enter Tryz.func142, Tryz.ntmps142
  go_wp2_with fail
  go_loopw [5, 8] (fun nv iv wr => ∃ k : Nat, k ≤ n ∧ iv = .int .i64 k ∧ Hid (TmP r ((xs.take k).foldl f c0) w wr ∧ P ((xs.take k).foldl f c0))) (fun _ iv _ => n - (intOf iv).toNat)
  case atStart => exact ⟨0, Nat.zero_le _, by go_num, H0.out⟩
  case round =>
    obtain ⟨k, hk, rfl, H⟩ := hrel
    obtain ⟨hl, hX, hx, hr⟩ := HX.out
    rcases Nat.lt_or_ge k n with hlt | hge
    · obtain ⟨b, o, hp, hc⟩ := hX (by omega)
      subst hp
      have c1 := H.out.1.kp.cells (x := ⟨b, o + k, none⟩) (hr ⟨b, o, none⟩ rfl (by omega)) (hc k (by omega))
      have hm := HJ.out wr _ _ H.out.1.cell H.out.1.fz H.out.2 (hx k hlt)
      have HT : Hid ((xs.take (k + 1)).foldl f c0 = f ((xs.take k).foldl f c0) (gx xs k) ∧ P (f ((xs.take k).foldl f c0) (gx xs k))) := ⟨fold_take f c0 xs k (by omega), HP.out _ _ H.out.2 (hx k hlt)⟩
      have i1 : (k : Int) < (n : Int) := by omega
      clear hl hX hx hr hc
      go_wp2_with fail
      go_fit hm
      rintro e w1 ⟨rfl, h⟩
      have H1 : Hid (TmP r ((xs.take (k + 1)).foldl f c0) w w1 ∧ P ((xs.take (k + 1)).foldl f c0)) := ⟨⟨by rw [HT.out.1]; exact h.cell, h.fz, H.out.1.kp.comp h.kp⟩, by rw [HT.out.1]; exact HT.out.2⟩
      clear h hm c1
      go_wp2_with fail
      refine ⟨⟨k + 1, by omega, by go_num, H1.out⟩, by simp [intOf]; omega⟩
    · obtain rfl : k = n := by omega
      have HE : Hid (TmP r (xs.foldl f c0) w wr) := by have h := H.out.1; rw [List.take_of_length_le (by omega)] at h; exact h
      have i1 : ¬ (k : Int) < (k : Int) := by omega
      clear hX hx hl hr
      go_wp2
      go_end0
      exact ⟨rfl, HE.out⟩
/-- A sum that stops at the top. -/
def smf (c x : Int) : Int := min (c + x) 4611686018427387904
def sms (xs : List Int) : Int := xs.foldl smf 0
/-- A product that stops at the top. -/
def pmf (c x : Int) : Int := min (c * x) 4611686018427387904
def pms (xs : List Int) : Int := xs.foldl pmf 1
theorem smf_bd (c x : Int) (h : 0 ≤ c ∧ c ≤ 4611686018427387904) (hx : 0 ≤ x ∧ x ≤ 9223372036854775807) : 0 ≤ smf c x ∧ smf c x ≤ 4611686018427387904 := by unfold smf; omega
theorem pmf_bd (c x : Int) (h : 0 ≤ c ∧ c ≤ 4611686018427387904) (hx : 0 ≤ x ∧ x ≤ 9223372036854775807) : 0 ≤ pmf c x ∧ pmf c x ≤ 4611686018427387904 := by
  have := Int.mul_nonneg h.1 hx.1
  unfold pmf
  omega
set_option maxHeartbeats 1000000 in
set_option maxRecDepth 100000 in
/-- (total).add. -/
theorem eadd_any {w : World} {r : Nat} {c n : Int} (hc : w.cell? ⟨r, 0, none⟩ = some (.int .i64 c)) (hf : w.frozen? ⟨r, 0, none⟩ = false) (h0 : 0 ≤ c ∧ c ≤ 4611686018427387904) (h2 : 0 ≤ n ∧ n ≤ 9223372036854775807) :
    Calls Tryz.prog 143 #[.pointer (some ⟨r, 0, none⟩), .int .i64 n] w fun e w' => e = .returned (.tuple #[]) ∧ TmP r (smf c n) w w' := by
  have v1 : wrap64 (4611686018427387904 - c) = 4611686018427387904 - c := by unfold wrap64; omega
  have v2 : n ≤ 4611686018427387904 - c → wrap64 (c + n) = c + n := fun h => by unfold wrap64; omega
  have v3 : wrap64 (c + (4611686018427387904 - c)) = c + (4611686018427387904 - c) := by unfold wrap64; omega
  have fin : ∀ v : Int, v = smf c n → TmP r (smf c n) w (w.setCell ⟨r, 0, none⟩ (.int .i64 v)).drew := fun v hv => by
    subst hv
    refine ⟨?_, ?_, ?_⟩
    · simp [go_sem, hc]
    · simp [go_sem, hf]
    · exact ⟨fun i hi a b => heap_setCell_other w ⟨r, 0, none⟩ i _ a, rfl, rfl, rfl, by simp [World.setCell, World.drew]⟩
  have HF := (show Hid _ from fin)
  clear fin
  rcases Int.lt_or_le (4611686018427387904 - c) n with h | h
  · clear v2
    have h' : ¬ n ≤ 4611686018427387904 - c := by omega
    have hm : min n (4611686018427387904 - c) = 4611686018427387904 - c := by omega
    go_enter Tryz.func143, Tryz.ntmps143
    go_wp2_with fail
    go_still_tail 12, (by kernel_rfl)
    go_wp2
    all_goals first
      | omega
      | (go_end0
         exact ⟨rfl, HF.out _ (by unfold smf; omega)⟩)
  · have v4 := v2 h
    have h' : ¬ 4611686018427387904 - c < n := by omega
    have hm : min n (4611686018427387904 - c) = n := by omega
    clear v2
    go_enter Tryz.func143, Tryz.ntmps143
    go_wp2_with fail
    go_still_tail 12, (by kernel_rfl)
    go_wp2
    all_goals first
      | omega
      | (go_end0
         exact ⟨rfl, HF.out _ (by unfold smf; omega)⟩)
theorem callEadd (args : Array Value) (w' : World) : Sem.run Tryz.prog (callFunc 143 args) w' = .ok (.enter 143 args) w' := by
  have h1 : ¬ Tryz.f143.name = "runtime.NumGoroutine" := of_decide_eq_false (by kernel_rfl)
  have h2 : ¬ Tryz.f143.body = none := fun h => by cases h
  simp only [callFunc, Tryz.func143, go_sem]
  simp [h1, h2, go_sem]
theorem callEmul (args : Array Value) (w' : World) : Sem.run Tryz.prog (callFunc 144 args) w' = .ok (.enter 144 args) w' := by
  have h1 : ¬ Tryz.f144.name = "runtime.NumGoroutine" := of_decide_eq_false (by kernel_rfl)
  have h2 : ¬ Tryz.f144.body = none := fun h => by cases h
  simp only [callFunc, Tryz.func144, go_sem]
  simp [h1, h2, go_sem]
def InT (c : Int) : Prop := 0 ≤ c ∧ c ≤ 4611686018427387904
def InI (c : Int) : Prop := 0 ≤ c ∧ c ≤ 9223372036854775807
set_option maxHeartbeats 1000000 in
set_option maxRecDepth 100000 in
/-- estimate.Sum. -/
theorem eSum_any {w : World} {p : Option Addr} {n nc : Nat} {xs : List Int} (hl : xs.length = n) (hX : Rd w p .i64 xs) (hn : n ≤ 1000000) (hx : ∀ j, j < n → InI (gx xs j)) :
    Calls Tryz.prog 108 #[.slice p n nc] w fun e w' => e = .returned (.int .i64 (xs.foldl smf 0)) ∧ Below w.heap.size w w' := by
  have hp : ∀ a, p = some a → 0 < n → a.block < w.heap.size := fun a ha h0 => by
    obtain ⟨b, o, e, hlt⟩ := hX.lt (by omega)
    rw [e] at ha
    cases ha
    exact hlt
  have HX : Hid (xs.length = n ∧ Rd w p .i64 xs ∧ (∀ j, j < n → InI (gx xs j)) ∧ ∀ a, p = some a → 0 < n → a.block < w.heap.size) := ⟨hl, hX, hx, hp⟩
  clear hl hX hx hp
  go_enter Tryz.func108, Tryz.ntmps108
  go_wp2_with fail
  obtain ⟨hl, hX, hx, hp⟩ := HX.out
  have hb0 : Below w.heap.size w (w.alloc (.cells #[.int .i64 0] 148)) := (Below.refl _ _).alloc (Nat.le_refl _) _
  have hc := eeach_gen (nc := nc) (r := w.heap.size) (c0 := 0) 143 callEadd smf InT InI smf_bd (fun wq c x h1 h2 h3 h4 => eadd_any h1 h2 h3 h4) hl (hX.below hb0) hn hx (fun a ha h0 => Nat.ne_of_lt (hp a ha h0)) (by simp [go_sem]) (by simp [go_sem]) (by unfold InT; omega)
  go_fit hc
  rintro e w1 ⟨rfl, h⟩
  have c1 := h.cell
  have HB : Hid (Below w.heap.size w w1) := h.kp.bel hb0 (Nat.le_refl _) (by simp)
  clear h hb0 hl hX hx hp hc
  go_wp2
  go_ret
  exact ⟨rfl, HB.out⟩
set_option maxHeartbeats 1000000 in
set_option maxRecDepth 100000 in
/-- estimate.Product. -/
theorem eProduct_any {w : World} {p : Option Addr} {n nc : Nat} {xs : List Int} (hl : xs.length = n) (hX : Rd w p .i64 xs) (hn : n ≤ 1000000) (hx : ∀ j, j < n → InI (gx xs j)) :
    Calls Tryz.prog 109 #[.slice p n nc] w fun e w' => e = .returned (.int .i64 (xs.foldl pmf 1)) ∧ Below w.heap.size w w' := by
  have hp : ∀ a, p = some a → 0 < n → a.block < w.heap.size := fun a ha h0 => by
    obtain ⟨b, o, e, hlt⟩ := hX.lt (by omega)
    rw [e] at ha
    cases ha
    exact hlt
  have HX : Hid (xs.length = n ∧ Rd w p .i64 xs ∧ (∀ j, j < n → InI (gx xs j)) ∧ ∀ a, p = some a → 0 < n → a.block < w.heap.size) := ⟨hl, hX, hx, hp⟩
  clear hl hX hx hp
  go_enter Tryz.func109, Tryz.ntmps109
  go_wp2_with fail
  obtain ⟨hl, hX, hx, hp⟩ := HX.out
  have hb0 : Below w.heap.size w (w.alloc (.cells #[.int .i64 1] 148)) := (Below.refl _ _).alloc (Nat.le_refl _) _
  have hc := eeach_gen (nc := nc) (r := w.heap.size) (c0 := 1) 144 callEmul pmf InT InI pmf_bd (fun wq c x h1 h2 h3 h4 => emul_any h1 h2 h3.1 h3.2 h4.1 h4.2) hl (hX.below hb0) hn hx (fun a ha h0 => Nat.ne_of_lt (hp a ha h0)) (by simp [go_sem]) (by simp [go_sem]) (by unfold InT; omega)
  go_fit hc
  rintro e w1 ⟨rfl, h⟩
  have c1 := h.cell
  have HB : Hid (Below w.heap.size w w1) := h.kp.bel hb0 (Nat.le_refl _) (by simp)
  clear h hb0 hl hX hx hp hc
  go_wp2
  go_ret
  exact ⟨rfl, HB.out⟩
end Go.Proofs.YtifebbacnlhggaaGreatDoor
/-
  estimate.Size, Mul; ore.size.
-/
namespace Go.Proofs.YtifebbacnlhggaaGreatDoor
open Go.RowKit
set_option linter.unusedVariables false
set_option linter.unusedSimpArgs false

set_option maxHeartbeats 1000000 in
set_option maxRecDepth 100000 in
/-- estimate.Size. -/
theorem eSize_any (w : World) (r d k : Int) :
    Calls Tryz.prog 111 #[.int .i64 r, .int .i64 d, .int .i64 k] w fun e w' => e = .returned (.agg #[.int .i64 (max r 0), .int .i64 (max d 0), .int .i64 k]) ∧ Below w.heap.size w w' := by
  obtain ⟨R, hR⟩ : ∃ R, max r 0 = R := ⟨_, rfl⟩
  obtain ⟨D, hD⟩ : ∃ D, max d 0 = D := ⟨_, rfl⟩
  rw [hR, hD]
  have HR : Hid (max r 0 = R ∧ max d 0 = D) := ⟨hR, hD⟩
  go_enter Tryz.func111, Tryz.ntmps111
  go_wp2_with fail
  all_goals
    refine bodyPost_ret (v := .agg #[.int .i64 R, .int .i64 D, .int .i64 k]) ?_ rfl ⟨rfl, (Below.refl _ _).alloc (Nat.le_refl _) _⟩
    obtain ⟨h1, h2⟩ := HR.out
    simp [results, Tryz.results111, go_sem]
    try omega
theorem rd_lit (w : World) (xs : List Int) (t : TypeId) : Rd (w.alloc (.cells ((xs.map (Value.int .i64)).toArray) t)) (some ⟨w.heap.size, 0, none⟩) .i64 xs := fun _ => ⟨w.heap.size, 0, rfl, fun j hj => by
  simp only [World.cell?, heap_alloc_new, Nat.zero_add]
  simp [gx, hj]⟩
theorem sum_lit {w : World} {b : Nat} (xs : List Int) (n : Nat) (hl : xs.length = n) (hn : n ≤ 100) (h : Rd w (some ⟨b, 0, none⟩) .i64 xs) (hx : ∀ x ∈ xs, InI x) :
    Calls Tryz.prog 108 #[.slice (some ⟨b, 0, none⟩) n n] w fun e w' => e = .returned (.int .i64 (sms xs)) ∧ Below w.heap.size w w' :=
  eSum_any hl h (by omega) fun j hj => by
    rw [gx_mem xs j (by omega)]
    exact hx _ (List.getElem_mem _)
theorem prod_lit {w : World} {b : Nat} (xs : List Int) (n : Nat) (hl : xs.length = n) (hn : n ≤ 100) (h : Rd w (some ⟨b, 0, none⟩) .i64 xs) (hx : ∀ x ∈ xs, InI x) :
    Calls Tryz.prog 109 #[.slice (some ⟨b, 0, none⟩) n n] w fun e w' => e = .returned (.int .i64 (pms xs)) ∧ Below w.heap.size w w' :=
  eProduct_any hl h (by omega) fun j hj => by
    rw [gx_mem xs j (by omega)]
    exact hx _ (List.getElem_mem _)
theorem times_lit {w : World} {b : Nat} (xs : List Int) (n : Nat) (hl : xs.length = n) (hn : n ≤ 100) (h : Rd w (some ⟨b, 0, none⟩) .i64 xs) (hx : ∀ x ∈ xs, InI x) :
    Calls Tryz.prog 110 #[.slice (some ⟨b, 0, none⟩) n n] w fun e w' => e = .returned (.int .i64 (tms xs)) ∧ Below w.heap.size w w' :=
  eTimes_any hl h (by omega) fun j hj => by
    rw [gx_mem xs j (by omega)]
    exact (hx _ (List.getElem_mem _)).2
theorem inI_lit {x : Int} (h : (decide (0 ≤ x) && decide (x ≤ 9223372036854775807)) = true) : InI x := by
  simp only [Bool.and_eq_true, decide_eq_true_eq] at h
  exact h
theorem sms_in {xs : List Int} (h : ∀ x ∈ xs, InI x) : InI (sms xs) := by
  have := fold_inv smf InT InI smf_bd xs 0 ⟨by decide, by decide⟩ h
  exact ⟨this.1, by have := this.2; unfold sms; omega⟩
theorem pms_in {xs : List Int} (h : ∀ x ∈ xs, InI x) : InI (pms xs) := by
  have := fold_inv pmf InT InI pmf_bd xs 1 ⟨by decide, by decide⟩ h
  exact ⟨this.1, by have := this.2; unfold pms; omega⟩
theorem tms_in {xs : List Int} (h : ∀ x ∈ xs, InI x) : InI (tms xs) := by
  have := tms_bd xs 1 (by decide) (by decide)
  unfold tms
  exact ⟨by omega, by omega⟩
end Go.Proofs.YtifebbacnlhggaaGreatDoor
/-
  ore.size; estimate.Apply.
-/
namespace Go.Proofs.YtifebbacnlhggaaGreatDoor
open Go.RowKit
set_option linter.unusedVariables false
set_option linter.unusedSimpArgs false

set_option maxHeartbeats 1000000 in
set_option maxRecDepth 100000 in
/-- ore.size. -/
theorem osize_any {w : World} {B T K E D : Nat} {zss : List (List Int)} {h : Hdr} (H : HR D (EZ K E) w B T zss h) (hT : T ≤ w.heap.size) (hD : D ≤ 1000000) (hE : E ≤ 1000000) (hK : K ≤ 1000) :
    Calls Tryz.prog 60 #[.slice h.p h.n h.c] w fun e w' => e = .returned (.agg #[.int .i64 (max ((olen zss : Int) - 1) 0), .int .i64 (max (odeg zss) 0), .int .i64 (obit zss)]) ∧ Below w.heap.size w w' := by
  have h1 := fun w' (hb : Below w.heap.size w w') => oOrder_any ((lasts_HR (lasts_EZ K E)).below H hT hb) (Nat.le_trans hT hb.size) hD hE
  have h2 := fun w' (hb : Below w.heap.size w w') => oDegree_any ((lasts_HR (lasts_EZ K E)).below H hT hb) (Nat.le_trans hT hb.size) hD hE
  have h3 := fun w' (hb : Below w.heap.size w w') => oBits_any ((lasts_HR (lasts_EZ K E)).below H hT hb) (Nat.le_trans hT hb.size) hD hE hK
  obtain ⟨p, n, nc⟩ := h
  simp only at h1 h2 h3 ⊢
  clear H hT
  generalize (olen zss : Int) - 1 = r at *
  generalize odeg zss = d at *
  generalize (obit zss : Int) = k at *
  obtain ⟨r', hr'⟩ : ∃ r', max r 0 = r' := ⟨_, rfl⟩
  obtain ⟨d', hd'⟩ : ∃ d', max d 0 = d' := ⟨_, rfl⟩
  have h4 := fun w => eSize_any w r d k
  rw [hr', hd'] at h4
  rw [hr', hd']
  clear hr' hd'
  have hW : Below w.heap.size w (w.alloc (.cells #[.int .i64 0, .int .i64 0, .int .i64 0] 96)) := (Below.refl _ _).alloc (Nat.le_refl _) _
  have hG : (w.alloc (.cells #[.int .i64 0, .int .i64 0, .int .i64 0] 96)).heap[w.heap.size]? = some (.cells #[.int .i64 0, .int .i64 0, .int .i64 0] 96 (0, 0)) := heap_alloc_new w _
  go_enter Tryz.func60, Tryz.ntmps60
  go_wp2_with fail
  generalize w.alloc (.cells #[.int .i64 0, .int .i64 0, .int .i64 0] 96) = W at *
  go_fit (h1 W hW)
  rintro e w1 ⟨rfl, hb1⟩
  have hB1 := bnext' hW hb1
  have h2' := h2 w1 hB1
  go_wp2_with fail
  go_fit h2'
  rintro e w2 ⟨rfl, hb2⟩
  have hB2 := bnext' hB1 hb2
  have h3' := h3 w2 hB2
  go_wp2_with fail
  go_fit h3'
  rintro e w3 ⟨rfl, hb3⟩
  have hB3 := bnext' hB2 hb3
  have hV3 := bnext' hb1 (bnext' hb2 hb3)
  clear h1 h2 h3 h2' h3' hb1 hb2 hb3 hB2 hB1
  go_wp2_with fail
  go_fit (h4 w3)
  rintro e w4 ⟨rfl, hb4⟩
  have hG4 : w4.heap[w.heap.size]? = some (.cells #[.int .i64 0, .int .i64 0, .int .i64 0] 96 (0, 0)) := ((bnext' hV3 hb4).block _ (Array.getElem?_eq_some_iff.1 hG).1).trans hG
  have HB : Hid (Below w.heap.size w w4) := bnext' hB3 hb4
  have z0 : w4.cell? ⟨w.heap.size, 0, none⟩ = some (.int .i64 0) := by simp only [World.cell?]; rw [hG4]; rfl
  have z1 : w4.cell? ⟨w.heap.size, 1, none⟩ = some (.int .i64 0) := by simp only [World.cell?]; rw [hG4]; rfl
  have z2 : w4.cell? ⟨w.heap.size, 2, none⟩ = some (.int .i64 0) := by simp only [World.cell?]; rw [hG4]; rfl
  have f0 := frozen_of_row w4 _ 0 _ _ hG4
  have f1 := frozen_of_row w4 _ 1 _ _ hG4
  have f2 := frozen_of_row w4 _ 2 _ _ hG4
  clear hB3 hb4 hV3 hG hG4 hW
  clear h4
  go_wp2_with fail
  refine bodyPost_ret (v := .agg #[.int .i64 r', .int .i64 d', .int .i64 k]) (by simp [results, Tryz.results60, go_sem, z0, z1, z2]) rfl ⟨rfl, ?_⟩
  exact ((HB.out.setCell (p := ⟨w.heap.size, 0, none⟩) (Nat.le_refl _) _).setCell (p := ⟨w.heap.size, 1, none⟩) (Nat.le_refl _) _).setCell (p := ⟨w.heap.size, 2, none⟩) (Nat.le_refl _) _
set_option maxHeartbeats 4000000 in
set_option maxRecDepth 100000 in
/-- estimate.Apply. -/
theorem eApply_any (w : World) (r d k g l m : Int) (hr : InI r) (hd : InI d) (hk : InI k) (hg : -1 ≤ g ∧ g ≤ 1000000000) (hl : InI l) (hm : InI m) :
    Calls Tryz.prog 73 #[.agg #[.int .i64 r, .int .i64 d, .int .i64 k], .int .i64 g, .int .i64 l, .int .i64 m] w fun x w' => x = .returned (.int .i64 (tms [sms [r, 1], sms [d, g + 3], sms [k, l, pms [sms [r, 1], g + 2, sms [m, 8]]]])) ∧ Below w.heap.size w w' := by
  have hW : Below w.heap.size w (w.alloc (.cells #[.int .i64 r, .int .i64 d, .int .i64 k] 96)) := (Below.refl _ _).alloc (Nat.le_refl _) _
  have xa : (w.alloc (.cells #[.int .i64 r, .int .i64 d, .int .i64 k] 96)).cell? ⟨w.heap.size, 0, none⟩ = some (.int .i64 r) := by simp [go_sem]
  have xad : (w.alloc (.cells #[.int .i64 r, .int .i64 d, .int .i64 k] 96)).cell? ⟨w.heap.size, 1, none⟩ = some (.int .i64 d) := by simp [go_sem]
  have xak : (w.alloc (.cells #[.int .i64 r, .int .i64 d, .int .i64 k] 96)).cell? ⟨w.heap.size, 2, none⟩ = some (.int .i64 k) := by simp [go_sem]
  go_enter Tryz.func73, Tryz.ntmps73
  go_wp2_with fail
  have sW : (w.alloc (.cells #[.int .i64 r, .int .i64 d, .int .i64 k] 96)).heap.size = w.heap.size + 1 := by simp
  generalize w.alloc (.cells #[.int .i64 r, .int .i64 d, .int .i64 k] 96) = W at *
  have h1 : ∀ x ∈ [r, 1], InI x := by simp [hr]; simp [InI]
  have k1 := sms_in h1
  have hrd := rd_two W r 1 3
  rw [sW] at hrd
  go_fit (sum_lit [r, 1] 2 rfl (by decide) hrd h1)
  rintro e w2 ⟨rfl, hb2'⟩
  have hb2 : Below W.heap.size W w2 := bnext' ((Below.refl _ _).alloc (Nat.le_refl _) _) hb2'
  clear hrd hb2'
  have v1 : wrap64 (g + 2) = g + 2 := by unfold wrap64; omega
  have v2 : wrap64 (g + 3) = g + 3 := by unfold wrap64; omega
  have g2 : InI (g + 2) := ⟨by omega, by omega⟩
  have g3 : InI (g + 3) := ⟨by omega, by omega⟩
  have h2 : ∀ x ∈ [m, 8], InI x := (List.forall_mem_cons.2 ⟨hm, (List.forall_mem_cons.2 ⟨inI_lit rfl, (List.forall_mem_nil _)⟩)⟩)
  have k2 := sms_in h2
  go_wp2_with fail
  go_fit (sum_lit [m, 8] 2 rfl (by decide) (rd_two w2 m 8 _) h2)
  rintro e w3 ⟨rfl, hb3'⟩
  have hb3 : Below W.heap.size W w3 := bnext' hb2 (bnext' ((Below.refl _ _).alloc (Nat.le_refl _) _) hb3')
  clear hb3'
  have h3 : ∀ x ∈ [sms [r, 1], g + 2, sms [m, 8]], InI x := (List.forall_mem_cons.2 ⟨k1, (List.forall_mem_cons.2 ⟨g2, (List.forall_mem_cons.2 ⟨k2, (List.forall_mem_nil _)⟩)⟩)⟩)
  have k3 := pms_in h3
  have hrd : Rd (w3.alloc (.cells #[.int .i64 (sms [r, 1]), .int .i64 (g + 2), .int .i64 (sms [m, 8])] 3)) (some ⟨w3.heap.size, 0, none⟩) .i64 [sms [r, 1], g + 2, sms [m, 8]] := rd_lit w3 [sms [r, 1], g + 2, sms [m, 8]] 3
  go_wp2_with fail
  go_fit (prod_lit [sms [r, 1], g + 2, sms [m, 8]] 3 rfl (by decide) hrd h3)
  rintro e w4 ⟨rfl, hb4'⟩
  have hb4 : Below W.heap.size W w4 := bnext' hb3 (bnext' ((Below.refl _ _).alloc (Nat.le_refl _) _) hb4')
  clear hb4' hrd
  go_wp2_with fail
  have zc4 : IntKind.i64.wrap (g + 3) = g + 3 := by rw [IntKind.wrap_i64]; omega
  have mc6 : ∀ x ∈ [d, g + 3], InI x := (List.forall_mem_cons.2 ⟨hd, (List.forall_mem_cons.2 ⟨g3, (List.forall_mem_nil _)⟩)⟩)
  have kc6 : InI (sms [d, g + 3]) := sms_in mc6
  have mc12 : ∀ x ∈ [k, l, pms [sms [r, 1], g + 2, sms [m, 8]]], InI x := (List.forall_mem_cons.2 ⟨hk, (List.forall_mem_cons.2 ⟨hl, (List.forall_mem_cons.2 ⟨k3, (List.forall_mem_nil _)⟩)⟩)⟩)
  have kc12 : InI (sms [k, l, pms [sms [r, 1], g + 2, sms [m, 8]]]) := sms_in mc12
  have mc14 : ∀ x ∈ [sms [r, 1], sms [d, g + 3], sms [k, l, pms [sms [r, 1], g + 2, sms [m, 8]]]], InI x := (List.forall_mem_cons.2 ⟨k1, (List.forall_mem_cons.2 ⟨kc6, (List.forall_mem_cons.2 ⟨kc12, (List.forall_mem_nil _)⟩)⟩)⟩)
  have kc14 : InI (tms [sms [r, 1], sms [d, g + 3], sms [k, l, pms [sms [r, 1], g + 2, sms [m, 8]]]]) := tms_in mc14
  refine region_ints [(0, 23), (1, 24), (2, 25), (3, 26), (4, 27), (5, 28), (6, 29), (7, 30), (8, 31), (9, 32), (10, 33), (11, 34), (12, 35), (13, 36), (14, 37), (15, 8)]
    [.val (.int .i64 (sms [r, 1])), .val (.pointer (some ⟨w.heap.size, 1, none⟩)), .val (.int .i64 (d)), .val (.int .i64 (g)), .val (.int .i64 (g + 3)), .row 2 [d, g + 3], .val (.int .i64 (sms [d, g + 3])), .val (.pointer (some ⟨w.heap.size, 2, none⟩)), .val (.int .i64 (k)), .val (.int .i64 (l)), .val (.int .i64 (pms [sms [r, 1], g + 2, sms [m, 8]])), .row 3 [k, l, pms [sms [r, 1], g + 2, sms [m, 8]]], .val (.int .i64 (sms [k, l, pms [sms [r, 1], g + 2, sms [m, 8]]])), .row 3 [sms [r, 1], sms [d, g + 3], sms [k, l, pms [sms [r, 1], g + 2, sms [m, 8]]]], .val (.int .i64 (tms [sms [r, 1], sms [d, g + 3], sms [k, l, pms [sms [r, 1], g + 2, sms [m, 8]]]])), .val (.int .i64 (tms [sms [r, 1], sms [d, g + 3], sms [k, l, pms [sms [r, 1], g + 2, sms [m, 8]]]]))]
    (by kernel_rfl) (by kernel_rfl) (by kernel_rfl) (by decide) (by decide) (by rfl) ?_ ?_
  · refine ⟨?_, ?_, ?_, ?_, ?_, ?_, ?_, ?_, ?_, ?_, ?_, ?_, ?_, ?_, ?_, ?_, trivial⟩
    · exact ok_pure _ rfl fun ρ v R => by simp [execOp, go_sem, R.old 9 (by decide)]
    · exact ok_pure _ rfl fun ρ v R => by simp [execOp, go_sem, R.old 4 (by decide)]
    · exact ok_pure _ rfl fun ρ v R => by have x := cell_later R.b (cell_later hb4 xad); simp [execOp, go_sem, R.dep 1 24 _ (by decide) rfl rfl, x]
    · exact ok_pure _ rfl fun ρ v R => by simp [execOp, go_sem, R.old 1 (by decide)]
    · exact ok_pure _ rfl fun ρ v R => by simp [execOp, go_sem, R.con, R.dep 3 26 _ (by decide) rfl rfl, zc4]
    · exact ok_build 2 [d, g + 3] 3 rfl (fun v => rd_lit v _ _) fun ρ v R => by simp [execOp, go_sem, R.dep 2 25 _ (by decide) rfl rfl, R.dep 4 27 _ (by decide) rfl rfl]
    · exact ok_call 108 _ rfl fun ρ v R => by
        obtain ⟨b, h3, h4⟩ := R.row 5 28 2 [d, g + 3] (by decide) rfl rfl
        exact ⟨_, by simp [execOp, go_sem, h3, R.fn], sum_lit [d, g + 3] 2 rfl (by decide) h4 mc6⟩
    · exact ok_pure _ rfl fun ρ v R => by simp [execOp, go_sem, R.old 4 (by decide)]
    · exact ok_pure _ rfl fun ρ v R => by have x := cell_later R.b (cell_later hb4 xak); simp [execOp, go_sem, R.dep 7 30 _ (by decide) rfl rfl, x]
    · exact ok_pure _ rfl fun ρ v R => by simp [execOp, go_sem, R.old 2 (by decide)]
    · exact ok_pure _ rfl fun ρ v R => by simp [execOp, go_sem, R.old 10 (by decide)]
    · exact ok_build 3 [k, l, pms [sms [r, 1], g + 2, sms [m, 8]]] 3 rfl (fun v => rd_lit v _ _) fun ρ v R => by simp [execOp, go_sem, R.dep 10 33 _ (by decide) rfl rfl, R.dep 8 31 _ (by decide) rfl rfl, R.dep 9 32 _ (by decide) rfl rfl]
    · exact ok_call 108 _ rfl fun ρ v R => by
        obtain ⟨b, h3, h4⟩ := R.row 11 34 3 [k, l, pms [sms [r, 1], g + 2, sms [m, 8]]] (by decide) rfl rfl
        exact ⟨_, by simp [execOp, go_sem, h3, R.fn], sum_lit [k, l, pms [sms [r, 1], g + 2, sms [m, 8]]] 3 rfl (by decide) h4 mc12⟩
    · exact ok_build 3 [sms [r, 1], sms [d, g + 3], sms [k, l, pms [sms [r, 1], g + 2, sms [m, 8]]]] 3 rfl (fun v => rd_lit v _ _) fun ρ v R => by simp [execOp, go_sem, R.dep 0 23 _ (by decide) rfl rfl, R.dep 12 35 _ (by decide) rfl rfl, R.dep 6 29 _ (by decide) rfl rfl]
    · exact ok_call 110 _ rfl fun ρ v R => by
        obtain ⟨b, h3, h4⟩ := R.row 13 36 3 [sms [r, 1], sms [d, g + 3], sms [k, l, pms [sms [r, 1], g + 2, sms [m, 8]]]] (by decide) rfl rfl
        exact ⟨_, by simp [execOp, go_sem, h3, R.fn], times_lit [sms [r, 1], sms [d, g + 3], sms [k, l, pms [sms [r, 1], g + 2, sms [m, 8]]]] 3 rfl (by decide) h4 mc14⟩
    · exact ok_pure _ rfl fun ρ v R => by simp [execOp, go_sem, R.dep 14 37 _ (by decide) rfl rfl]
  · intro vals w5 hb5 hv
    have v0 : vals 0 = _ := hv (0, 23) (by decide)
    have v1 : vals 1 = _ := hv (1, 24) (by decide)
    have v2 : vals 2 = _ := hv (2, 25) (by decide)
    have v3 : vals 3 = _ := hv (3, 26) (by decide)
    have v4 : vals 4 = _ := hv (4, 27) (by decide)
    obtain ⟨b5, v5, -⟩ := hv (5, 28) (by decide)
    simp only at v5
    have v6 : vals 6 = _ := hv (6, 29) (by decide)
    have v7 : vals 7 = _ := hv (7, 30) (by decide)
    have v8 : vals 8 = _ := hv (8, 31) (by decide)
    have v9 : vals 9 = _ := hv (9, 32) (by decide)
    have v10 : vals 10 = _ := hv (10, 33) (by decide)
    obtain ⟨b11, v11, -⟩ := hv (11, 34) (by decide)
    simp only at v11
    have v12 : vals 12 = _ := hv (12, 35) (by decide)
    obtain ⟨b13, v13, -⟩ := hv (13, 36) (by decide)
    simp only at v13
    have v14 : vals 14 = _ := hv (14, 37) (by decide)
    have v15 : vals 15 = _ := hv (15, 8) (by decide)
    simp only [List.foldl, v0, v1, v2, v3, v4, v5, v6, v7, v8, v9, v10, v11, v12, v13, v14, v15, List.setIfInBounds_toArray, List.set_cons_succ, List.set_cons_zero]
    clear hv v0 v1 v2 v3 v4 v5 v6 v7 v8 v9 v10 v11 v12 v13 v14 v15
    have HBE : Hid (Below w.heap.size w w5) := bnext' hW (bnext' hb4 hb5)
    go_wp2
    go_ret
    exact ⟨rfl, HBE.out⟩
end Go.Proofs.YtifebbacnlhggaaGreatDoor
