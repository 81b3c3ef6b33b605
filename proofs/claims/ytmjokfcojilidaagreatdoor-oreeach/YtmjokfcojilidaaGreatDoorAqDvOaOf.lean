/-
  ore.Each.
-/
import Derived.Test.YtmjokfcojilidaaGreatDoorAp
import Derived.Defers
import Derived.Recover
import Derived.Laws.Pointers
import Derived.Deep.DeepFit
import Derived.Test.YtmjokfcojilidaaGreatDoorUmVsUoDmVt
import Derived.Test.YtmjokfcojilidaaGreatDoorNi
import Derived.ProofKit
import Derived.OpenShut
import Derived.Lib.SmallJoins
import Derived.Lay
import Derived.LaidOnce
import Derived.SevenTiedAt
import Derived.Test.YtmjokfcojilidaaGreatDoorUaVgOn
import Derived.Deep.SlicePairs
namespace Go.Proofs.YtmjokfcojilidaaGreatDoor
open Go.RowKit
set_option linter.unusedVariables false
set_option linter.unusedSimpArgs false

/-- The deferred function of Each, where nothing panics. -/
theorem each_idle (p : Addr) (w : World) :
    CallsD Tryz.prog 83 #[.pointer (some p)] .returning w fun e u' w' => e = .returned (.tuple #[]) ∧ u' = .returning ∧ w' = w := by
  refine callsD_of_wpS Tryz.func83 rfl fun c₀ cs hu => ?_
  apply wpS_seq
  apply wpS_region
  simp [wpOpsS, go_sem, recoverD, hu, Tryz.ntmps83, Exit.thenS]
  refine wpS_cond (t := false) (by simp [Act.eval, Array.replicate]) ?_
  simp only [Bool.false_eq_true, if_false]
  refine wpS_of_wp (wp_skip ?_)
  cases c₀
  simp_all [bodyPostS, results, Tryz.results83]
theorem eq_nilO (f : Fn) (a b : Array Value) (w : World) : (binOp .eql 42 (.func f a b) .nilFunc).run Tryz.prog w = .ok (.bool false) w := by
  have h : ∀ d : Nat, (Op.equalIn (d + 1) 42 (.func f a b) .nilFunc).run Tryz.prog w = .ok false w := fun d => by
    simp [Op.equalIn, run_underlying Tryz.underlying42]
  simp only [binOp]
  simp [Op.equal, Op.maxDepth, h 9999]
theorem NO.put {B : Nat} {w : World} {K E : Nat} {l : List (List Int)} {p : Option Addr} {n : Nat} {hs : List Hdr} (h : NO B w K E l p n hs) {b o : Nat} (hb : b < B) (v : Value) : NO B (w.setCell ⟨b, o, none⟩ v) K E l p n hs :=
  ⟨h.el, h.tl, h.hl.same fun a ha _ _ => Below.heap_setCell w ⟨b, o, none⟩ v a.block (by have := h.fr a ha; show a.block ≠ b; omega), h.fr, fun j hj => let ⟨a, c, es, d⟩ := h.ev j hj; ⟨a, c, es, d.put hb v⟩⟩
theorem callEach2 (args : Array Value) (w' : World) : Sem.run Tryz.prog (callFunc 84 args) w' = .ok (.enter 84 args) w' := by
  have h1 : ¬ Tryz.f84.name = "runtime.NumGoroutine" := of_decide_eq_false (by kernel_rfl)
  have h2 : ¬ Tryz.f84.body = none := fun h => by cases h
  simp only [callFunc, Tryz.func84, go_sem]
  simp [h1, h2, go_sem]
set_option maxHeartbeats 2000000 in
set_option maxRecDepth 100000 in
/-- Each's own function: f's variable is handed along. -/
theorem each2_any {w : World} {lo base g K' : Nat} {J : Nat} {C : Array Value} {hd : Hdr} {z : List Int} {I : World → Prop} (hX : w.cell? ⟨g, 0, none⟩ = some (.func (.func J) #[] C)) (hE0 : ∀ args w', Sem.run Tryz.prog (callFunc J args) w' = .ok (.enter J args) w') (hK : K' ≤ 1000)
    (hI : ∀ w1 w2, I w1 → Below base w1 w2 → I w2) (hbw : base ≤ w.heap.size)
    (hJ : Calls Tryz.prog J (#[Hdr.val hd] ++ C) w fun e w' => ∃ p n c es, e = .returned (.slice p n c) ∧ PA w' K' p n c es z ∧ n ≤ 1000 ∧ I w' ∧ Kp lo base w w') :
    Calls Tryz.prog 84 #[Hdr.val hd, .pointer (some ⟨g, 0, none⟩)] w fun e w' => ∃ p n es, e = .returned (.slice p n n) ∧ PN w.heap.size w' K' p n es (tr z) ∧ I w' ∧ Kp lo base w w' := by
  obtain ⟨p, n, nc⟩ := hd
  simp only [Hdr.val] at hJ ⊢
  have HI := (show Hid _ from hI)
  clear hI
  go_enter Tryz.func84, Tryz.ntmps84
  go_wp2_with fail
  go_fit hJ
  rintro e w1 ⟨p1, n1, c1, es1, rfl, hP, hn1, hI1, hk1⟩
  have hc := uNorm_any K' p1 n1 c1 es1 z w1 hP (by omega) hK
  clear hJ hP
  go_wp2_with fail
  go_fit hc
  rintro e w2 ⟨p2, n2, es2, rfl, hN, hb2⟩
  have HR' : Hid (PN w.heap.size w2 K' p2 n2 es2 (tr z) ∧ I w2 ∧ Kp lo base w w2) := ⟨hN.mono hk1.size, HI.out _ _ hI1 (hb2.mono (Nat.le_trans hbw hk1.size)), hk1.trans (Kp.of hb2)⟩
  clear hc hN hb2 hk1 hI1
  go_wp2
  go_ret
  exact ⟨p2, n2, es2, rfl, HR'.out⟩
set_option maxHeartbeats 4000000 in
set_option maxRecDepth 100000 in
/-- ore.Each. -/
theorem oEach_gen {w : World} {lo base B T K E D K' E' : Nat} {zss : List (List Int)} {h : Hdr} (H : HR D (EZ K E) w B T zss h) (hT : T ≤ w.heap.size) (hbw : base ≤ w.heap.size) (hD : D ≤ 1000) (hE : E ≤ 1000000) (hK : K ≤ 1000) (hK' : K' ≤ 1000) (hE' : E' ≤ 1000000) (J : Nat) (C : Array Value) (hE0 : ∀ args w', Sem.run Tryz.prog (callFunc J args) w' = .ok (.enter J args) w') (F : Nat → List Int) (I : Nat → World → Prop)
    (hI : ∀ i w1 w2, I i w1 → Below base w1 w2 → I i w2) (hI0 : I 0 w)
    (hJ : ∀ wq i p n es, i < olen zss → Kp lo base w wq → I i wq → PN w.heap.size wq K p n es (tr (gt zss i)) → n ≤ E → Calls Tryz.prog J (#[.slice p n n] ++ C) wq fun e w' => ∃ p n c es, e = .returned (.slice p n c) ∧ PA w' K' p n c es (F i) ∧ n ≤ 1000 ∧ I (i + 1) w' ∧ Kp lo base wq w') (hF : ∀ i, i < olen zss → (F i).length ≤ E') :
    Calls Tryz.prog 41 #[.slice h.p h.n h.c, .func (.func J) #[] C] w (OpK lo base (I (olen zss)) ((List.range (olen zss)).map fun i => tr (F i)) K' E' w) := by
  have HN := (show Hid _ from fun w' (hb : Below w.heap.size w w') => oNorm_any ((lasts_HR (lasts_EZ K E)).below H hT hb) (Nat.le_trans hT hb.size) hD hE hK)
  have hmf : ∀ (fn : Fn) (first cap : Array Value) (w : World), (Instr.makeFunc fn first cap).run Tryz.prog w = .ok (.func fn first cap) w := fun _ _ _ _ => rfl
  have hnil := eq_nilO
  obtain ⟨p, n, nc⟩ := h
  simp only at HN ⊢
  have hW : Below w.heap.size w ((w.alloc (.cells #[.func (.func J) #[] C] 42)).alloc (.cells #[.slice none 0 0] 52)) := ((Below.refl _ _).alloc (Nat.le_refl _) _).alloc (by simp) _
  have hF0 : ((w.alloc (.cells #[.func (.func J) #[] C] 42)).alloc (.cells #[.slice none 0 0] 52)).heap[w.heap.size]? = some (.cells #[.func (.func J) #[] C] 42 (0, 0)) := by
    rw [Below.heap_alloc _ _ _ (by simp)]
    exact heap_alloc_new w _
  have hO0 : ((w.alloc (.cells #[.func (.func J) #[] C] 42)).alloc (.cells #[.slice none 0 0] 52)).heap[w.heap.size + 1]? = some (.cells #[.slice none 0 0] 52 (0, 0)) := by
    have := heap_alloc_new (w.alloc (.cells #[.func (.func J) #[] C] 42)) (.cells #[.slice none 0 0] 52)
    simpa using this
  have HJ := (show Hid _ from hJ)
  have HF := (show Hid _ from hF)
  have HI := (show Hid _ from hI)
  have HH : Hid (olen zss ≤ 1000) := by obtain ⟨_, k⟩ := H; have h1 := olen_le zss; have h2 := k.tl; have h3 := k.few; show _ ≤ _; simp only at h2 h3; omega
  clear hJ hF hI H
  obtain ⟨l, hl⟩ : ∃ l, ((List.range (olen zss)).map fun i => tr (F i)) = l := ⟨_, rfl⟩
  rw [hl]
  have HLL := (show Hid _ from hl)
  clear hl
  go_enter_defers Tryz.func41, Tryz.ntmps41
  go_wp2_with fail
  generalize (w.alloc (.cells #[.func (.func J) #[] C] 42)).alloc (.cells #[.slice none 0 0] 52) = W at *
  have sW : w.heap.size + 1 < W.heap.size := (Array.getElem?_eq_some_iff.1 hO0).1
  have hc := HN.out W hW
  rw [rng_oz] at hc
  clear HN
  go_fit hc
  rintro e w2 ⟨q, hs, rfl, hNO, hb2⟩
  rw [otr_oz] at hNO
  rw [olen_oz] at hNO
  have HB2 : Hid (Kp lo base w w2) := Kp.of (bnext' hW hb2)
  have hI2 : I 0 w2 := HI.out _ _ _ hI0 ((bnext' hW hb2).mono hbw)
  have hF2 : w2.heap[w.heap.size]? = some (.cells #[.func (.func J) #[] C] 42 (0, 0)) := (hb2.block _ (by omega)).trans hF0
  have hO2 : w2.heap[w.heap.size + 1]? = some (.cells #[.slice none 0 0] 52 (0, 0)) := (hb2.block _ sW).trans hO0
  have s2 : w.heap.size + 1 < w2.heap.size := (Array.getElem?_eq_some_iff.1 hO2).1
  have hcv := convert_gen (lo := lo) (base := base) (K' := K') (E' := E') (hNO.hrow hK hE (by have := HH.out; omega)) (Nat.le_refl _) (by omega) (by omega) HH.out hE hK' hE' 84 #[.pointer (some ⟨w.heap.size, 0, none⟩)] callEach2 (fun i => tr (F i)) I HI.out hI2 (fun wq i hi hk hIq he => by
      rw [olen_oz] at hi
      obtain ⟨a1, a2, es2, a3⟩ := hNO.ev i hi
      rw [gt_oz] at a3
      have a4 := (a3.kp hk (by omega)).mono (show w.heap.size ≤ W.heap.size by omega)
      have hc1 : wq.cell? ⟨w.heap.size, 0, none⟩ = some (.func (.func J) #[] C) := by
        rw [World.cell?_of_block (a := ⟨w.heap.size, 0, none⟩) (hk.block _ (show w.heap.size < w2.heap.size by omega) (.inr hbw))]
        simp only [World.cell?]
        rw [hF2]
        rfl
      generalize gh hs i = hd at a1 a2 a4
      obtain ⟨p2, n2, c2⟩ := hd
      simp only at a1 a2 a4
      subst a1
      exact each2_any hc1 hE0 hK' (fun w1 w2 h1 h2 => HI.out _ w1 w2 h1 h2) (by have := hk.size; omega) (HJ.out wq i p2 c2 es2 hi (HB2.out.trans hk) hIq a4 a2)) (fun i hi => by rw [olen_oz] at hi; rw [length_tr]; exact Nat.le_trans (tlen_le _) (HF.out i hi))
  rw [olen_oz, HLL.out] at hcv
  simp only at hcv
  rw [olen_oz]
  clear hc hNO hb2 hF0 hO0 hF2 hI2 hI0 HJ HF
  go_wp2_with fail
  go_fit hcv
  rintro e w3 ⟨q3, hs3, rfl, hN3, hI3, hk3⟩
  have hO3 : w3.heap[w.heap.size + 1]? = some (.cells #[.slice none 0 0] 52 (0, 0)) := (hk3.block _ s2 (.inr (by omega))).trans hO2
  have z0 : w3.cell? ⟨w.heap.size + 1, 0, none⟩ = some (.slice none 0 0) := by
    simp only [World.cell?]
    rw [hO3]
    rfl
  have f0 : w3.frozen? ⟨w.heap.size + 1, 0, none⟩ = false := frozen_of_row w3 _ _ _ _ hO3
  have s3 := hk3.size
  have HR' : Hid (OpK lo base (I (olen zss)) l K' E' w (.returned (.slice q3 (olen l) (olen l))) (w3.setCell ⟨w.heap.size + 1, 0, none⟩ (.slice q3 (olen l) (olen l)))) :=
    ⟨q3, hs3, rfl, (hN3.put s2 _).mono (by omega), HI.out _ _ _ hI3 ((Below.refl base w3).setCell (p := ⟨w.heap.size + 1, 0, none⟩) (by show base ≤ w.heap.size + 1; omega) _), (HB2.out.trans hk3).put ⟨w.heap.size + 1, 0, none⟩ _ (.inr (by show w.heap.size ≤ w.heap.size + 1; omega))⟩
  clear hcv hN3 hI3 hk3 hO2
  generalize olen l = m at *
  go_wp2
  refine leaves_cons (f := 83) (args := #[.pointer (some ⟨w.heap.size + 1, 0, none⟩)]) (by simp) (by simp [go_sem]) ?_
  refine (each_idle ⟨w.heap.size + 1, 0, none⟩ _).mono ?_
  rintro e u' w'' ⟨rfl, rfl, rfl⟩
  have z1 : (w3.setCell ⟨w.heap.size + 1, 0, none⟩ (.slice q3 m m)).cell? ⟨w.heap.size + 1, 0, none⟩ = some (.slice q3 m m) := by simp [go_sem, z0]
  have HR2 := HR'.out
  simp [Leaves, settle, results, Tryz.results41, go_sem, z0]
  exact HR2
set_option maxHeartbeats 4000000 in
set_option maxRecDepth 100000 in
/-- ore.Each without a function. -/
theorem oEach_nil {w : World} {B T K E D : Nat} {zss : List (List Int)} {h : Hdr} (H : HR D (EZ K E) w B T zss h) (hT : T ≤ w.heap.size) (hD : D ≤ 1000) (hE : E ≤ 1000000) (hK : K ≤ 1000) :
    Calls Tryz.prog 41 #[.slice h.p h.n h.c, .nilFunc] w (OpP (oz zss) K E w) := by
  have HN := (show Hid _ from fun w' (hb : Below w.heap.size w w') => oNorm_any ((lasts_HR (lasts_EZ K E)).below H hT hb) (Nat.le_trans hT hb.size) hD hE hK)
  obtain ⟨p, n, nc⟩ := h
  simp only at HN ⊢
  have hnil : ∀ w : World, (binOp .eql 42 .nilFunc .nilFunc).run Tryz.prog w = .ok (.bool true) w := fun w => by
    have h : ∀ d : Nat, (Op.equalIn (d + 1) 42 .nilFunc .nilFunc).run Tryz.prog w = .ok true w := fun d => by
      simp [Op.equalIn, run_underlying Tryz.underlying42]
    simp only [binOp]
    simp [Op.equal, Op.maxDepth, h 9999]
  have hW : Below w.heap.size w ((w.alloc (.cells #[.nilFunc] 42)).alloc (.cells #[.slice none 0 0] 52)) := ((Below.refl _ _).alloc (Nat.le_refl _) _).alloc (by simp) _
  have hO0 : ((w.alloc (.cells #[.nilFunc] 42)).alloc (.cells #[.slice none 0 0] 52)).heap[w.heap.size + 1]? = some (.cells #[.slice none 0 0] 52 (0, 0)) := by
    have := heap_alloc_new (w.alloc (.cells #[.nilFunc] 42)) (.cells #[.slice none 0 0] 52)
    simpa using this
  clear H hT
  go_enter_defers Tryz.func41, Tryz.ntmps41
  go_wp2_with fail
  generalize (w.alloc (.cells #[.nilFunc] 42)).alloc (.cells #[.slice none 0 0] 52) = W at *
  have sW : w.heap.size + 1 < W.heap.size := (Array.getElem?_eq_some_iff.1 hO0).1
  have hc := HN.out W hW
  rw [rng_oz] at hc
  clear HN
  go_fit hc
  rintro e w2 ⟨q3, hs, rfl, hNO, hb2⟩
  have hO3 : w2.heap[w.heap.size + 1]? = some (.cells #[.slice none 0 0] 52 (0, 0)) := (hb2.block _ sW).trans hO0
  have z0 : w2.cell? ⟨w.heap.size + 1, 0, none⟩ = some (.slice none 0 0) := by
    simp only [World.cell?]
    rw [hO3]
    rfl
  have f0 : w2.frozen? ⟨w.heap.size + 1, 0, none⟩ = false := frozen_of_row w2 _ _ _ _ hO3
  have HR' : Hid (OpP (oz zss) K E w (.returned (.slice q3 (olen (oz zss)) (olen (oz zss)))) (w2.setCell ⟨w.heap.size + 1, 0, none⟩ (.slice q3 (olen (oz zss)) (olen (oz zss))))) :=
    ⟨q3, hs, rfl, (hNO.put sW _).mono (by omega), (bnext' hW hb2).setCell (p := ⟨w.heap.size + 1, 0, none⟩) (by show w.heap.size ≤ w.heap.size + 1; omega) _⟩
  clear hc hNO hb2 hO0
  generalize olen (oz zss) = m at *
  go_wp2
  have HR2 := HR'.out
  simp [bodyPostD, Leaves, settle, results, Tryz.results41, go_sem, z0]
  exact HR2
end Go.Proofs.YtmjokfcojilidaaGreatDoor
/-
  Plain: a product's entries; products commute (out of Pm).
-/
namespace Go.Proofs.YtmjokfcojilidaaGreatDoor
open Go.RowKit
set_option linter.unusedVariables false
set_option linter.unusedSimpArgs false

theorem ps_past (zs ys : List Int) (t : Nat) : ∀ m, ps zs ys (zs.length + m) t = ps zs ys zs.length t
  | 0 => rfl
  | m + 1 => by rw [← Nat.add_assoc, ps_none zs ys _ t (gx_past zs _ (Nat.le_refl _) _ (by omega)), ps_past zs ys t m]
theorem ps_late (zs ys : List Int) (t : Nat) : ∀ m, ps zs ys (t + 1 + m) t = ps zs ys (t + 1) t
  | 0 => rfl
  | m + 1 => by
    rw [← Nat.add_assoc, ps, ps_late zs ys t m, if_neg (by omega), Int.add_zero]
theorem ps_nil (zs : List Int) (t : Nat) : ∀ i, ps zs [] i t = 0
  | 0 => rfl
  | i + 1 => by rw [ps, ps_nil zs t i]; simp [gx]
/-- A product's entry. -/
theorem gx_mulp (zs ys : List Int) (t : Nat) : gx (mulp zs ys) t = ps zs ys (t + 1) t := by
  have h0 : ps zs ys (t + 1) t = ps zs ys zs.length t := by
    have h1 := ps_late zs ys t (zs.length)
    have h2 := ps_past zs ys t (t + 1)
    rw [Nat.add_comm] at h2
    rw [← h1, h2]
  rw [h0, mulp]
  by_cases h : zs.length = 0 ∨ ys.length = 0
  · rw [if_pos h]
    rcases h with h | h
    · rw [h]; rfl
    · rw [List.eq_nil_of_length_eq_zero h, ps_nil]; rfl
  · rw [if_neg h]
    rcases Nat.lt_or_ge t (zs.length + ys.length - 1) with h1 | h1
    · rw [gx_mulz _ _ _ h1]
    · rw [gx_past _ (zs.length + ys.length - 1) (by rw [length_mulz]; exact Nat.le_refl _) t h1, ps_far zs ys t zs.length (by omega)]
/-- A sum of the first n. -/
def sq (f : Nat → Int) : Nat → Int
  | 0 => 0
  | n + 1 => sq f n + f n
theorem sq_congr {f g : Nat → Int} : ∀ n, (∀ i, i < n → f i = g i) → sq f n = sq g n
  | 0, _ => rfl
  | n + 1, h => by rw [sq, sq, sq_congr n fun i hi => h i (by omega), h n (by omega)]
theorem sq_front (f : Nat → Int) : ∀ n, sq f (n + 1) = f 0 + sq (fun i => f (i + 1)) n
  | 0 => by simp [sq]
  | n + 1 => by rw [sq, sq_front f n, sq]; omega
theorem sq_rev (f : Nat → Int) : ∀ n, sq (fun i => f (n - 1 - i)) n = sq f n
  | 0 => rfl
  | n + 1 => by
    rw [sq_front, sq]
    have h := sq_rev f n
    have h1 : sq (fun i => f (n + 1 - 1 - (i + 1))) n = sq (fun i => f (n - 1 - i)) n := sq_congr n fun i hi => by
      show f _ = f _
      congr 1
      omega
    rw [h1, h]
    show f n + _ = _
    omega
theorem ps_sq (zs ys : List Int) (t : Nat) : ∀ n, n ≤ t + 1 → ps zs ys n t = sq (fun i => gx zs i * gx ys (t - i)) n
  | 0, _ => rfl
  | n + 1, h => by
    rw [ps, sq, ps_sq zs ys t n (by omega)]
    first | rw [if_pos (by omega)] | rw [if_neg (by omega)]
theorem mulp_comm (a b : List Int) : mulp a b = mulp b a := by
  have hl : (mulp a b).length = (mulp b a).length := by
    unfold mulp
    by_cases h : a.length = 0 ∨ b.length = 0
    · rw [if_pos h, if_pos h.symm]
    · rw [if_neg h, if_neg (fun e => h e.symm), length_mulz, length_mulz]
      omega
  refine gx_ext _ _ hl fun t ht => ?_
  rw [gx_mulp, gx_mulp, ps_sq _ _ _ _ (Nat.le_refl _), ps_sq _ _ _ _ (Nat.le_refl _), ← sq_rev]
  refine sq_congr _ fun i hi => ?_
  show gx a (t + 1 - 1 - i) * gx b (t - (t + 1 - 1 - i)) = _
  rw [show t + 1 - 1 - i = t - i by omega, show t - (t - i) = i by omega, Int.mul_comm]
end Go.Proofs.YtmjokfcojilidaaGreatDoor
/-
  Arguments, read as data: what every card wants.
-/
namespace Go.Proofs.YtmjokfcojilidaaGreatDoor
open Go.ChangeShapes Go.WideShapes Go.ChangeAt Go.RowKit Go.Joins
set_option linter.unusedVariables false
set_option linter.unusedSimpArgs false

theorem own : ownKnob Tryz.prog.godebug = none := by kernel_rfl
theorem laidOut : laidOutB Tryz.prog = true := by kernel_rfl
end Go.Proofs.YtmjokfcojilidaaGreatDoor
/-
  What an argument of type api.Poly is, read as data.
-/
namespace Go.Proofs.YtmjokfcojilidaaGreatDoor
open Go.ChangeShapes Go.WideShapes Go.ChangeAt Go.RowKit Go.Joins
set_option linter.unusedVariables false
set_option linter.unusedSimpArgs false

/-- An element as it may be handed in. -/
def RawE (w : World) (e : Ent) : Prop := ∃ xs, xs.length = e.n ∧ e.n ≤ e.c ∧ e.c ≤ maxLen ∧ Rd w e.p .u32 xs ∧ U32 xs ∧ (e.p = none → e.c = 0)
/-- A polynomial as it may be handed in. -/
structure PZ (w : World) (p : Option Addr) (n nc : Nat) (es : List Ent) : Prop where
  el : es.length = n
  cap : n ≤ nc
  bnd : nc ≤ maxLen
  pn : p = none → nc = 0
  pl : PL w p es
  ev : ∀ j, j < n → RawE w (ge es j)
theorem RawE.below {w w' : World} {e : Ent} (h : RawE w e) (hb : Below w.heap.size w w') : RawE w' e := by
  obtain ⟨xs, h1, h2, h3, h4, h5, h6⟩ := h
  exact ⟨xs, h1, h2, h3, h4.below hb, h5, h6⟩
theorem PZ.below {w w' : World} {p : Option Addr} {n nc : Nat} {es : List Ent} (h : PZ w p n nc es) (hb : Below w.heap.size w w') : PZ w' p n nc es :=
  ⟨h.el, h.cap, h.bnd, h.pn, h.pl.below hb, fun j hj => (h.ev j hj).below hb⟩
theorem cellsI2 : Tryz.prog.cellsOf 24 = 2 := by kernel_rfl
theorem cellsU : Tryz.prog.cellsOf 79 = 1 := by kernel_rfl
theorem cellsUs : Tryz.prog.cellsOf 22 = 1 := by kernel_rfl
theorem cellsB : Tryz.prog.cellsOf 4 = 1 := by kernel_rfl
/-- The element of two cells. -/
def entOf : Value → Value → Ent
  | .bool s, .slice p n c => ⟨s, p, n, c⟩
  | _, _ => ez
set_option maxRecDepth 100000 in
theorem rawCells {H : Type} {enc : TypeId × Value → H} {W : World} {fuel : Nat} {v0 v1 : Value} {y0 y1 : DataW H × List MemPlace}
    (hy0 : DataW.trod enc Tryz.prog W 0 (fun _ => true) true fuel 4 [v0] = some y0) (hy1 : DataW.trod enc Tryz.prog W 0 (fun _ => true) true fuel 22 [v1] = some y1) :
    v0 = .bool (entOf v0 v1).s ∧ v1 = .slice (entOf v0 v1).p (entOf v0 v1).n (entOf v0 v1).c ∧ RawE W (entOf v0 v1) := by
  obtain ⟨s, e0, -⟩ := DataW.trod_bool Tryz.underlying4 hy0
  simp only [List.cons.injEq, and_true] at e0
  subst e0
  rcases open_ints Tryz.underlying22 Tryz.underlying79 cellsU hy1 with ⟨hcs, -⟩ | ⟨a, len, cap, zs, hcs, -, hl, hm, hz, -, hcell, hwz⟩
  · simp only [List.cons.injEq, and_true] at hcs
    subst hcs
    exact ⟨rfl, rfl, [], rfl, Nat.le_refl _, Nat.zero_le _, Rd.nil, u32_nil, fun _ => rfl⟩
  · simp only [List.cons.injEq, and_true] at hcs
    subst hcs
    simp only [if_true] at hz
    refine ⟨rfl, rfl, zs.take len, by show (zs.take len).length = len; simp; omega, hl, hm, ?_, ?_, fun h => by cases h⟩
    · intro hp
      have hp' : 0 < zs.length := by simp at hp; omega
      obtain ⟨b, off, rfl, hc⟩ := ints_at hcell hp'
      refine ⟨b, off, rfl, fun j hj => ?_⟩
      have hj' : j < len ∧ j < zs.length := by simp at hj; omega
      rw [gx_take _ _ _ hj'.1]
      exact hc j hj'.2
    · refine u32_take (fun j => ?_) len
      by_cases hj : j < zs.length
      · have := hwz zs[j] (List.getElem_mem hj)
        rw [gx_mem zs j hj]
        have h4 : 0 ≤ zs[j] ∧ zs[j] ≤ 4294967295 := by
          simpa [Lit.wf, IntKind.min, IntKind.max, IntKind.signed, IntKind.bits] using this
        exact ⟨h4.1, by omega⟩
      · rw [gx_past zs _ (Nat.le_refl _) j (by omega)]; decide
set_option maxRecDepth 100000 in
theorem openPoly {H : Type} {enc : TypeId × Value → H} {W : World} {base : Nat} {v0 : Value} {d0 : DataW H} {p0 : List MemPlace} (hv : Value.okWide Tryz.prog W .any base 26 v0)
    (h0 : DataW.Trod enc Tryz.prog W 0 (fun _ => true) true 26 v0 d0 p0) : ∃ (p : Option Addr) (n nc : Nat) (es : List Ent), v0 = .slice p n nc ∧ PZ W p n nc es := by
  obtain ⟨a0, len, cap, rfl⟩ := okWide_slice Tryz.underlying26 hv
  obtain ⟨fuel, hf⟩ := h0
  rcases Go.Deep.open_slice_pairs Tryz.underlying26 Tryz.underlying24 cellsI2 rfl rfl cellsB cellsUs hf with ⟨hcs, -⟩ | ⟨a, len', cap', m, k, V0, V1, D0, D1, P0, P1, hcs, -, hl, hm, hmm, -, hcell⟩
  · simp [Value.cells] at hcs
    obtain ⟨rfl, rfl, rfl⟩ := hcs
    exact ⟨none, 0, 0, [], rfl, ⟨rfl, Nat.le_refl _, Nat.zero_le _, fun _ => rfl, PL.nil, fun j hj => absurd hj (by omega)⟩⟩
  · simp [Value.cells] at hcs
    obtain ⟨rfl, rfl, rfl⟩ := hcs
    simp only [if_true] at hmm
    have hr : ∀ i, i < len → V0 i = .bool (entOf (V0 i) (V1 i)).s ∧ V1 i = .slice (entOf (V0 i) (V1 i)).p (entOf (V0 i) (V1 i)).n (entOf (V0 i) (V1 i)).c ∧ RawE W (entOf (V0 i) (V1 i)) := fun i hi => by
      obtain ⟨-, -, g0, g1⟩ := hcell i (by omega)
      exact rawCells g0 g1
    have hge : ∀ i, i < len → ge ((List.range len).map fun i => entOf (V0 i) (V1 i)) i = entOf (V0 i) (V1 i) := fun i hi => by simp [ge, hi]
    refine ⟨some a, len, cap, (List.range len).map fun i => entOf (V0 i) (V1 i), rfl, ⟨by simp, hl, hm, nofun, ?_, fun j hj => by rw [hge j hj]; exact (hr j hj).2.2⟩⟩
    intro hp
    have hp' : 0 < len := by simpa using hp
    obtain ⟨b, off, spot⟩ := a
    have hspot : spot = none := by simpa [Addr.add] using World.cell?_spot (hcell 0 (by omega)).1
    subst hspot
    refine ⟨b, off, rfl, fun j hj => ?_⟩
    have hj' : j < len := by simpa using hj
    obtain ⟨c0, c1, -, -⟩ := hcell j (by omega)
    obtain ⟨e0, e1, -⟩ := hr j hj'
    rw [hge j hj', ← e0, ← e1]
    rw [add_plain] at c0 c1
    exact ⟨c0, c1⟩
end Go.Proofs.YtmjokfcojilidaaGreatDoor
