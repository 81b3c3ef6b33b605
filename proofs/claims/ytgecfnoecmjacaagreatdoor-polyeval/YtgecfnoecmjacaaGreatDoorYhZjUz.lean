/-
  ashlarref2.From, Is.
-/
import Derived.Test.YtgecfnoecmjacaaGreatDoorYdYe
import Derived.Test.YtgecfnoecmjacaaGreatDoorCuOaOfJpRzCw
import Derived.Test.YtgecfnoecmjacaaGreatDoorZdZsHr
import Derived.Test.YtgecfnoecmjacaaGreatDoorUy
namespace Go.Proofs.YtgecfnoecmjacaaGreatDoor
open Go.RowKit
set_option linter.unusedVariables false
set_option linter.unusedSimpArgs false

theorem rFrom_v {w : World} {K : Nat} {s : Bool} {p : Option Addr} {n nc : Nat} {xs : List Int} (h : AI w p n nc xs) (hn : n ≤ K) :
    Calls Tryz.prog 13 #[.agg #[.bool s, .slice p n nc]] w (RVP (2 * K) (ival s xs) w) := by
  refine (From_ansF s p n nc xs w h).mono ?_
  rintro e w' ⟨s', p', n', ds', g1, g2, g3, g4, g5, g6⟩
  exact ⟨s', p', n', g1, ⟨ds', g2, g3, by omega⟩, g5, g6⟩
theorem rIs_v {B N : Nat} {w : World} {s t : Bool} {p q : Option Addr} {n m : Nat} {xs : List Int} {z : Int} (h : NI B w s p n xs z) (hn : n ≤ 1000) (k : RV w N z t q m) (hm : N ≤ 1000) :
    Calls Tryz.prog 26 #[.agg #[.bool s, .slice p n n], .agg #[.bool t, .slice q m m]] w fun e w' => e = .returned (.bool true) ∧ Below w.heap.size w w' := by
  obtain ⟨es, k1, k2, k3⟩ := k
  exact rIs_rn h hn k1 (by omega) k2
set_option maxRecDepth 100000 in
set_option maxHeartbeats 4000000 in
/-- ashlarref2.From. -/
theorem rFrom_q {w : World} {K : Nat} {s t : Bool} {p q : Option Addr} {n nc m mc : Nat} {r : Rat} (h : AQ w K s p n nc t q m mc r) (hK : 1 ≤ K) (hK' : K ≤ 400) :
    Calls Tryz.prog 42 #[.agg #[.bool s, .slice p n nc, .bool t, .slice q m mc]] w (MP r K w) := by
  have hs : Hid (Sz r K) := h.sz hK
  obtain ⟨xs, ys, h1, h2, h3, h4, hr⟩ := h
  have hval : Hid (Rat.divInt (ival s xs) (ival t ys) = r) := hr
  clear hr
  go_enter Tryz.func42, Tryz.ntmps42
  go_wp2_with fail
  have hA0 : Bq ((w.alloc (.cells #[.bool s, .slice p n nc, .bool t, .slice q m mc] 52)).alloc (.cells #[.bool false, .slice none 0 0, .bool false, .slice none 0 0] 60)) w.heap.size (.bool s) (.slice p n nc) (.bool t) (.slice q m mc) := (Bq.new _ _ _ _ _ rfl).alloc _
  have hR0 : Bq ((w.alloc (.cells #[.bool s, .slice p n nc, .bool t, .slice q m mc] 52)).alloc (.cells #[.bool false, .slice none 0 0, .bool false, .slice none 0 0] 60)) (w.heap.size + 1) (.bool false) (.slice none 0 0) (.bool false) (.slice none 0 0) := Bq.new _ _ _ _ _ (by simp)
  have hW : Below w.heap.size w ((w.alloc (.cells #[.bool s, .slice p n nc, .bool t, .slice q m mc] 52)).alloc (.cells #[.bool false, .slice none 0 0, .bool false, .slice none 0 0] 60)) := ((Below.refl _ _).alloc (Nat.le_refl _) _).alloc (by simp) _
  generalize (w.alloc (.cells #[.bool s, .slice p n nc, .bool t, .slice q m mc] 52)).alloc (.cells #[.bool false, .slice none 0 0, .bool false, .slice none 0 0] 60) = W at *
  have k1 := h1.below hW
  have k2 := h2.below hW
  have nA : Hid (w.heap.size ≠ w.heap.size + 1) := (by omega : w.heap.size ≠ w.heap.size + 1)
  obtain ⟨a0, a1, a2, a3, -, -, -, -⟩ := hA0
  go_region_held3 (fun w' => w'.cell? ⟨w.heap.size, 0, none⟩ = some (.bool s) ∧ w'.cell? ⟨w.heap.size, 1, none⟩ = some (.slice p n nc) ∧ w'.cell? ⟨w.heap.size, 2, none⟩ = some (.bool t) ∧ w'.cell? ⟨w.heap.size, 3, none⟩ = some (.slice q m mc)) (first | with_reducible exact ⟨a0, a1, a2, a3⟩ | with_reducible exact keepc4 ⟨a0, a1, a2, a3⟩ hV1 | with_reducible exact keepc4 ⟨a0, a1, a2, a3⟩ hV2 | with_reducible exact keepc4 ⟨a0, a1, a2, a3⟩ hV3 | with_reducible exact keep4s ⟨a0, a1, a2, a3⟩ hV3 nA | (simp [go_sem, *]; done))
    (first
      | (go_at_call_of 13 (Value.agg #[.bool s, .slice p n nc]); refine (rFrom_v (K := K) k1.drew h3).mono ?_; rintro e v1 ⟨s1, p1, n1, rfl, hr1, hF1, hv1⟩; have hV1 := undrew hv1)
      | (go_at_call_of 13 (Value.agg #[.bool t, .slice q m mc]); refine (rFrom_v (K := K) (k2.below hV1) h4).mono ?_; rintro e v2 ⟨s2, p2, n2, rfl, hr2, hF2, hv2⟩; have hV2 := bnext' hV1 hv2)
      | (go_at_call 92; refine (Make_v (K := K) (hr1.below hv2) hr2 (by omega) (by omega) (by rw [hval.out]; exact hs.out)).mono ?_; rintro e v3 ⟨s3, p3, n3, t3, q3, m3, rfl, hm, hF3, hF3', hv3⟩; have hV3 := bnext' hV2 hv3; rw [hval.out] at hm; obtain ⟨r0, r1, r2, r3, f0, f1, f2, f3⟩ := hR0.later hV3))
  clear a0 a1 a2 a3
  go_wp2
  refine bodyPost_ret (v := .agg #[.bool s3, .slice p3 n3 n3, .bool t3, .slice q3 m3 m3]) (by simp [results, Tryz.results42, go_sem, r0, r1, r2, r3]) rfl ?_
  have sV := hV2.size
  exact end_mp hW (by omega) hR0.lt hV3 hm (fun a ha => Nat.le_trans sV (hF3 a ha)) (fun a ha => Nat.le_trans sV (hF3' a ha))
set_option maxRecDepth 100000 in
set_option maxHeartbeats 4000000 in
/-- ashlarref2.Is of an answer that is right. -/
theorem rIs_q {B : Nat} {w : World} {K L : Nat} {s t s' t' : Bool} {p q p' q' : Option Addr} {n m n' m' : Nat} {r : Rat} (h : NQ B w K s p n t q m r) (k : MQ w L s' p' n' t' q' m' r) (hK : K ≤ 1000) (hL : L ≤ 400) :
    Calls Tryz.prog 39 #[.agg #[.bool s, .slice p n n, .bool t, .slice q m m], .agg #[.bool s', .slice p' n' n', .bool t', .slice q' m' m']] w fun e w' => e = .returned (.bool true) ∧ Below w.heap.size w w' := by
  obtain ⟨xs, ys, h1, h2, h3⟩ := h
  go_enter Tryz.func39, Tryz.ntmps39
  go_wp2_with fail
  have hA0 : Bq ((w.alloc (.cells #[.bool s, .slice p n n, .bool t, .slice q m m] 52)).alloc (.cells #[.bool s', .slice p' n' n', .bool t', .slice q' m' m'] 60)) w.heap.size (.bool s) (.slice p n n) (.bool t) (.slice q m m) := (Bq.new _ _ _ _ _ rfl).alloc _
  have hR0 : Bq ((w.alloc (.cells #[.bool s, .slice p n n, .bool t, .slice q m m] 52)).alloc (.cells #[.bool s', .slice p' n' n', .bool t', .slice q' m' m'] 60)) (w.heap.size + 1) (.bool s') (.slice p' n' n') (.bool t') (.slice q' m' m') := Bq.new _ _ _ _ _ (by simp)
  have hW : Below w.heap.size w ((w.alloc (.cells #[.bool s, .slice p n n, .bool t, .slice q m m] 52)).alloc (.cells #[.bool s', .slice p' n' n', .bool t', .slice q' m' m'] 60)) := ((Below.refl _ _).alloc (Nat.le_refl _) _).alloc (by simp) _
  generalize (w.alloc (.cells #[.bool s, .slice p n n, .bool t, .slice q m m] 52)).alloc (.cells #[.bool s', .slice p' n' n', .bool t', .slice q' m' m'] 60) = W at *
  have k1 := h1.below hW
  have k2 := k.below hW
  refine (rIs_v k1.num (by omega) k2.num (by omega)).mono ?_
  rintro e w1 ⟨rfl, hb1⟩
  have hA1 := hA0.later hb1
  have hR1 := hR0.later hb1
  have a2 := hA1.c2
  have a3 := hA1.c3
  have r2 := hR1.c2
  have r3 := hR1.c3
  go_wp2_with fail
  refine (rIs_v (k1.below hb1).den (by omega) (k2.below hb1).den (by omega)).mono ?_
  rintro e w2 ⟨rfl, hb2⟩
  clear a2 a3 r2 r3
  go_wp2
  go_ret
  exact ⟨rfl, bnext' hW (bnext' hb1 hb2)⟩
end Go.Proofs.YtgecfnoecmjacaaGreatDoor
/-
  ashlarlaw2.Cut.
-/
namespace Go.Proofs.YtgecfnoecmjacaaGreatDoor
open Go.RowKit
set_option linter.unusedVariables false
set_option linter.unusedSimpArgs false

/-- What Cut answers. -/
def QCut (s t : Bool) (xs ys : List Int) (w : World) (e : Ending) (w' : World) : Prop :=
  ∃ p n nc q m mc, e = .returned (.agg #[.bool s, .slice p n nc, .bool t, .slice q m mc]) ∧ AI w' p n nc (xs.take 24) ∧ AI w' q m mc (ys.take 24) ∧ n ≤ 24 ∧ m ≤ 24 ∧ Go.Proofs.YtgecfnoecmjacaaGreatDoor.From w.heap.size p ∧ Go.Proofs.YtgecfnoecmjacaaGreatDoor.From w.heap.size q ∧ Below w.heap.size w w'
set_option maxRecDepth 100000 in
set_option maxHeartbeats 2000000 in
/-- ashlarlaw2.Cut. -/
theorem qCut_any (s t : Bool) (p q : Option Addr) (n nc m mc : Nat) (xs ys : List Int) (w : World) (hl : xs.length = n) (hnc : n ≤ nc) (hb : nc ≤ maxLen) (hX : Rd w p .u32 xs) (hU : U32 xs) (hp : p = none → nc = 0) (hl' : ys.length = m) (hnc' : m ≤ mc) (hb' : mc ≤ maxLen) (hX' : Rd w q .u32 ys) (hU' : U32 ys) (hp' : q = none → mc = 0) :
    Calls Tryz.prog 36 #[.agg #[.bool s, .slice p n nc, .bool t, .slice q m mc]] w (QCut s t xs ys w) := by
  go_enter Tryz.func36, Tryz.ntmps36
  go_wp2_with fail
  have hA0 : Bq ((w.alloc (.cells #[.bool s, .slice p n nc, .bool t, .slice q m mc] 52)).alloc (.cells #[.bool false, .slice none 0 0, .bool false, .slice none 0 0] 52)) w.heap.size (.bool s) (.slice p n nc) (.bool t) (.slice q m mc) := (Bq.new _ _ _ _ _ rfl).alloc _
  have hR : Bq ((w.alloc (.cells #[.bool s, .slice p n nc, .bool t, .slice q m mc] 52)).alloc (.cells #[.bool false, .slice none 0 0, .bool false, .slice none 0 0] 52)) (w.heap.size + 1) (.bool false) (.slice none 0 0) (.bool false) (.slice none 0 0) := Bq.new _ _ _ _ _ (by simp)
  have hW : Below w.heap.size w ((w.alloc (.cells #[.bool s, .slice p n nc, .bool t, .slice q m mc] 52)).alloc (.cells #[.bool false, .slice none 0 0, .bool false, .slice none 0 0] 52)) := ((Below.refl _ _).alloc (Nat.le_refl _) _).alloc (by simp) _
  generalize (w.alloc (.cells #[.bool s, .slice p n nc, .bool t, .slice q m mc] 52)).alloc (.cells #[.bool false, .slice none 0 0, .bool false, .slice none 0 0] 52) = W at *
  obtain ⟨a0, a1, a2, a3, -, -, -, -⟩ := hA0
  go_region_held3 (fun w' => w'.cell? ⟨w.heap.size, 0, none⟩ = some (.bool s) ∧ w'.cell? ⟨w.heap.size, 1, none⟩ = some (.slice p n nc) ∧ w'.cell? ⟨w.heap.size, 2, none⟩ = some (.bool t) ∧ w'.cell? ⟨w.heap.size, 3, none⟩ = some (.slice q m mc)) (first | with_reducible exact ⟨a0, a1, a2, a3⟩ | with_reducible exact keepc4 ⟨a0, a1, a2, a3⟩ hV1 | with_reducible exact keepc4 ⟨a0, a1, a2, a3⟩ hV2 | (simp [go_sem, *]; done))
    (first
      | (go_at_call_of 11 (Value.agg #[.bool s, .slice p n nc]); refine (Cut_any s p n nc xs _ hl hnc hb (hX.below hW).drew hU hp).mono ?_; rintro e v1 ⟨p1, n1, nc1, rfl, hA1, hn1, hF1, hv1⟩; have hV1 := undrew hv1)
      | (go_at_call_of 11 (Value.agg #[.bool t, .slice q m mc]); refine (Cut_any t q m mc ys _ hl' hnc' hb' ((hX'.below hW).below hV1) hU' hp').mono ?_; rintro e v2 ⟨p2, n2, nc2, rfl, hA2, hn2, hF2, hv2⟩; have hV2 := bnext' hV1 hv2; have hR2 := hR.later hV2; obtain ⟨r0, r1, r2, r3, f0, f1, f2, f3⟩ := hR2))
  clear a0 a1 a2 a3
  go_wp2
  have sR := hR.lt
  have sV := hV1.size
  refine bodyPost_ret (v := .agg #[.bool s, .slice p1 n1 nc1, .bool t, .slice p2 n2 nc2]) (by simp [results, Tryz.results36, go_sem, r0, r1, r2, r3]) rfl ⟨_, _, _, _, _, _, rfl, ?_, ?_, hn1, hn2, ?_, ?_, ?_⟩
  · exact (hA1.below hv2).set4 (fun _ => off_from hF1 sR) _ _ _ _
  · exact hA2.set4 (fun _ => off_from hF2 (by omega)) _ _ _ _
  · exact fun a ha => Nat.le_trans hW.size (hF1 a ha)
  · exact fun a ha => Nat.le_trans (Nat.le_trans hW.size sV) (hF2 a ha)
  · exact bset4 (bnext' hW hV2) (by omega) _ _ _ _
end Go.Proofs.YtgecfnoecmjacaaGreatDoor
/-
  upoly.divides, Exact, where they go.
-/
namespace Go.Proofs.YtgecfnoecmjacaaGreatDoor
open Go.RowKit
set_option linter.unusedVariables false
set_option linter.unusedSimpArgs false

theorem PN.pb {B : Nat} {w : World} {K : Nat} {p : Option Addr} {n : Nat} {es : List Ent} {zs : List Int} (h : PN B w K p n es zs) (hK : K ≤ 1000) : PB B w K p n es zs :=
  ⟨h.el, h.zl, h.nrm, h.pl, h.fr, fun j hj => (h.ev j hj).en hK⟩
/-- What exactQuotient wants of its numbers, where it goes. -/
structure EG (zs ys qs : List Int) (n m k M : Nat) : Prop where
  ql : qs.length = k
  nk : n = m + k
  k1 : 1 ≤ k
  z : ∀ t, t < n → gx zs t = ps qs ys k t
  n1 : n ≤ 1000
  bits : ∀ i, i < k → zb (gx qs i) ≤ k + pb zs + Lib.bitLen n
  hM : M < 80
  mb : ∀ i t, i ≤ k → ((ps qs ys i t).natAbs : Int) < pw M
set_option maxHeartbeats 2000000 in
/-- upoly.divides, where it does. -/
theorem divides_goes {w : World} {B C K L : Nat} {p q : Option Addr} {n m k M : Nat} {es fs : List Ent} {zs ys qs : List Int} (h : PB B w K p n es zs) (hb : PB C w L q (m + 1) fs ys) (g : EG zs ys qs n m k M) (hK : K < 80) (hL : L < 80) :
    Calls Tryz.prog 137 #[.slice q (m + 1 : Nat) (m + 1 : Nat), .slice p n n] w fun r w' => r = .returned (.bool true) ∧ Below w.heap.size w w' := by
  have he := exact_goes h hb g.ql g.nk g.k1 g.z g.n1 hK hL g.bits M g.hM g.mb
  generalize hm1 : m + 1 = m1 at *
  clear hm1
  go_enter Tryz.func137, Tryz.ntmps137
  go_wp2_with fail
  refine he.mono ?_
  rintro r w1 ⟨u, us, rfl, -, -, -, -, hb1⟩
  clear he
  go_wp2
  go_ret
  exact ⟨rfl, hb1⟩
set_option maxHeartbeats 2000000 in
/-- upoly.Exact, where it goes. -/
theorem uExact_goes {w : World} {K L : Nat} {p q : Option Addr} {n nc m mc : Nat} {es fs : List Ent} {zs ys qs : List Int} {m' k M : Nat} (h : PA w K p n nc es zs) (hb : PA w L q m mc fs ys) (g : EG (tr zs) (tr ys) qs (tlen zs) m' k M) (hm' : tlen ys = m' + 1) (hn : n ≤ 1000) (hm : m ≤ 1000) (hK : K < 80) (hL : L < 80) :
    Calls Tryz.prog 54 #[.slice p n nc, .slice q m mc] w fun r w' => ∃ u us, r = .returned (.tuple #[.slice u k k, .bool true]) ∧ us.length = k ∧ PL w' u us ∧ Go.Proofs.YtgecfnoecmjacaaGreatDoor.From w.heap.size u ∧ (∀ i, i < k → NV w.heap.size w' M (gx qs i) (ge us i)) ∧ Below w.heap.size w w' := by
  go_enter Tryz.func54, Tryz.ntmps54
  go_wp2_with fail
  refine (read_any K p n nc es zs _ h (by omega) (by omega)).mono ?_
  rintro e w1 ⟨p1, n1, es1, rfl, h1, hb1⟩
  go_wp2_with fail
  refine (read_any L q m mc fs ys _ (hb.below hb1) (by omega) (by omega)).mono ?_
  rintro e w2 ⟨q1, m1, fs1, rfl, k1, hb2⟩
  have hn' := h1.zl
  have hm1 := k1.zl
  rw [length_tr] at hn' hm1
  rw [hn'] at g
  rw [← hm1, hm'] at k1
  have he := exact_goes (h1.below hb2) k1 g.ql g.nk g.k1 g.z g.n1 hK hL g.bits M g.hM g.mb
  rw [← hm', hm1] at he
  have i1 : ¬ (m1 : Int) = 0 := by omega
  have i1' : ((m1 : Int) == 0) = false := by rw [beq_eq_false_iff_ne]; exact i1
  have i2 : (0 : Int) < (n1 : Int) := by have := g.nk; have := g.k1; omega
  have i3 : (m1 : Int) ≤ (n1 : Int) := by have := g.nk; have := g.k1; omega
  have HB := (show Hid _ from bnext' hb1 hb2)
  clear hn' hm1 h1 k1 hm' g hb1 hb2 h hb
  go_wp2_with fail
  refine he.mono ?_
  rintro r w3 ⟨u, us, rfl, r1, r2, r3, r4, hb3⟩
  clear he
  go_wp2
  go_ret2
  have hs := HB.out.size
  exact ⟨u, us, rfl, r1, r2, fun a ha => Nat.le_trans hs (r3 a ha), fun i hi => (r4 i hi).mono hs, bnext' HB.out hb3⟩
theorem pb_nil : pb [] = 0 := rfl
/-- (1 + 2x)^2 is divided by 1 + 2x. -/
theorem eg_start : EG [1, 4, 4] [1, 2] [1, 2] 3 1 2 1 where
  ql := rfl
  nk := rfl
  k1 := by decide
  z := by decide
  n1 := by decide
  bits := by
    intro i hi
    have h : zb (gx [1, 2] i) ≤ 2 := by
      rcases (show i = 0 ∨ i = 1 by omega) with rfl | rfl
      · show zb 1 ≤ 2; decide
      · show zb 2 ≤ 2; decide
    omega
  hM := by decide
  mb := by
    intro i t hi
    rcases Nat.lt_or_ge t 3 with h | h
    · have : (ps [1, 2] [1, 2] i t).natAbs ≤ 4 := by
        rcases (show i = 0 ∨ i = 1 ∨ i = 2 by omega) with rfl | rfl | rfl <;> rcases (show t = 0 ∨ t = 1 ∨ t = 2 by omega) with rfl | rfl | rfl <;> decide
      have e : pw 1 = 4294967296 := by decide
      omega
    · rw [ps_far _ _ _ _ (by simp; omega)]
      decide
end Go.Proofs.YtgecfnoecmjacaaGreatDoor
