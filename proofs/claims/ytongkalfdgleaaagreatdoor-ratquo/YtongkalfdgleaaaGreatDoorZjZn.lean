/-
  ashlarlaw2.Cut.
-/
import Derived.Test.YtongkalfdgleaaaGreatDoorZdWg
import Derived.Test.YtongkalfdgleaaaGreatDoorCu
import Derived.Test.YtongkalfdgleaaaGreatDoorZi
namespace Go.Proofs.YtongkalfdgleaaaGreatDoor
open Go.RowKit
set_option linter.unusedVariables false
set_option linter.unusedSimpArgs false

/-- What Cut answers. -/
def QCut (s t : Bool) (xs ys : List Int) (w : World) (e : Ending) (w' : World) : Prop :=
  ∃ p n nc q m mc, e = .returned (.agg #[.bool s, .slice p n nc, .bool t, .slice q m mc]) ∧ AI w' p n nc (xs.take 24) ∧ AI w' q m mc (ys.take 24) ∧ n ≤ 24 ∧ m ≤ 24 ∧ Go.Proofs.YtongkalfdgleaaaGreatDoor.From w.heap.size p ∧ Go.Proofs.YtongkalfdgleaaaGreatDoor.From w.heap.size q ∧ Below w.heap.size w w'
set_option maxRecDepth 100000 in
set_option maxHeartbeats 2000000 in
/-- ashlarlaw2.Cut. -/
theorem qCut_any (s t : Bool) (p q : Option Addr) (n nc m mc : Nat) (xs ys : List Int) (w : World) (hl : xs.length = n) (hnc : n ≤ nc) (hb : nc ≤ maxLen) (hX : Rd w p .u32 xs) (hU : U32 xs) (hp : p = none → nc = 0) (hl' : ys.length = m) (hnc' : m ≤ mc) (hb' : mc ≤ maxLen) (hX' : Rd w q .u32 ys) (hU' : U32 ys) (hp' : q = none → mc = 0) :
    Calls Tryz.prog 7 #[.agg #[.bool s, .slice p n nc, .bool t, .slice q m mc]] w (QCut s t xs ys w) := by
  go_enter Tryz.func7, Tryz.ntmps7
  go_wp2_with fail
  have hA0 : Bq ((w.alloc (.cells #[.bool s, .slice p n nc, .bool t, .slice q m mc] 26)).alloc (.cells #[.bool false, .slice none 0 0, .bool false, .slice none 0 0] 26)) w.heap.size (.bool s) (.slice p n nc) (.bool t) (.slice q m mc) := (Bq.new _ _ _ _ _ rfl).alloc _
  have hR : Bq ((w.alloc (.cells #[.bool s, .slice p n nc, .bool t, .slice q m mc] 26)).alloc (.cells #[.bool false, .slice none 0 0, .bool false, .slice none 0 0] 26)) (w.heap.size + 1) (.bool false) (.slice none 0 0) (.bool false) (.slice none 0 0) := Bq.new _ _ _ _ _ (by simp)
  have hW : Below w.heap.size w ((w.alloc (.cells #[.bool s, .slice p n nc, .bool t, .slice q m mc] 26)).alloc (.cells #[.bool false, .slice none 0 0, .bool false, .slice none 0 0] 26)) := ((Below.refl _ _).alloc (Nat.le_refl _) _).alloc (by simp) _
  generalize (w.alloc (.cells #[.bool s, .slice p n nc, .bool t, .slice q m mc] 26)).alloc (.cells #[.bool false, .slice none 0 0, .bool false, .slice none 0 0] 26) = W at *
  obtain ⟨a0, a1, a2, a3, -, -, -, -⟩ := hA0
  go_region_held3 (fun w' => w'.cell? ⟨w.heap.size, 0, none⟩ = some (.bool s) ∧ w'.cell? ⟨w.heap.size, 1, none⟩ = some (.slice p n nc) ∧ w'.cell? ⟨w.heap.size, 2, none⟩ = some (.bool t) ∧ w'.cell? ⟨w.heap.size, 3, none⟩ = some (.slice q m mc)) (first | with_reducible exact ⟨a0, a1, a2, a3⟩ | with_reducible exact keepc4 ⟨a0, a1, a2, a3⟩ hV1 | with_reducible exact keepc4 ⟨a0, a1, a2, a3⟩ hV2 | (simp [go_sem, *]; done))
    (first
      | (go_at_call_of 38 (Value.agg #[.bool s, .slice p n nc]); refine (Cut_any s p n nc xs _ hl hnc hb (hX.below hW).drew hU hp).mono ?_; rintro e v1 ⟨p1, n1, nc1, rfl, hA1, hn1, hF1, hv1⟩; have hV1 := undrew hv1)
      | (go_at_call_of 38 (Value.agg #[.bool t, .slice q m mc]); refine (Cut_any t q m mc ys _ hl' hnc' hb' ((hX'.below hW).below hV1) hU' hp').mono ?_; rintro e v2 ⟨p2, n2, nc2, rfl, hA2, hn2, hF2, hv2⟩; have hV2 := bnext' hV1 hv2; have hR2 := hR.later hV2; obtain ⟨r0, r1, r2, r3, f0, f1, f2, f3⟩ := hR2))
  clear a0 a1 a2 a3
  go_wp2
  have sR := hR.lt
  have sV := hV1.size
  refine bodyPost_ret (v := .agg #[.bool s, .slice p1 n1 nc1, .bool t, .slice p2 n2 nc2]) (by simp [results, Tryz.results7, go_sem, r0, r1, r2, r3]) rfl ⟨_, _, _, _, _, _, rfl, ?_, ?_, hn1, hn2, ?_, ?_, ?_⟩
  · exact (hA1.below hv2).set4 (fun _ => off_from hF1 sR) _ _ _ _
  · exact hA2.set4 (fun _ => off_from hF2 (by omega)) _ _ _ _
  · exact fun a ha => Nat.le_trans hW.size (hF1 a ha)
  · exact fun a ha => Nat.le_trans (Nat.le_trans hW.size sV) (hF2 a ha)
  · exact bset4 (bnext' hW hV2) (by omega) _ _ _ _
end Go.Proofs.YtongkalfdgleaaaGreatDoor
/-
  Rationals with a bound of their size: what is handed in (AQ), what is answered (NQ), and the contracts of package rat for them.
-/
namespace Go.Proofs.YtongkalfdgleaaaGreatDoor
open Go.RowKit
set_option linter.unusedVariables false
set_option linter.unusedSimpArgs false

/-- A rational that is handed in, of the value r, its parts of at most K limbs. -/
def AQ (w : World) (K : Nat) (s : Bool) (p : Option Addr) (n nc : Nat) (t : Bool) (q : Option Addr) (m mc : Nat) (r : Rat) : Prop :=
  ∃ xs ys, AI w p n nc xs ∧ AI w q m mc ys ∧ n ≤ K ∧ m ≤ K ∧ Rat.divInt (ival s xs) (ival t ys) = r
/-- A rational that is answered. -/
def NQ (B : Nat) (w : World) (K : Nat) (s : Bool) (p : Option Addr) (n : Nat) (t : Bool) (q : Option Addr) (m : Nat) (r : Rat) : Prop :=
  ∃ xs ys, NR B w s p n xs t q m ys r ∧ n ≤ K ∧ m ≤ K
def QP (r : Rat) (K : Nat) (w : World) (e : Ending) (w' : World) : Prop :=
  ∃ s p n t q m, e = .returned (.agg #[.bool s, .slice p n n, .bool t, .slice q m m]) ∧ NQ w.heap.size w' K s p n t q m r ∧ Below w.heap.size w w'
def QcP (r : Rat) (c : Int) (K : Nat) (w : World) (e : Ending) (w' : World) : Prop :=
  ∃ s p n t q m, e = .returned (.tuple #[.agg #[.bool s, .slice p n n, .bool t, .slice q m m], .int .i64 c]) ∧ NQ w.heap.size w' K s p n t q m r ∧ Below w.heap.size w w'
/-- The parts of a rational are below pw K. -/
def Sz (r : Rat) (K : Nat) : Prop := (r.num.natAbs : Int) < pw K ∧ ((r.den : Int).natAbs : Int) < pw K
theorem Sz.up {r : Rat} {K L : Nat} (h : Sz r K) (k : K ≤ L) : Sz r L := by
  have := pw_mono k
  exact ⟨by have := h.1; omega, by have := h.2; omega⟩
section
variable {w w' : World} {K Ka Kb : Nat} {s t sa ta sb tb : Bool} {p q pa qa pb qb : Option Addr} {n nc m mc na nac ma mac nb nbc mb mbc : Nat} {r ra rb : Rat} {B : Nat}
theorem AQ.below (h : AQ w K s p n nc t q m mc r) (hb : Below w.heap.size w w') : AQ w' K s p n nc t q m mc r := by
  obtain ⟨xs, ys, h1, h2, h3⟩ := h
  exact ⟨xs, ys, h1.below hb, h2.below hb, h3⟩
theorem AQ.drew (h : AQ w K s p n nc t q m mc r) : AQ w.drew K s p n nc t q m mc r := by
  obtain ⟨xs, ys, h1, h2, h3⟩ := h
  exact ⟨xs, ys, h1.drew, h2.drew, h3⟩
theorem NQ.below (h : NQ B w K s p n t q m r) (hb : Below w.heap.size w w') : NQ B w' K s p n t q m r := by
  obtain ⟨xs, ys, h1, h2⟩ := h
  exact ⟨xs, ys, h1.below hb, h2⟩
theorem NQ.aq (h : NQ B w K s p n t q m r) (hK : K ≤ 1000) : AQ w K s p n n t q m m r := by
  obtain ⟨xs, ys, h1, h2, h3⟩ := h
  exact ⟨xs, ys, h1.num.ai (by omega), h1.den.ai (by omega), h2, h3, by rw [h1.num.v, h1.den.v, Rat.num_divInt_den]⟩
theorem AQ.sz (h : AQ w K s p n nc t q m mc r) (hK : 1 ≤ K) : Sz r K := by
  obtain ⟨xs, ys, h1, h2, h3, h4, rfl⟩ := h
  refine rat_bd ?_ ?_ hK
  · have := h1.lt s; have := pw_mono h3; omega
  · have := h2.lt t; have := pw_mono h4; omega
theorem nr_nq {xs ys : List Int} (h : NR B w s p n xs t q m ys r) (hs : Sz r K) : NQ B w K s p n t q m r := ⟨xs, ys, h, h.num.le hs.1, h.den.le hs.2⟩
theorem NQ.sized {L : Nat} (h : NQ B w K s p n t q m r) (hs : Sz r L) : NQ B w L s p n t q m r := by
  obtain ⟨xs, ys, h1, -⟩ := h
  exact nr_nq h1 hs
theorem mul_sz (ha : Sz ra Ka) (hb : Sz rb Kb) (hK : 1 ≤ Ka) : Sz (ra * rb) (Ka + Kb) := by
  have e : ra * rb = Rat.divInt (ra.num * rb.num) (ra.den * rb.den) := by
    have := Rat.divInt_mul_divInt ra.num rb.num (d₁ := ra.den) (d₂ := rb.den)
    rwa [Rat.num_divInt_den, Rat.num_divInt_den] at this
  rw [e]
  exact rat_bd (prod_bd ha.1 hb.1) (prod_bd ha.2 hb.2) (by omega)
theorem add_sz (ha : Sz ra Ka) (hb : Sz rb Kb) : Sz (ra + rb) (Ka + Kb + 1) := by
  have e : ra + rb = Rat.divInt (ra.num * rb.den + rb.num * ra.den) (ra.den * rb.den) := by
    have := Rat.divInt_add_divInt ra.num rb.num (d₁ := ra.den) (d₂ := rb.den) (by have := ra.den_nz; omega) (by have := rb.den_nz; omega)
    rwa [Rat.num_divInt_den, Rat.num_divInt_den] at this
  rw [e]
  have h2 := prod_bd hb.1 ha.2
  rw [Nat.add_comm] at h2
  refine rat_bd (sum_bd (by omega) (prod_bd ha.1 hb.2) h2) ?_ (by omega)
  have h3 := prod_bd ha.2 hb.2
  have h4 := pw_mono (show Ka + Kb ≤ Ka + Kb + 1 by omega)
  omega
theorem neg_sz (ha : Sz ra Ka) : Sz (-ra) Ka := by
  have h1 := ha.1
  have h2 := ha.2
  refine ⟨?_, ?_⟩
  · rw [Rat.neg_num]; omega
  · rw [Rat.neg_den]; exact h2
theorem quo_sz (ha : Sz ra Ka) (hb : Sz rb Kb) (hK : 1 ≤ Ka) : Sz (ra / rb) (Ka + Kb) := by
  have e : ra / rb = Rat.divInt (ra.num * rb.den) (ra.den * rb.num) := by
    rcases Classical.em (rb = 0) with h | h
    · subst h
      rw [Rat.div_def, Rat.inv_zero, Rat.mul_zero]
      simp
    · have := Rat.divInt_mul_divInt ra.num (rb.den : Int) (d₁ := ra.den) (d₂ := rb.num)
      rw [← this, Rat.num_divInt_den, Rat.div_def]
      congr 1
      rw [← Rat.inv_divInt, Rat.num_divInt_den]
  rw [e]
  exact rat_bd (prod_bd ha.1 hb.2) (prod_bd ha.2 hb.1) (by omega)
theorem QP.of {K : Nat} {e : Ending} (h : NrPost r w e w') (hs : Sz r K) : QP r K w e w' := by
  obtain ⟨s, p, n, xs, t, q, m, ys, h1, h2, h3⟩ := h
  exact ⟨s, p, n, t, q, m, h1, nr_nq h2 hs, h3⟩
theorem qAdd_q (ha : AQ w Ka sa pa na nac ta qa ma mac ra) (hb : AQ w Kb sb pb nb nbc tb qb mb mbc rb) (hKa : 1 ≤ Ka) (hKb : 1 ≤ Kb) (hK : Ka + Kb + 2 ≤ 150) :
    Calls Tryz.prog 10 #[.agg #[.bool sa, .slice pa na nac, .bool ta, .slice qa ma mac], .agg #[.bool sb, .slice pb nb nbc, .bool tb, .slice qb mb mbc]] w (QP (ra + rb) (Ka + Kb + 1) w) := by
  have hs := add_sz (ha.sz hKa) (hb.sz hKb)
  obtain ⟨xa, ya, a1, a2, a3, a4, rfl⟩ := ha
  obtain ⟨xb, yb, b1, b2, b3, b4, rfl⟩ := hb
  exact (qAdd_any sa ta sb tb pa qa pb qb na nac ma mac nb nbc mb mbc xa ya xb yb w a1 a2 b1 b2 Ka Kb hKa hKb hK a3 a4 b3 b4).mono fun e w' h => QP.of h hs
theorem qMul_q (ha : AQ w Ka sa pa na nac ta qa ma mac ra) (hb : AQ w Kb sb pb nb nbc tb qb mb mbc rb) (hKa : 1 ≤ Ka) (hKb : 1 ≤ Kb) (hK : Ka + Kb + 1 ≤ 150) :
    Calls Tryz.prog 14 #[.agg #[.bool sa, .slice pa na nac, .bool ta, .slice qa ma mac], .agg #[.bool sb, .slice pb nb nbc, .bool tb, .slice qb mb mbc]] w (QP (ra * rb) (Ka + Kb) w) := by
  have hs := mul_sz (ha.sz hKa) (hb.sz hKb) hKa
  obtain ⟨xa, ya, a1, a2, a3, a4, rfl⟩ := ha
  obtain ⟨xb, yb, b1, b2, b3, b4, rfl⟩ := hb
  exact (qMul_any sa ta sb tb pa qa pb qb na nac ma mac nb nbc mb mbc xa ya xb yb w a1 a2 b1 b2 Ka Kb hKa hKb hK a3 a4 b3 b4).mono fun e w' h => QP.of h hs
theorem qQuo_q (ha : AQ w Ka sa pa na nac ta qa ma mac ra) (hb : AQ w Kb sb pb nb nbc tb qb mb mbc rb) (hKa : 1 ≤ Ka) (hKb : 1 ≤ Kb) (hK : Ka + Kb + 1 ≤ 150) :
    Calls Tryz.prog 21 #[.agg #[.bool sa, .slice pa na nac, .bool ta, .slice qa ma mac], .agg #[.bool sb, .slice pb nb nbc, .bool tb, .slice qb mb mbc]] w (QcP (ra / rb) (if rb = 0 then 2 else 0) (Ka + Kb) w) := by
  have hs := quo_sz (ha.sz hKa) (hb.sz hKb) hKa
  obtain ⟨xa, ya, a1, a2, a3, a4, rfl⟩ := ha
  obtain ⟨xb, yb, b1, b2, b3, b4, rfl⟩ := hb
  refine (qQuo_any sa ta sb tb pa qa pb qb na nac ma mac nb nbc mb mbc xa ya xb yb w a1 a2 b1 b2 Ka Kb hKa hKb hK a3 a4 b3 b4).mono ?_
  rintro e w' ⟨s, p, n, xs, t, q, m, ys, h1, h2, h3⟩
  exact ⟨s, p, n, t, q, m, h1, nr_nq h2 hs, h3⟩
theorem qCmp_q (ha : AQ w Ka sa pa na nac ta qa ma mac ra) (hb : AQ w Kb sb pb nb nbc tb qb mb mbc rb) (hKa : 1 ≤ Ka) (hKb : 1 ≤ Kb) (hK : Ka < 80 ∧ Kb ≤ 1000) :
    Calls Tryz.prog 17 #[.agg #[.bool sa, .slice pa na nac, .bool ta, .slice qa ma mac], .agg #[.bool sb, .slice pb nb nbc, .bool tb, .slice qb mb mbc]] w fun e w' => e = .returned (.int .i64 (icmp (ra.num * rb.den) (rb.num * ra.den))) ∧ Below w.heap.size w w' := by
  obtain ⟨xa, ya, a1, a2, a3, a4, rfl⟩ := ha
  obtain ⟨xb, yb, b1, b2, b3, b4, rfl⟩ := hb
  exact qCmp_any sa ta sb tb pa qa pb qb na nac ma mac nb nbc mb mbc xa ya xb yb w a1 a2 b1 b2 Ka Kb hKa hKb hK a3 a4 b3 b4
theorem qCmp_same (ha : AQ w Ka sa pa na nac ta qa ma mac ra) (hb : AQ w Kb sb pb nb nbc tb qb mb mbc rb) (hKa : 1 ≤ Ka) (hKb : 1 ≤ Kb) (hK : Ka < 80 ∧ Kb ≤ 1000) (e : ra = rb) :
    Calls Tryz.prog 17 #[.agg #[.bool sa, .slice pa na nac, .bool ta, .slice qa ma mac], .agg #[.bool sb, .slice pb nb nbc, .bool tb, .slice qb mb mbc]] w fun e w' => e = .returned (.int .i64 0) ∧ Below w.heap.size w w' := by
  have := qCmp_q ha hb hKa hKb hK
  rwa [e, icmp_eq] at this
theorem AQ.set4 (h : AQ w K s p n nc t q m mc r) {g : Nat} (hp : 0 < n → Off g p) (hq : 0 < m → Off g q) (u v x y : Value) : AQ ((((w.setCell ⟨g, 0, none⟩ u).setCell ⟨g, 1, none⟩ v).setCell ⟨g, 2, none⟩ x).setCell ⟨g, 3, none⟩ y) K s p n nc t q m mc r := by
  obtain ⟨xs, ys, h1, h2, h3⟩ := h
  exact ⟨xs, ys, h1.set4 hp _ _ _ _, h2.set4 hq _ _ _ _, h3⟩
end
/-- A rational in a variable of its own. -/
structure Wq (w : World) (g K : Nat) (s : Bool) (p : Option Addr) (n nc : Nat) (t : Bool) (q : Option Addr) (m mc : Nat) (r : Rat) : Prop where
  b : Bq w g (.bool s) (.slice p n nc) (.bool t) (.slice q m mc)
  a : AQ w K s p n nc t q m mc r
theorem Wq.later {w w' : World} {g K : Nat} {s : Bool} {p : Option Addr} {n nc : Nat} {t : Bool} {q : Option Addr} {m mc : Nat} {r : Rat} (h : Wq w g K s p n nc t q m mc r) (hb : Below w.heap.size w w') : Wq w' g K s p n nc t q m mc r := ⟨h.b.later hb, h.a.below hb⟩
end Go.Proofs.YtongkalfdgleaaaGreatDoor
