/-
  Rationals with a bound of their size: what is handed in (AQ), what is answered (NQ), and the contracts of package rat for them.
-/
import Derived.Test.YtongkalfdgleaaaGreatDoorZi
import Derived.Test.YtongkalfdgleaaaGreatDoorXaWg
import Derived.Test.YtongkalfdgleaaaGreatDoorRhTaSa
import Derived.Lib.IndexLaws
import Derived.Shelf.Strings.Search1
namespace Go.Proofs.YtongkalfdgleaaaGreatDoor
open Go.RowKit
set_option linter.unusedVariables false
set_option linter.unusedSimpArgs false

/-- A rational that is handed in, of the value r, its parts of at most K limbs. -/
def AQ (w : World) (K : Nat) (s : Bool) (p : Option Addr) (n nc : Nat) (t : Bool) (q : Option Addr) (m mc : Nat) (r : Rat) : Prop :=
  ∃ xs ys, AI w p n nc xs ∧ AI w q m mc ys ∧ n ≤ K ∧ m ≤ K ∧ Rat.divInt (ival s xs) (ival t ys) = r
/-- A rational that is answered. -/
def NQ (B : Nat) (w : World) (K : Nat) (s : Bool) (p : Option Addr) (n : Nat) (t : Bool) (q : Option Addr) (m : Nat) (r : Rat) : Prop :=
  ∃ xs ys, NR B w s p n xs t q m ys r ∧ n ≤ K ∧ m ≤ K
def QP (r : Rat) (K : Nat) (w : World) (e : Ending) (w' : World) : Prop :=
  ∃ s p n t q m, e = .returned (.agg #[.bool s, .slice p n n, .bool t, .slice q m m]) ∧ NQ w.heap.size w' K s p n t q m r ∧ Below w.heap.size w w'
def QcP (r : Rat) (c : Int) (K : Nat) (w : World) (e : Ending) (w' : World) : Prop :=
  ∃ s p n t q m, e = .returned (.tuple #[.agg #[.bool s, .slice p n n, .bool t, .slice q m m], .int .i64 c]) ∧ NQ w.heap.size w' K s p n t q m r ∧ Below w.heap.size w w'
/-- The parts of a rational are below pw K. -/
def Sz (r : Rat) (K : Nat) : Prop := (r.num.natAbs : Int) < pw K ∧ ((r.den : Int).natAbs : Int) < pw K
theorem Sz.up {r : Rat} {K L : Nat} (h : Sz r K) (k : K ≤ L) : Sz r L := by
  have := pw_mono k
  exact ⟨by have := h.1; omega, by have := h.2; omega⟩
section
variable {w w' : World} {K Ka Kb : Nat} {s t sa ta sb tb : Bool} {p q pa qa pb qb : Option Addr} {n nc m mc na nac ma mac nb nbc mb mbc : Nat} {r ra rb : Rat} {B : Nat}
theorem AQ.below (h : AQ w K s p n nc t q m mc r) (hb : Below w.heap.size w w') : AQ w' K s p n nc t q m mc r := by
  obtain ⟨xs, ys, h1, h2, h3⟩ := h
  exact ⟨xs, ys, h1.below hb, h2.below hb, h3⟩
theorem AQ.drew (h : AQ w K s p n nc t q m mc r) : AQ w.drew K s p n nc t q m mc r := by
  obtain ⟨xs, ys, h1, h2, h3⟩ := h
  exact ⟨xs, ys, h1.drew, h2.drew, h3⟩
theorem NQ.below (h : NQ B w K s p n t q m r) (hb : Below w.heap.size w w') : NQ B w' K s p n t q m r := by
  obtain ⟨xs, ys, h1, h2⟩ := h
  exact ⟨xs, ys, h1.below hb, h2⟩
theorem NQ.aq (h : NQ B w K s p n t q m r) (hK : K ≤ 1000) : AQ w K s p n n t q m m r := by
  obtain ⟨xs, ys, h1, h2, h3⟩ := h
  exact ⟨xs, ys, h1.num.ai (by omega), h1.den.ai (by omega), h2, h3, by rw [h1.num.v, h1.den.v, Rat.num_divInt_den]⟩
theorem AQ.sz (h : AQ w K s p n nc t q m mc r) (hK : 1 ≤ K) : Sz r K := by
  obtain ⟨xs, ys, h1, h2, h3, h4, rfl⟩ := h
  refine rat_bd ?_ ?_ hK
  · have := h1.lt s; have := pw_mono h3; omega
  · have := h2.lt t; have := pw_mono h4; omega
theorem nr_nq {xs ys : List Int} (h : NR B w s p n xs t q m ys r) (hs : Sz r K) : NQ B w K s p n t q m r := ⟨xs, ys, h, h.num.le hs.1, h.den.le hs.2⟩
theorem NQ.sized {L : Nat} (h : NQ B w K s p n t q m r) (hs : Sz r L) : NQ B w L s p n t q m r := by
  obtain ⟨xs, ys, h1, -⟩ := h
  exact nr_nq h1 hs
theorem mul_sz (ha : Sz ra Ka) (hb : Sz rb Kb) (hK : 1 ≤ Ka) : Sz (ra * rb) (Ka + Kb) := by
  have e : ra * rb = Rat.divInt (ra.num * rb.num) (ra.den * rb.den) := by
    have := Rat.divInt_mul_divInt ra.num rb.num (d₁ := ra.den) (d₂ := rb.den)
    rwa [Rat.num_divInt_den, Rat.num_divInt_den] at this
  rw [e]
  exact rat_bd (prod_bd ha.1 hb.1) (prod_bd ha.2 hb.2) (by omega)
theorem add_sz (ha : Sz ra Ka) (hb : Sz rb Kb) : Sz (ra + rb) (Ka + Kb + 1) := by
  have e : ra + rb = Rat.divInt (ra.num * rb.den + rb.num * ra.den) (ra.den * rb.den) := by
    have := Rat.divInt_add_divInt ra.num rb.num (d₁ := ra.den) (d₂ := rb.den) (by have := ra.den_nz; omega) (by have := rb.den_nz; omega)
    rwa [Rat.num_divInt_den, Rat.num_divInt_den] at this
  rw [e]
  have h2 := prod_bd hb.1 ha.2
  rw [Nat.add_comm] at h2
  refine rat_bd (sum_bd (by omega) (prod_bd ha.1 hb.2) h2) ?_ (by omega)
  have h3 := prod_bd ha.2 hb.2
  have h4 := pw_mono (show Ka + Kb ≤ Ka + Kb + 1 by omega)
  omega
theorem neg_sz (ha : Sz ra Ka) : Sz (-ra) Ka := by
  have h1 := ha.1
  have h2 := ha.2
  refine ⟨?_, ?_⟩
  · rw [Rat.neg_num]; omega
  · rw [Rat.neg_den]; exact h2
theorem quo_sz (ha : Sz ra Ka) (hb : Sz rb Kb) (hK : 1 ≤ Ka) : Sz (ra / rb) (Ka + Kb) := by
  have e : ra / rb = Rat.divInt (ra.num * rb.den) (ra.den * rb.num) := by
    rcases Classical.em (rb = 0) with h | h
    · subst h
      rw [Rat.div_def, Rat.inv_zero, Rat.mul_zero]
      simp
    · have := Rat.divInt_mul_divInt ra.num (rb.den : Int) (d₁ := ra.den) (d₂ := rb.num)
      rw [← this, Rat.num_divInt_den, Rat.div_def]
      congr 1
      rw [← Rat.inv_divInt, Rat.num_divInt_den]
  rw [e]
  exact rat_bd (prod_bd ha.1 hb.2) (prod_bd ha.2 hb.1) (by omega)
theorem QP.of {K : Nat} {e : Ending} (h : NrPost r w e w') (hs : Sz r K) : QP r K w e w' := by
  obtain ⟨s, p, n, xs, t, q, m, ys, h1, h2, h3⟩ := h
  exact ⟨s, p, n, t, q, m, h1, nr_nq h2 hs, h3⟩
theorem qAdd_q (ha : AQ w Ka sa pa na nac ta qa ma mac ra) (hb : AQ w Kb sb pb nb nbc tb qb mb mbc rb) (hKa : 1 ≤ Ka) (hKb : 1 ≤ Kb) (hK : Ka + Kb + 2 ≤ 150) :
    Calls Tryz.prog 10 #[.agg #[.bool sa, .slice pa na nac, .bool ta, .slice qa ma mac], .agg #[.bool sb, .slice pb nb nbc, .bool tb, .slice qb mb mbc]] w (QP (ra + rb) (Ka + Kb + 1) w) := by
  have hs := add_sz (ha.sz hKa) (hb.sz hKb)
  obtain ⟨xa, ya, a1, a2, a3, a4, rfl⟩ := ha
  obtain ⟨xb, yb, b1, b2, b3, b4, rfl⟩ := hb
  exact (qAdd_any sa ta sb tb pa qa pb qb na nac ma mac nb nbc mb mbc xa ya xb yb w a1 a2 b1 b2 Ka Kb hKa hKb hK a3 a4 b3 b4).mono fun e w' h => QP.of h hs
theorem qMul_q (ha : AQ w Ka sa pa na nac ta qa ma mac ra) (hb : AQ w Kb sb pb nb nbc tb qb mb mbc rb) (hKa : 1 ≤ Ka) (hKb : 1 ≤ Kb) (hK : Ka + Kb + 1 ≤ 150) :
    Calls Tryz.prog 14 #[.agg #[.bool sa, .slice pa na nac, .bool ta, .slice qa ma mac], .agg #[.bool sb, .slice pb nb nbc, .bool tb, .slice qb mb mbc]] w (QP (ra * rb) (Ka + Kb) w) := by
  have hs := mul_sz (ha.sz hKa) (hb.sz hKb) hKa
  obtain ⟨xa, ya, a1, a2, a3, a4, rfl⟩ := ha
  obtain ⟨xb, yb, b1, b2, b3, b4, rfl⟩ := hb
  exact (qMul_any sa ta sb tb pa qa pb qb na nac ma mac nb nbc mb mbc xa ya xb yb w a1 a2 b1 b2 Ka Kb hKa hKb hK a3 a4 b3 b4).mono fun e w' h => QP.of h hs
theorem qQuo_q (ha : AQ w Ka sa pa na nac ta qa ma mac ra) (hb : AQ w Kb sb pb nb nbc tb qb mb mbc rb) (hKa : 1 ≤ Ka) (hKb : 1 ≤ Kb) (hK : Ka + Kb + 1 ≤ 150) :
    Calls Tryz.prog 21 #[.agg #[.bool sa, .slice pa na nac, .bool ta, .slice qa ma mac], .agg #[.bool sb, .slice pb nb nbc, .bool tb, .slice qb mb mbc]] w (QcP (ra / rb) (if rb = 0 then 2 else 0) (Ka + Kb) w) := by
  have hs := quo_sz (ha.sz hKa) (hb.sz hKb) hKa
  obtain ⟨xa, ya, a1, a2, a3, a4, rfl⟩ := ha
  obtain ⟨xb, yb, b1, b2, b3, b4, rfl⟩ := hb
  refine (qQuo_any sa ta sb tb pa qa pb qb na nac ma mac nb nbc mb mbc xa ya xb yb w a1 a2 b1 b2 Ka Kb hKa hKb hK a3 a4 b3 b4).mono ?_
  rintro e w' ⟨s, p, n, xs, t, q, m, ys, h1, h2, h3⟩
  exact ⟨s, p, n, t, q, m, h1, nr_nq h2 hs, h3⟩
theorem qCmp_q (ha : AQ w Ka sa pa na nac ta qa ma mac ra) (hb : AQ w Kb sb pb nb nbc tb qb mb mbc rb) (hKa : 1 ≤ Ka) (hKb : 1 ≤ Kb) (hK : Ka < 80 ∧ Kb ≤ 1000) :
    Calls Tryz.prog 17 #[.agg #[.bool sa, .slice pa na nac, .bool ta, .slice qa ma mac], .agg #[.bool sb, .slice pb nb nbc, .bool tb, .slice qb mb mbc]] w fun e w' => e = .returned (.int .i64 (icmp (ra.num * rb.den) (rb.num * ra.den))) ∧ Below w.heap.size w w' := by
  obtain ⟨xa, ya, a1, a2, a3, a4, rfl⟩ := ha
  obtain ⟨xb, yb, b1, b2, b3, b4, rfl⟩ := hb
  exact qCmp_any sa ta sb tb pa qa pb qb na nac ma mac nb nbc mb mbc xa ya xb yb w a1 a2 b1 b2 Ka Kb hKa hKb hK a3 a4 b3 b4
theorem qCmp_same (ha : AQ w Ka sa pa na nac ta qa ma mac ra) (hb : AQ w Kb sb pb nb nbc tb qb mb mbc rb) (hKa : 1 ≤ Ka) (hKb : 1 ≤ Kb) (hK : Ka < 80 ∧ Kb ≤ 1000) (e : ra = rb) :
    Calls Tryz.prog 17 #[.agg #[.bool sa, .slice pa na nac, .bool ta, .slice qa ma mac], .agg #[.bool sb, .slice pb nb nbc, .bool tb, .slice qb mb mbc]] w fun e w' => e = .returned (.int .i64 0) ∧ Below w.heap.size w w' := by
  have := qCmp_q ha hb hKa hKb hK
  rwa [e, icmp_eq] at this
theorem AQ.set4 (h : AQ w K s p n nc t q m mc r) {g : Nat} (hp : 0 < n → Off g p) (hq : 0 < m → Off g q) (u v x y : Value) : AQ ((((w.setCell ⟨g, 0, none⟩ u).setCell ⟨g, 1, none⟩ v).setCell ⟨g, 2, none⟩ x).setCell ⟨g, 3, none⟩ y) K s p n nc t q m mc r := by
  obtain ⟨xs, ys, h1, h2, h3⟩ := h
  exact ⟨xs, ys, h1.set4 hp _ _ _ _, h2.set4 hq _ _ _ _, h3⟩
end
/-- A rational in a variable of its own. -/
structure Wq (w : World) (g K : Nat) (s : Bool) (p : Option Addr) (n nc : Nat) (t : Bool) (q : Option Addr) (m mc : Nat) (r : Rat) : Prop where
  b : Bq w g (.bool s) (.slice p n nc) (.bool t) (.slice q m mc)
  a : AQ w K s p n nc t q m mc r
theorem Wq.later {w w' : World} {g K : Nat} {s : Bool} {p : Option Addr} {n nc : Nat} {t : Bool} {q : Option Addr} {m mc : Nat} {r : Rat} (h : Wq w g K s p n nc t q m mc r) (hb : Below w.heap.size w w') : Wq w' g K s p n nc t q m mc r := ⟨h.b.later hb, h.a.below hb⟩
end Go.Proofs.YtongkalfdgleaaaGreatDoor
/-
  rat.Text, ashlarref2.Text.
-/
namespace Go.Proofs.YtongkalfdgleaaaGreatDoor
open Go.RowKit
set_option linter.unusedVariables false
set_option linter.unusedSimpArgs false

theorem itx_len {z : Int} {K : Nat} (h : (z.natAbs : Int) < pw K) : (itx z).length ≤ 10 * K + 2 := by
  rcases itx_is z with ⟨h1, h2⟩ | ⟨h1, m, h2, h3, h4, h5⟩
  · rw [h2]; simp
  · have e1 : pw K ≤ 10 ^ (5 * (2 * K)) := by rw [← pd_two K]; exact ten_pd _
    have e2 : m - 1 < 5 * (2 * K) := by
      rcases Nat.lt_or_ge (m - 1) (5 * (2 * K)) with h | h
      · exact h
      · have := ten_mono h; omega
    rw [h5, txt, List.length_append, length_bys, length_tx]
    split <;> simp <;> omega
theorem rtx_len {r : Rat} {K : Nat} (h : Sz r K) : (rtx r).length ≤ 20 * K + 5 := by
  have h1 := itx_len h.1
  have h2 := itx_len h.2
  rw [rtx, List.length_append]
  split <;> simp <;> omega
theorem ni_tx {B : Nat} {w : World} {s : Bool} {p : Option Addr} {n : Nat} {xs : List Int} {z : Int} {l : List UInt8} (h : NI B w s p n xs z) (ht : Tx s (val xs) l) : l = itx z := by
  have hv := h.v
  have h0 := val_nonneg h.u
  refine itx_of ?_
  have e : (z.natAbs : Int) = val xs := by rw [← hv, ival]; split <;> omega
  unfold ITx
  rw [e]
  rcases ht with ⟨h1, h2⟩ | ⟨h1, h2⟩
  · exact .inl ⟨h1, h2⟩
  · have e2 : decide (z < 0) = s := by
      rw [← hv, ival]
      cases s <;> simp <;> omega
    rw [e2]
    exact .inr ⟨h1, h2⟩
theorem Text_ni {B : Nat} {w : World} {s : Bool} {p : Option Addr} {n : Nat} {xs : List Int} {z : Int} (h : NI B w s p n xs z) (hn : n < 80) :
    Calls Tryz.prog 63 #[.agg #[.bool s, .slice p n n]] w fun e w' => e = .returned (.string ⟨(itx z).toArray⟩) ∧ Below w.heap.size w w' := by
  refine (Text_any s p n n xs w (h.ai (by omega)) hn).mono ?_
  rintro e w' ⟨l, rfl, ht, hb⟩
  rw [ni_tx h ht]
  exact ⟨rfl, hb⟩
theorem tjoin_rtx (r : Rat) : tjoin r.den ⟨(itx r.num).toArray⟩ ⟨(itx r.den).toArray⟩ = ⟨(rtx r).toArray⟩ := by
  rw [tjoin, rtx]
  split
  · simp
  · refine ByteArray.ext ?_
    simp [ByteArray.data_append]
theorem qText_q {w : World} {K : Nat} {s t : Bool} {p q : Option Addr} {n nc m mc : Nat} {r : Rat} (h : AQ w K s p n nc t q m mc r) (hK : 1 ≤ K) (hK' : K < 80) :
    Calls Tryz.prog 34 #[.agg #[.bool s, .slice p n nc, .bool t, .slice q m mc]] w fun e w' => e = .returned (.string ⟨(rtx r).toArray⟩) ∧ Below w.heap.size w w' := by
  have hs := h.sz hK
  have l1 := itx_len hs.1
  have l2 := itx_len hs.2
  obtain ⟨xs, ys, h1, h2, h3, h4, rfl⟩ := h
  rw [← tjoin_rtx]
  exact qText_any s t p q n nc m mc xs ys w h1 h2 (by omega) (by omega) _ rfl _ _ (by rw [size_bl]; omega) (by rw [size_bl]; omega) (fun B w' s' p' n' xs' h hn => Text_ni h hn) (fun _ B w' s' p' n' xs' h hn => Text_ni h hn)
end Go.Proofs.YtongkalfdgleaaaGreatDoor
/-
  strings.Cut at "/".
-/
namespace Go.Proofs.YtongkalfdgleaaaGreatDoor
open Go.RowKit Go.Lib
set_option linter.unusedVariables false
set_option linter.unusedSimpArgs false

set_option maxHeartbeats 1000000 in
set_option maxRecDepth 100000 in
theorem IndexByte_lite (l : List UInt8) (w : World) :
    Calls Tryz.prog 135 #[.string ⟨l.toArray⟩, .int .u8 47] w fun e w' => e = .returned (.int .i64 (Lib.indexByte l 47)) ∧ w' = w := by
  go_enter Tryz.func135, Tryz.ntmps135
  go_wp2
  rw [run_callFunc_extern Tryz.func143 (by kernel_rfl) (by kernel_rfl) (by kernel_rfl) (e := Extern.BytealgIndexByte.indexByte) (by kernel_rfl), Lib.run_indexByteString]
  simp only [Result.andThen]
  rw [Oper.upon_value]
  go_wp2
  go_ret
  exact ⟨rfl, rfl⟩
set_option maxHeartbeats 1000000 in
set_option maxRecDepth 100000 in
theorem Index_slash (l : List UInt8) (w : World) (hl : l.length ≤ maxLen) :
    Calls Tryz.prog 127 #[.string ⟨l.toArray⟩, .string ⟨#[47]⟩] w fun e w' => e = .returned (.int .i64 (Lib.indexByte l 47)) ∧ Below w.heap.size w w' := by
  by_cases h0 : l = [47]
  · subst h0
    go_enter Tryz.func127, Tryz.ntmps127
    go_wp2
    go_ret
    exact ⟨rfl, Below.refl _ _⟩
  · have e0 : ([47] == l) = false := by
      rw [beq_eq_false_iff_ne]
      exact fun e => h0 e.symm
    clear h0
    go_enter Tryz.func127, Tryz.ntmps127
    go_wp2_with fail
    refine (IndexByte_lite l _).mono ?_
    rintro e w1 ⟨rfl, rfl⟩
    go_wp2
    go_ret
    exact ⟨rfl, Below.refl _ _⟩
/-- What Cut answers. -/
def CtPost (l : List UInt8) (w : World) (e : Ending) (w' : World) : Prop :=
  Below w.heap.size w w' ∧ ((∃ a b, l = a ++ 47 :: b ∧ (47 : UInt8) ∉ a ∧ e = .returned (.tuple #[.string ⟨a.toArray⟩, .string ⟨b.toArray⟩, .bool true])) ∨ ((47 : UInt8) ∉ l ∧ e = .returned (.tuple #[.string ⟨l.toArray⟩, .string ⟨#[]⟩, .bool false])))
theorem idx_cases (l : List UInt8) : (Lib.indexByte l 47 = -1 ∧ (47 : UInt8) ∉ l) ∨ ∃ a b, l = a ++ 47 :: b ∧ (47 : UInt8) ∉ a ∧ Lib.indexByte l 47 = (a.length : Int) := by
  have h := Lib.indexByte_ge l 47
  rcases Int.lt_or_le (Lib.indexByte l 47) 0 with h0 | h0
  · have e : Lib.indexByte l 47 = -1 := by omega
    refine .inl ⟨e, fun hm => ?_⟩
    obtain ⟨k, hk⟩ := List.mem_iff_getElem?.1 hm
    exact Lib.indexByte_none e k hk
  · obtain ⟨o, ho⟩ : ∃ o : Nat, Lib.indexByte l 47 = o := ⟨(Lib.indexByte l 47).toNat, by omega⟩
    obtain ⟨h1, h2⟩ := Lib.indexByte_some ho
    have hlt : o < l.length := by
      rcases Nat.lt_or_ge o l.length with h | h
      · exact h
      · rw [List.getElem?_eq_none h] at h1; cases h1
    refine .inr ⟨l.take o, l.drop (o + 1), ?_, fun hm => ?_, ?_⟩
    · have h3 : l[o] = 47 := by rw [List.getElem?_eq_getElem hlt] at h1; exact Option.some.inj h1
      have := List.take_append_drop o l
      rw [List.drop_eq_getElem_cons hlt, h3] at this
      exact this.symm
    · obtain ⟨k, hk⟩ := List.mem_iff_getElem?.1 hm
      have hk' : k < o := by
        rcases Nat.lt_or_ge k o with h | h
        · exact h
        · rw [List.getElem?_eq_none (by simp; omega)] at hk; cases hk
      rw [List.getElem?_take_of_lt hk'] at hk
      exact h2 k hk' hk
    · rw [ho, List.length_take_of_le (by omega)]
theorem ext_left (a b : List UInt8) : (⟨(a ++ 47 :: b).toArray⟩ : ByteArray).extract 0 a.length = ⟨a.toArray⟩ := by
  rw [ByteArray.extract_mk]; simp
theorem ext_right (a b : List UInt8) : (⟨(a ++ 47 :: b).toArray⟩ : ByteArray).extract (a.length + 1) (a.length + (b.length + 1)) = ⟨b.toArray⟩ := by
  rw [ByteArray.extract_mk]
  simp
  rw [List.take_of_length_le (by omega)]
set_option maxHeartbeats 1000000 in
set_option maxRecDepth 100000 in
theorem Cut_lite (l : List UInt8) (w : World) (hl : l.length ≤ maxLen) :
    Calls Tryz.prog 110 #[.string ⟨l.toArray⟩, .string ⟨#[47]⟩] w (CtPost l w) := by
  have hlm := hl
  unfold maxLen at hlm
  have hix := Index_slash l w hl
  rcases idx_cases l with ⟨hi, hn⟩ | ⟨a, b, rfl, ha, hi⟩
  · rw [hi] at hix
    have HN : Hid ((47 : UInt8) ∉ l) := hn
    clear hi hn
    go_enter Tryz.func110, Tryz.ntmps110
    go_wp2_with fail
    refine hix.mono ?_
    rintro e w1 ⟨rfl, hb1⟩
    clear hix
    go_wp2
    go_ret3
    exact ⟨hb1, .inr ⟨HN.out, rfl⟩⟩
  · rw [hi] at hix
    have HA : Hid ((47 : UInt8) ∉ a) := ha
    have x1 := ext_left a b
    have x2 := ext_right a b
    have e1 : (a ++ 47 :: b).length = a.length + (b.length + 1) := by simp
    rw [e1] at hl hlm
    clear hi ha e1
    go_enter Tryz.func110, Tryz.ntmps110
    go_wp2_with fail
    refine hix.mono ?_
    rintro e w1 ⟨rfl, hb1⟩
    clear hix
    have c1 : (0 : Int) ≤ (a.length : Int) := by omega
    have c2 : (a.length : Int) ≤ (a.length : Int) + ((b.length : Int) + 1) := by omega
    have wr : IntKind.i64.wrap ((a.length : Int) + 1) = (a.length : Int) + 1 := by rw [IntKind.wrap_i64]; omega
    have c3 : (a.length : Int) + 1 ≤ (a.length : Int) + ((b.length : Int) + 1) := by omega
    have c4 : ((a.length : Int) + 1).toNat = a.length + 1 := by omega
    go_wp2
    go_quiet (fail)
    go_wp2
    go_ret3
    exact ⟨⟨hb1.os, hb1.tape, hb1.output, hb1.size, hb1.block⟩, .inl ⟨a, b, rfl, HA.out, rfl⟩⟩
set_option maxHeartbeats 1000000 in
/-- strings.Cut at "/". -/
theorem Cut_slash (l : List UInt8) (w : World) (hl : l.length ≤ maxLen) :
    Calls Tryz.prog 89 #[.string ⟨l.toArray⟩, .string ⟨#[47]⟩] w (CtPost l w) := by
  go_enter Tryz.func89, Tryz.ntmps89
  go_wp2_with fail
  refine (Cut_lite l w hl).mono ?_
  rintro e w' ⟨hb, ⟨a, b, hab, ha, rfl⟩ | ⟨hn, rfl⟩⟩
  · have HN : Hid (l = a ++ 47 :: b ∧ (47 : UInt8) ∉ a) := ⟨hab, ha⟩
    clear hab ha
    go_wp2
    go_ret3
    exact ⟨hb, .inl ⟨a, b, HN.out.1, HN.out.2, rfl⟩⟩
  · have HN : Hid ((47 : UInt8) ∉ l) := hn
    clear hn
    go_wp2
    go_ret3
    exact ⟨hb, .inr ⟨HN.out, rfl⟩⟩
end Go.Proofs.YtongkalfdgleaaaGreatDoor
