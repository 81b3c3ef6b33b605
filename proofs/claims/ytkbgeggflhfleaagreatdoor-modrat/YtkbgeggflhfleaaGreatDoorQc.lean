/-
  limbs.divideRows.
-/
import Derived.Test.YtkbgeggflhfleaaGreatDoorQaQb
namespace Go.Proofs.YtkbgeggflhfleaaGreatDoor
open Go.RowKit
set_option linter.unusedVariables false
set_option linter.unusedSimpArgs false
set_option maxHeartbeats 8000000
structure Gr2 (w w' : World) (a b : Nat) : Prop where
  os : w'.os = w.os
  tape : w'.tape = w.tape
  output : w'.output = w.output
  size : w.heap.size ≤ w'.heap.size
  block : ∀ k, k < w.heap.size → k ≠ a → k ≠ b → w'.heap[k]? = w.heap[k]?
theorem Gr2.refl (w : World) (a b : Nat) : Gr2 w w a b := ⟨rfl, rfl, rfl, Nat.le_refl _, fun _ _ _ _ => rfl⟩
theorem Gr2.trans {a b : Nat} {x y z : World} (h : Gr2 x y a b) (k : Gr2 y z a b) : Gr2 x z a b :=
  ⟨k.os.trans h.os, k.tape.trans h.tape, k.output.trans h.output, Nat.le_trans h.size k.size, fun i hi h1 h2 => (k.block i (Nat.lt_of_lt_of_le hi h.size) h1 h2).trans (h.block i hi h1 h2)⟩
theorem Gr2.of1 {a b : Nat} {x y : World} (h : x.grownBy y (some a)) : Gr2 x y a b := ⟨h.os, h.tape, h.output, h.size, fun i hi h1 _ => h.block i hi (fun e => h1 (Option.some.inj e))⟩
theorem Gr2.of2 {a b : Nat} {x y : World} (h : x.grownBy y (some b)) : Gr2 x y a b := ⟨h.os, h.tape, h.output, h.size, fun i hi _ h2 => h.block i hi (fun e => h2 (Option.some.inj e))⟩
theorem Gr2.of0 {a b : Nat} {x y : World} (h : Below x.heap.size x y) : Gr2 x y a b := ⟨h.os, h.tape, h.output, h.size, fun i hi _ _ => h.block i hi⟩
theorem Gr2.rd {a b : Nat} {x y : World} {p : Option Addr} {k : IntKind} {xs : List Int} (h : Gr2 x y a b) (hr : Rd x p k xs) (h1 : Off a p) (h2 : Off b p) : Rd y p k xs :=
  hr.same fun q hq hlt => h.block q.block hlt (h1 q hq) (h2 q hq)
theorem Gr2.below {B a b : Nat} {x y : World} (h : Gr2 x y a b) (ha : B ≤ a) (hb : B ≤ b) (hB : B ≤ x.heap.size) : Below B x y :=
  ⟨h.os, h.tape, h.output, h.size, fun k hk => h.block k (by omega) (by omega) (by omega)⟩
theorem val_mid (Z X : List Int) (o n : Nat) (hX : X.length = n) (h : o + n ≤ Z.length) : val (mid Z o X) = val Z + pw o * (val X - val ((Z.drop o).take n)) := by
  have e : val Z = val (mid Z o ((Z.drop o).take n)) := by rw [mid_self Z o n h]
  rw [e]
  unfold mid
  rw [hX, part_length Z o n h, List.append_assoc, List.append_assoc, val_append, val_append, val_append, val_append, hX, part_length Z o n h, List.length_take, Nat.min_eq_left (by omega)]
  simp only [Int.mul_add, Int.mul_sub]
  omega
theorem val_take_all {xs : List Int} {n : Nat} (h : U32 xs) (hn : n ≤ xs.length) (hv : val xs < pw n) : val (xs.take n) = val xs ∧ val (xs.drop n) = 0 := by
  have e := val_drop_take xs n hn
  have h1 := val_nonneg (u32_take h n)
  have h2 := val_nonneg (u32_drop h n)
  have hp := pw_pos n
  have h3 : val (xs.drop n) = 0 := by
    rcases Int.lt_or_le 0 (val (xs.drop n)) with hc | hc
    · exfalso
      have : pw n * 1 ≤ pw n * val (xs.drop n) := Int.mul_le_mul_of_nonneg_left (by omega) (by omega)
      omega
    · omega
  rw [h3, Int.mul_zero, Int.add_zero] at e
  exact ⟨e.symm, h3⟩
theorem drop_val (xs : List Int) (i : Nat) (h : i < xs.length) : val (xs.drop i) = gx xs i + 4294967296 * val (xs.drop (i + 1)) := by
  rw [drop_cons xs i h]; rfl
structure DR (U vs Q R : List Int) (k n t : Nat) : Prop where
  ql : Q.length = k
  qu : U32 Q
  rl : R.length = k + n
  ru : U32 R
  eq : val U = pw t * (val (Q.drop t) * val vs) + val R
  hi : val (R.drop t) < val vs
theorem DR.row {U vs Q R : List Int} {k n i : Nat} (h : DR U vs Q R k n (i + 1)) (hi : i < k) (hv : vs.length = n) (hV : U32 vs) :
    val ((R.drop i).take (n + 1)) = val (R.drop i) ∧ val (R.drop (i + (n + 1))) = 0 ∧ val ((R.drop i).take (n + 1)) < 4294967296 * val vs := by
  have hl := h.rl
  have hlt : val vs < pw n := by have := val_lt hV; rwa [hv] at this
  have e := drop_val R i (by omega)
  have hg := h.ru i
  have hh := h.hi
  have hlt2 : val (R.drop i) < 4294967296 * val vs := by omega
  have hp := pw_succ n
  obtain ⟨a, b⟩ := val_take_all (n := n + 1) (u32_drop h.ru i) (by simp; omega) (by omega)
  rw [List.drop_drop] at b
  exact ⟨a, b, by omega⟩
theorem DR.next {U vs Q R new : List Int} {k n i : Nat} {q : Int} (h : DR U vs Q R k n (i + 1)) (hi : i < k) (hv : vs.length = n) (hV : U32 vs) (hnl : new.length = n + 1) (hnu : U32 new) (hq : 0 ≤ q ∧ q < 4294967296)
    (he : val new = val ((R.drop i).take (n + 1)) - q * val vs) (hlt : val new < val vs) : DR U vs (Q.set i q) (mid R i new) k n i := by
  obtain ⟨r1, r2, r3⟩ := h.row hi hv hV
  have hl := h.rl
  have hql := h.ql
  refine ⟨by rw [List.length_set]; exact h.ql, u32_set h.qu _ hq, by rw [mid_length _ _ _ (by omega)]; exact h.rl, ?_, ?_, ?_⟩
  · unfold mid
    exact u32_append (u32_append (u32_take h.ru i) hnu) (u32_drop h.ru _)
  · rw [val_mid R new i (n + 1) hnl (by omega), he, h.eq, drop_val (Q.set i q) i (by rw [List.length_set]; omega), gx_set_eq Q i q (by omega), List.drop_set_of_lt (by omega), pw_succ]
    simp only [Int.mul_add, Int.mul_sub, Int.add_mul]
    have e1 : pw i * (q * val vs) = pw i * (q * val vs) := rfl
    have e2 : pw i * (4294967296 * val (Q.drop (i + 1)) * val vs) = 4294967296 * pw i * (val (Q.drop (i + 1)) * val vs) := by
      simp only [Int.mul_assoc, Int.mul_left_comm]
    rw [e2]
    omega
  · have e : (mid R i new).drop i = new ++ R.drop (i + (n + 1)) := by
      unfold mid
      rw [hnl, List.append_assoc, List.drop_append_of_le_length (by simp; omega), List.drop_of_length_le (by simp; omega), List.nil_append]
    rw [e, val_append, r2, Int.mul_zero, Int.add_zero]
    exact hlt
theorem mid_mid (Z A B : List Int) (o : Nat) (h : A.length = B.length) (hz : o + A.length ≤ Z.length) : (mid Z o A).take o ++ B ++ (mid Z o A).drop (o + B.length) = mid Z o B := by
  have hl : (Z.take o).length = o := by simp; omega
  have e1 : (mid Z o A).take o = Z.take o := by
    unfold mid
    rw [List.append_assoc, List.take_append_of_le_length (by omega), List.take_of_length_le (by omega)]
  have e2 : (mid Z o A).drop (o + B.length) = Z.drop (o + B.length) := by
    unfold mid
    rw [← h, List.drop_append_of_le_length (by simp; omega), List.drop_of_length_le (by simp; omega), List.nil_append]
  rw [e1, e2, mid]
theorem mid_part (Z A : List Int) (o : Nat) (hz : o + A.length ≤ Z.length) : ((mid Z o A).drop o).take A.length = A := by
  have hl : (Z.take o).length = o := by simp; omega
  unfold mid
  rw [List.append_assoc, List.drop_append_of_le_length (by omega), List.drop_of_length_le (by omega), List.nil_append, List.take_append_of_le_length (Nat.le_refl _), List.take_length]
def DRPost (gq gu k n : Nat) (U vs : List Int) (w : World) (e : Ending) (w' : World) : Prop :=
  ∃ Q R, e = .returned (.tuple #[]) ∧ DR U vs Q R k n 0 ∧ Row w' gq 134 .u32 Q ∧ Row w' gu 134 .u32 R ∧ Gr2 w w' gq gu
theorem q_true {us vs : Int} {d : Int} (hV : 0 < vs) (h0 : us / vs ≤ d) (h1 : d ≤ us / vs + 1) (hs : 0 ≤ us - d * vs) : d = us / vs ∧ us - d * vs < vs := by
  have e1 := Int.lt_ediv_add_one_mul_self us hV
  rcases (show d = us / vs ∨ d = us / vs + 1 by omega) with h | h
  · refine ⟨h, ?_⟩
    rw [h]
    rw [Int.add_mul, Int.one_mul] at e1
    omega
  · rw [h] at hs; omega
theorem q_less {us vs : Int} {d : Int} (hV : 0 < vs) (h0 : us / vs ≤ d) (h1 : d ≤ us / vs + 1) (hs : us - d * vs < 0) : d - 1 = us / vs ∧ us - (d - 1) * vs < vs ∧ 0 ≤ us - (d - 1) * vs := by
  have e1 := Int.lt_ediv_add_one_mul_self us hV
  have e2 := Int.ediv_mul_le us (show vs ≠ 0 by omega)
  rcases (show d = us / vs ∨ d = us / vs + 1 by omega) with h | h
  · rw [h] at hs; omega
  · have h' : d - 1 = us / vs := by omega
    rw [h']
    rw [Int.add_mul, Int.one_mul] at e1
    exact ⟨rfl, by omega, by omega⟩
set_option maxRecDepth 100000 in
theorem divideRows_any (gq gu b2 o2 k m vc ucap : Nat) (Q0 U vs : List Int) (w : World) (hk : k ≤ 1000000) (hm : m ≤ 1000000) (hql : Q0.length = k) (hqu : U32 Q0) (hul : U.length = k + (m + 2)) (huu : U32 U) (hvl : vs.length = m + 2) (hV : U32 vs) (ht : gx vs (m + 1) ≠ 0)
    (hcap : ucap ≤ 100000000) (huc : k + (m + 2) ≤ ucap) (hQ : Row w gq 134 .u32 Q0) (hR : Row w gu 134 .u32 U) (hne : gq ≠ gu) (hY : Rd w (some ⟨b2, o2, none⟩) .u32 vs) (hn1 : b2 ≠ gq) (hn2 : b2 ≠ gu) (hhi : val (U.drop k) < val vs) :
    Calls Tryz.prog 228 #[.slice (some ⟨gq, 0, none⟩) k k, .slice (some ⟨gu, 0, none⟩) (k + (m + 2)) ucap, .slice (some ⟨b2, o2, none⟩) (m + 2) vc] w (DRPost gq gu k (m + 2) U vs w) := by
  have HVV : Hid (vs.length = m + 2 ∧ gx vs (m + 1) ≠ 0) := ⟨hvl, ht⟩
  have HS : Hid (DR U vs Q0 U k (m + 2) k) := ⟨hql, hqu, hul, huu, by rw [List.drop_of_length_le (by omega)]; simp [val], hhi⟩
  clear hvl ht hql hul hhi
  go_enter Tryz.func228, Tryz.ntmps228
  go_wp2
  go_loopw [7] (fun iv wr => ∃ (t : Nat) (Q R : List Int), t ≤ k ∧ iv = .int .i64 ((t : Int) - 1) ∧ Hid (DR U vs Q R k (m + 2) t ∧ Row wr gq 134 .u32 Q ∧ Row wr gu 134 .u32 R ∧ Gr2 w wr gq gu)) (fun iv _ => (intOf iv + 1).toNat)
  case atStart => exact ⟨k, Q0, U, Nat.le_refl _, by go_num, HS.out, hQ, hR, Gr2.refl _ _ _⟩
  case round =>
    obtain ⟨t, Q, R, htk, rfl, H⟩ := hrel
    by_cases h0 : t = 0
    · subst h0
      go_wp2
      go_end0
      exact ⟨Q, R, rfl, H.out.1, H.out.2.1, H.out.2.2.1, H.out.2.2.2⟩
    · obtain ⟨i, rfl⟩ : ∃ i, t = i + 1 := ⟨t - 1, by omega⟩
      have ei : ((i + 1 : Nat) : Int) - 1 = (i : Int) := by omega
      rw [ei]
      clear ei
      have s1 : (i : Int) + ((m : Int) + 2) + 1 ≤ (ucap : Int) := by omega
      have es : i + (m + 2) + 1 - i = m + 2 + 1 := by omega
      have ik : (i : Int) < (k : Int) := by omega
      obtain ⟨hD, hrq, hru, hgr⟩ := H.out
      obtain ⟨r1, r2, r3⟩ := hD.row (by omega) HVV.out.1 hV
      have hRl := hD.rl
      have hus : ((R.drop i).take (m + 2 + 1)).length = m + 2 + 1 := part_length R i _ (by omega)
      have hYr := hgr.rd hY (fun a ha => by cases ha; exact hn1) (fun a ha => by cases ha; exact hn2)
      have hVp : 0 < val vs := by
        have h1 := val_pos_of_top hV (show 0 < tlen vs by
          rcases Nat.eq_zero_or_pos (tlen vs) with hz | hz
          · exact absurd (tlen_zero vs (m + 1) (by omega)) HVV.out.2
          · exact hz)
        have := pw_pos (tlen vs - 1)
        omega
      have hg := guess_any gu i b2 o2 m (ucap - i) vc ((R.drop i).take (m + 2 + 1)) vs wr hus HVV.out.1 (by omega) (hru.rd i (m + 2 + 1) (by omega)) (part_u32 hD.ru i _) hYr hV HVV.out.2 r3
      have HG := hg
      have HH : Hid (DR U vs Q R k (m + 2) (i + 1) ∧ Row wr gq 134 .u32 Q ∧ Row wr gu 134 .u32 R ∧ Gr2 w wr gq gu ∧ ((R.drop i).take (m + 2 + 1)).length = m + 2 + 1 ∧ Rd wr (some ⟨b2, o2, none⟩) .u32 vs ∧ 0 < val vs ∧ R.length = k + (m + 2)) := ⟨hD, hrq, hru, hgr, hus, hYr, hVp, hRl⟩
      clear hg hD hrq hru hgr r1 r2 r3 hRl hus hYr hVp H
      go_wp2_with fail
      refine HG.mono ?_
      clear HG
      rintro e w1 ⟨d, rfl, hd0, hd1, HDq, hb1⟩
      go_wp2_with fail
      obtain ⟨hD, hrq, hru, hgr, hus, hYr, hVp, hRl⟩ := HH.out
      have hru1 := hru.below hb1 hru.lt
      have hrq1 := hrq.below hb1 hrq.lt
      have hms := mid_self R i (m + 2 + 1) (by omega)
      refine (takeTimes_any gu i (ucap - i) R ((R.drop i).take (m + 2 + 1)) (some ⟨b2, o2, none⟩) (m + 2) vc vs d w1 (by omega) (by omega) (by omega) hus (by rw [hms]; exact hru1) (part_u32 hD.ru i _) HVV.out.1 (hYr.below hb1) hV (fun _ a ha => by cases ha; exact hn2) hd0 hd1).mono ?_
      rintro e w2 ⟨R', lk, rfl, hl', hu', HV', hr', hg'⟩
      have hrq2 := hrq1.kept hg' (by intro e; cases e; exact hne rfl)
      have hnn := val_nonneg hu'
      have hlt' := val_lt hu'
      have HE : Hid (R'.length = m + 2 + 1 ∧ 0 ≤ val R' ∧ val R' < pw R'.length) := ⟨hl', hnn, hlt'⟩
      have HQ2 : Hid (Row w2 gq 134 .u32 Q ∧ Row w2 gu 134 .u32 (mid R i R') ∧ Gr2 w w2 gq gu ∧ Rd w2 (some ⟨b2, o2, none⟩) .u32 vs) :=
        ⟨hrq2, hr', (hgr.trans (Gr2.of0 hb1)).trans (Gr2.of2 hg'), (hYr.below hb1).keptOff hg' (fun a ha => by cases ha; exact hn2)⟩
      have hcq := hrq2.cell i (by have := hD.ql; omega)
      have hfq := hrq2.frozen i
      clear hD hrq hru hgr hus hYr hVp hRl hru1 hrq1 hms hb1 hl' hnn hlt' hr' hg' hrq2
      cases lk
      · go_wp2
        obtain ⟨hD, hrq, hru, hgr, hus, hYr, hVp, hRl⟩ := HH.out
        obtain ⟨e1, e2, e3⟩ := HE.out
        obtain ⟨f1, f2, f3, f4⟩ := HQ2.out
        have hv' := HV'.out
        rw [if_neg (by decide), Int.add_zero] at hv'
        obtain ⟨g1, g2⟩ := q_true hVp HDq.out.1 HDq.out.2 (by omega)
        refine ⟨⟨i, Q.set i d, mid R i R', by omega, rfl, hD.next (by omega) HVV.out.1 hV e1 hu' ⟨hd0, hd1⟩ hv' (by omega), f1.set i d, f2.set_other _ _ (fun e => hne e.symm), f3.trans (Gr2.of1 (grownBy_setCell (grownBy_refl w2 (some gq)) i _))⟩, by simp [intOf]⟩
      · have hd1p : 1 ≤ d := by
          obtain ⟨hD, hrq, hru, hgr, hus, hYr, hVp, hRl⟩ := HH.out
          obtain ⟨e1, e2, e3⟩ := HE.out
          have hv' := HV'.out
          rw [if_pos rfl] at hv'
          rw [e1] at e3
          obtain ⟨g1, g2, g3⟩ := q_less hVp HDq.out.1 HDq.out.2 (by omega)
          have := Int.ediv_nonneg (val_nonneg (part_u32 hD.ru i (m + 2 + 1))) (Int.le_of_lt hVp)
          omega
        have hwd : IntKind.u64.wrap (d - 1) = d - 1 := by rw [IntKind.wrap_u64]; omega
        go_wp2_with fail
        obtain ⟨hD, hrq, hru, hgr, hus, hYr, hVp, hRl⟩ := HH.out
        obtain ⟨e1, e2, e3⟩ := HE.out
        obtain ⟨f1, f2, f3, f4⟩ := HQ2.out
        have hmu : U32 (mid R i R') := by unfold mid; exact u32_append (u32_append (u32_take hD.ru i) hu') (u32_drop hD.ru _)
        have hml := mid_length R R' i (by omega)
        refine (addTo_any gu i (m + 2 + 1) (ucap - i) (mid R i R') (some ⟨b2, o2, none⟩) (m + 2) vc vs w2 (by omega) (by omega) (by omega) f2 hmu HVV.out.1 (by omega) f4 hV (fun _ a ha => by cases ha; exact hn2)).mono ?_
        rintro e w3 ⟨c, new, rfl, n1, n2, c0, c1, ev, hrow, hg3⟩
        have hrow' : Row w3 gu 134 .u32 (mid R i new) := by
          have := mid_mid R R' new i (by omega) (by omega)
          rw [n1] at this
          rw [← this]; exact hrow
        have hmp := mid_part R R' i (by omega)
        rw [e1] at hmp
        rw [hmp] at ev
        have hrq3 := f1.kept hg3 (by intro e; cases e; exact hne rfl)
        have hcq3 := hrq3.cell i (by have := hD.ql; omega)
        have hfq3 := hrq3.frozen i
        have HF : Hid (new.length = m + 2 + 1 ∧ U32 new ∧ 0 ≤ c ∧ c ≤ 1 ∧ val new + pw (m + 2 + 1) * c = val R' + val vs ∧ Row w3 gu 134 .u32 (mid R i new) ∧ Row w3 gq 134 .u32 Q ∧ Gr2 w w3 gq gu) := ⟨n1, n2, c0, c1, ev, hrow', hrq3, f3.trans (Gr2.of2 hg3)⟩
        clear hD hrq hru hgr hus hYr hVp hRl e1 e2 e3 f1 f2 f3 f4 hmu hml n1 n2 c0 c1 ev hrow hg3 hrow' hmp hrq3 hcq hfq
        go_wp2
        obtain ⟨hD, hrq, hru, hgr, hus, hYr, hVp, hRl⟩ := HH.out
        obtain ⟨e1, e2, e3⟩ := HE.out
        obtain ⟨n1, n2, c0, c1, ev, hrow', hrq3, hgr3⟩ := HF.out
        have hv' := HV'.out
        simp only [if_true] at hv'
        rw [e1] at e3
        obtain ⟨g1, g2, g3⟩ := q_less hVp HDq.out.1 HDq.out.2 (by omega)
        have hnl := val_lt n2
        rw [n1] at hnl
        have hcc : c = 1 := by
          rcases (show c = 0 ∨ c = 1 by omega) with h | h
          · rw [h, Int.mul_zero, Int.add_zero] at ev
            rw [Int.sub_mul, Int.one_mul] at g3
            omega
          · exact h
        rw [hcc, Int.mul_one] at ev
        have hev : val new = val ((R.drop i).take (m + 2 + 1)) - (d - 1) * val vs := by
          rw [Int.sub_mul, Int.one_mul]; omega
        refine ⟨⟨i, Q.set i (d - 1), mid R i new, by omega, rfl, hD.next (by omega) HVV.out.1 hV n1 n2 ⟨by omega, by omega⟩ hev (by omega), hrq3.set i (d - 1), hrow'.set_other _ _ (fun e => hne e.symm), hgr3.trans (Gr2.of1 (grownBy_setCell (grownBy_refl w3 (some gq)) i _))⟩, by simp [intOf]⟩
end Go.Proofs.YtkbgeggflhfleaaGreatDoor
