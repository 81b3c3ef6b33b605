/-
  ashlarref1.Add.
-/
import Derived.Test.YtgecfnoecmjacaaGreatDoorRiRjRg
import Derived.Test.YtgecfnoecmjacaaGreatDoorUfWxUp
namespace Go.Proofs.YtgecfnoecmjacaaGreatDoor
open Go.RowKit
set_option linter.unusedVariables false
set_option linter.unusedSimpArgs false


set_option maxRecDepth 100000 in
set_option maxHeartbeats 1000000 in
/-- ashlarref1.Add: the signs are the same. -/
theorem rAdd_same (s : Bool) (p q : Option Addr) (n nc m mc : Nat) (xs ys : List Int) (w : World) (hn : xs.length = n) (hm : ys.length = m) (hnb : n ≤ 1000000) (hmb : m ≤ 1000000) (hX : Rd w p .i64 xs) (hXu : U16 xs) (hY : Rd w q .i64 ys) (hYu : U16 ys) :
    Calls Tryz.prog 59 #[.agg #[.bool s, .slice p n nc], .agg #[.bool s, .slice q m mc]] w (RAns (n + m + 1) (rval s xs + rval s ys) w) := by
  have hss : (s == s) = true := by simp
  have HN : Hid (xs.length = n ∧ ys.length = m) := ⟨hn, hm⟩
  clear hn hm
  go_enter Tryz.func59, Tryz.ntmps59
  go_wp2_with fail
  have hX3 := boxes3' w (.bool s) (.slice p n nc) (.bool s) (.slice q m mc) (.bool false) (.slice none 0 0) 35 35 35
  generalize ((w.alloc (Obj.cells #[Value.bool s, Value.slice p n nc] 35)).alloc (Obj.cells #[Value.bool s, Value.slice q m mc] 35)).alloc (Obj.cells #[Value.bool false, Value.slice none 0 0] 35) = W at *
  have hXW := hX.below hX3.below
  have hYW := hY.below hX3.below
  have k0 := hX3.ca0
  have k1 := hX3.ca1
  have k2 := hX3.cb0
  have k3 := hX3.cb1
  go_region_held3 (fun w' => w'.cell? ⟨w.heap.size, 0, none⟩ = some (.bool s) ∧ w'.cell? ⟨w.heap.size, 1, none⟩ = some (.slice p n nc) ∧ w'.cell? ⟨w.heap.size + 1, 0, none⟩ = some (.bool s) ∧ w'.cell? ⟨w.heap.size + 1, 1, none⟩ = some (.slice q m mc)) (first | exact ⟨by assumption, by assumption, by assumption, by assumption⟩ | exact keepc4 (by assumption) (by assumption) | (simp [go_sem, *]; done))
    (first
      | (go_at_call 110; obtain ⟨hn, hm⟩ := HN.out; refine (radd_any p q n nc m mc xs ys _ hn hm hnb hmb hXW.drew hXu hYW.drew hYu).mono ?_; clear hn hm; rintro e w1 ⟨q1, n1, c1, D, rfl, hl1, hc1, hc2, hR1, hU1, hv1, hn1, hF1, hb1⟩; have HV1 : Hid (D.length = n1 ∧ vd D = vd xs + vd ys) := ⟨hl1, hv1⟩; clear hl1 hv1)
      | (go_at_call 56; refine (rtrim_any s q1 n1 c1 D _ HV1.out.1 hc1 hc2 hR1).mono ?_; rintro e w2 ⟨rfl, hb2⟩; obtain ⟨c0', c1', f0, f1⟩ := resbox (bnext' (undrew hb1) hb2) hX3.cr0 hX3.cr1 hX3.fr0 hX3.fr1))
  go_wp2
  have hsz := hX3.size
  refine bodyPost_ret (v := .agg #[.bool (nsg s D), .slice q1 (tlen D) (tlen D)]) (by simp [results, Tryz.results59, go_sem, c0', c1']) rfl ?_
  exact end_rn2 hX3.below (r := w.heap.size + 1 + 1) (by omega) (by omega) (undrew hb1) hb2 hR1 hF1 hU1 (by have := HV1.out.1; omega) (by omega) (by rw [rval, HV1.out.2, rval, rval]; cases s <;> simp <;> omega)

set_option maxRecDepth 100000 in
set_option maxHeartbeats 1000000 in
/-- ashlarref1.Add: the signs differ, the first is not below the second. -/
theorem rAdd_ge (s : Bool) (p q : Option Addr) (n nc m mc : Nat) (xs ys : List Int) (w : World) (hn : xs.length = n) (hm : ys.length = m) (hnb : n ≤ 1000000) (hmb : m ≤ 1000000) (tx : tlen xs = n) (ty : tlen ys = m) (hX : Rd w p .i64 xs) (hXu : U16 xs) (hY : Rd w q .i64 ys) (hYu : U16 ys) (hge : vd ys ≤ vd xs) :
    Calls Tryz.prog 59 #[.agg #[.bool s, .slice p n nc], .agg #[.bool (!s), .slice q m mc]] w (RAns (n + m + 1) (rval s xs + rval (!s) ys) w) := by
  have hss : (s == !s) = false := by cases s <;> rfl
  have hic : 0 ≤ icmp (vd xs) (vd ys) := by
    rw [icmp, if_neg (by omega)]; split <;> decide
  have hmn : m ≤ n := by
    rcases Nat.lt_or_ge n m with h | h
    · have := vd_lt_len hXu hYu (by omega); omega
    · exact h
  have HN : Hid ((xs.length = n ∧ ys.length = m) ∧ tlen xs = n ∧ tlen ys = m) := ⟨⟨hn, hm⟩, tx, ty⟩
  clear hn hm tx ty
  go_enter Tryz.func59, Tryz.ntmps59
  go_wp2_with fail
  have hX0 := boxes3' w (.bool s) (.slice p n nc) (.bool (!s)) (.slice q m mc) (.bool false) (.slice none 0 0) 35 35 35
  generalize ((w.alloc (Obj.cells #[Value.bool s, Value.slice p n nc] 35)).alloc (Obj.cells #[Value.bool !s, Value.slice q m mc] 35)).alloc (Obj.cells #[Value.bool false, Value.slice none 0 0] 35) = W0 at *
  refine (rcmp_any p q n nc m mc xs ys _ HN.out.1.1 HN.out.1.2 (by omega) (by omega) HN.out.2.1 HN.out.2.2 (hX.below hX0.below) hXu (hY.below hX0.below) hYu).mono ?_
  rintro e W ⟨rfl, hb0⟩
  have hX3 := hX0.later hb0
  clear hX0 hb0 W0
  have hXW := hX.below hX3.below
  have hYW := hY.below hX3.below
  have k0 := hX3.ca0
  have k1 := hX3.ca1
  have k2 := hX3.cb0
  have k3 := hX3.cb1
  go_wp2_with fail
  go_region_held3 (fun w' => w'.cell? ⟨w.heap.size, 0, none⟩ = some (.bool s) ∧ w'.cell? ⟨w.heap.size, 1, none⟩ = some (.slice p n nc) ∧ w'.cell? ⟨w.heap.size + 1, 0, none⟩ = some (.bool (!s)) ∧ w'.cell? ⟨w.heap.size + 1, 1, none⟩ = some (.slice q m mc)) (first | exact ⟨by assumption, by assumption, by assumption, by assumption⟩ | exact keepc4 (by assumption) (by assumption) | (simp [go_sem, *]; done))
    (first
      | (go_at_call 112; obtain ⟨⟨hn, hm⟩, tx, ty⟩ := HN.out; refine (rsub_any p q n nc m mc xs ys _ hn hm hnb hmn hge hXW.drew hXu hYW.drew hYu).mono ?_; clear hn hm tx ty; rintro e w1 ⟨q1, n1, c1, D, rfl, hl1, hc1, hc2, hR1, hU1, hv1, hn1, hF1, hb1⟩; have HV1 : Hid (D.length = n1 ∧ vd D = vd xs - vd ys) := ⟨hl1, hv1⟩; clear hl1 hv1)
      | (go_at_call 56; refine (rtrim_any s q1 n1 c1 D _ HV1.out.1 hc1 hc2 hR1).mono ?_; rintro e w2 ⟨rfl, hb2⟩; obtain ⟨c0', c1', f0, f1⟩ := resbox (bnext' (undrew hb1) hb2) hX3.cr0 hX3.cr1 hX3.fr0 hX3.fr1))
  go_wp2
  have hsz := hX3.size
  refine bodyPost_ret (v := .agg #[.bool (nsg s D), .slice q1 (tlen D) (tlen D)]) (by simp [results, Tryz.results59, go_sem, c0', c1']) rfl ?_
  exact end_rn2 hX3.below (r := w.heap.size + 1 + 1) (by omega) (by omega) (undrew hb1) hb2 hR1 hF1 hU1 (by have := HV1.out.1; omega) (by omega) (by rw [rval, HV1.out.2, rval, rval]; cases s <;> simp <;> omega)

set_option maxRecDepth 100000 in
set_option maxHeartbeats 1000000 in
/-- ashlarref1.Add: the signs differ, the first is below the second. -/
theorem rAdd_lt (s : Bool) (p q : Option Addr) (n nc m mc : Nat) (xs ys : List Int) (w : World) (hn : xs.length = n) (hm : ys.length = m) (hnb : n ≤ 1000000) (hmb : m ≤ 1000000) (tx : tlen xs = n) (ty : tlen ys = m) (hX : Rd w p .i64 xs) (hXu : U16 xs) (hY : Rd w q .i64 ys) (hYu : U16 ys) (hge : vd xs < vd ys) :
    Calls Tryz.prog 59 #[.agg #[.bool s, .slice p n nc], .agg #[.bool (!s), .slice q m mc]] w (RAns (n + m + 1) (rval s xs + rval (!s) ys) w) := by
  have hss : (s == !s) = false := by cases s <;> rfl
  have hic : ¬ 0 ≤ icmp (vd xs) (vd ys) := by
    rw [icmp_lt hge]; decide
  have hmn : n ≤ m := by
    rcases Nat.lt_or_ge m n with h | h
    · have := vd_lt_len hYu hXu (by omega); omega
    · exact h
  have HN : Hid ((xs.length = n ∧ ys.length = m) ∧ tlen xs = n ∧ tlen ys = m) := ⟨⟨hn, hm⟩, tx, ty⟩
  clear hn hm tx ty
  go_enter Tryz.func59, Tryz.ntmps59
  go_wp2_with fail
  have hX0 := boxes3' w (.bool s) (.slice p n nc) (.bool (!s)) (.slice q m mc) (.bool false) (.slice none 0 0) 35 35 35
  generalize ((w.alloc (Obj.cells #[Value.bool s, Value.slice p n nc] 35)).alloc (Obj.cells #[Value.bool !s, Value.slice q m mc] 35)).alloc (Obj.cells #[Value.bool false, Value.slice none 0 0] 35) = W0 at *
  refine (rcmp_any p q n nc m mc xs ys _ HN.out.1.1 HN.out.1.2 (by omega) (by omega) HN.out.2.1 HN.out.2.2 (hX.below hX0.below) hXu (hY.below hX0.below) hYu).mono ?_
  rintro e W ⟨rfl, hb0⟩
  have hX3 := hX0.later hb0
  clear hX0 hb0 W0
  have hXW := hX.below hX3.below
  have hYW := hY.below hX3.below
  have k0 := hX3.ca0
  have k1 := hX3.ca1
  have k2 := hX3.cb0
  have k3 := hX3.cb1
  go_wp2_with fail
  go_region_held3 (fun w' => w'.cell? ⟨w.heap.size, 0, none⟩ = some (.bool s) ∧ w'.cell? ⟨w.heap.size, 1, none⟩ = some (.slice p n nc) ∧ w'.cell? ⟨w.heap.size + 1, 0, none⟩ = some (.bool (!s)) ∧ w'.cell? ⟨w.heap.size + 1, 1, none⟩ = some (.slice q m mc)) (first | exact ⟨by assumption, by assumption, by assumption, by assumption⟩ | exact keepc4 (by assumption) (by assumption) | (simp [go_sem, *]; done))
    (first
      | (go_at_call 112; obtain ⟨⟨hn, hm⟩, tx, ty⟩ := HN.out; refine (rsub_any q p m mc n nc ys xs _ hm hn hmb hmn (by omega) hYW.drew hYu hXW.drew hXu).mono ?_; clear hn hm tx ty; rintro e w1 ⟨q1, n1, c1, D, rfl, hl1, hc1, hc2, hR1, hU1, hv1, hn1, hF1, hb1⟩; have HV1 : Hid (D.length = n1 ∧ vd D = vd ys - vd xs) := ⟨hl1, hv1⟩; clear hl1 hv1)
      | (go_at_call 56; refine (rtrim_any (!s) q1 n1 c1 D _ HV1.out.1 hc1 hc2 hR1).mono ?_; rintro e w2 ⟨rfl, hb2⟩; obtain ⟨c0', c1', f0, f1⟩ := resbox (bnext' (undrew hb1) hb2) hX3.cr0 hX3.cr1 hX3.fr0 hX3.fr1))
  go_wp2
  have hsz := hX3.size
  refine bodyPost_ret (v := .agg #[.bool (nsg (!s) D), .slice q1 (tlen D) (tlen D)]) (by simp [results, Tryz.results59, go_sem, c0', c1']) rfl ?_
  exact end_rn2 hX3.below (r := w.heap.size + 1 + 1) (by omega) (by omega) (undrew hb1) hb2 hR1 hF1 hU1 (by have := HV1.out.1; omega) (by omega) (by rw [rval, HV1.out.2, rval, rval]; cases s <;> simp <;> omega)

/-- ashlarref1.Add of two that are known. -/
theorem rAdd_rn {w : World} {s t : Bool} {p q : Option Addr} {n m : Nat} {xs ys : List Int} (h : RN w s p n xs) (k : RN w t q m ys) (hn : n ≤ 1000000) (hm : m ≤ 1000000) :
    Calls Tryz.prog 59 #[.agg #[.bool s, .slice p n n], .agg #[.bool t, .slice q m m]] w (RAns (n + m + 1) (rval s xs + rval t ys) w) := by
  by_cases e : s = t
  · subst e; exact rAdd_same s p q n n m m xs ys w h.len k.len hn hm h.rd h.u k.rd k.u
  · have : t = !s := by cases s <;> cases t <;> simp_all
    subst this
    rcases Int.lt_or_le (vd xs) (vd ys) with hv | hv
    · exact rAdd_lt s p q n n m m xs ys w h.len k.len hn hm h.nrm k.nrm h.rd h.u k.rd k.u hv
    · exact rAdd_ge s p q n n m m xs ys w h.len k.len hn hm h.nrm k.nrm h.rd h.u k.rd k.u hv
end Go.Proofs.YtgecfnoecmjacaaGreatDoor
/-
  upoly.read, Norm, Deg.
-/
namespace Go.Proofs.YtgecfnoecmjacaaGreatDoor
open Go.RowKit
set_option linter.unusedVariables false
set_option linter.unusedSimpArgs false

/-- A polynomial as read gives it. -/
structure PB (B : Nat) (w : World) (K : Nat) (p : Option Addr) (n : Nat) (es : List Ent) (zs : List Int) : Prop where
  el : es.length = n
  zl : zs.length = n
  nrm : tlen zs = n
  pl : PL w p es
  fr : Go.Proofs.YtgecfnoecmjacaaGreatDoor.From B p
  ev : ∀ j, j < n → EN w K (gx zs j) (ge es j)
theorem EN.set2 {w : World} {K : Nat} {z : Int} {e : Ent} {g o : Nat} {u v : Value} (h : EN w K z e) (ho : 0 < e.n → Off g e.p) : EN ((w.setCell ⟨g, o, none⟩ u).setCell ⟨g, o + 1, none⟩ v) K z e := by
  obtain ⟨xs, h1, h2⟩ := h
  refine ⟨xs, ⟨h1.len, h1.cap, h1.bnd, h1.sml, fun hx => ?_, h1.u⟩, h2⟩
  have := ho (by rw [h1.len] at hx; exact hx)
  exact ((h1.rd.set_other ⟨g, o, none⟩ u this).set_other ⟨g, o + 1, none⟩ v this) hx
theorem PB.below {B : Nat} {w w' : World} {K : Nat} {p : Option Addr} {n : Nat} {es : List Ent} {zs : List Int} (h : PB B w K p n es zs) (hb : Below w.heap.size w w') : PB B w' K p n es zs := ⟨h.el, h.zl, h.nrm, h.pl.below hb, h.fr, fun j hj => (h.ev j hj).below hb⟩
theorem PB.pa {B : Nat} {w : World} {K : Nat} {p : Option Addr} {n : Nat} {es : List Ent} {zs : List Int} (h : PB B w K p n es zs) (hn : n ≤ 1000000) : PA w K p n n es zs :=
  ⟨h.el, h.zl, Nat.le_refl _, by unfold maxLen; omega, fun e => by
    rcases Nat.eq_zero_or_pos n with h0 | h0
    · exact h0
    · obtain ⟨b, o, hp, -⟩ := h.pl (by rw [h.el]; exact h0)
      rw [hp] at e
      exact absurd e (by simp), h.pl, fun j hj => (h.ev j hj).ev⟩
def PbP (zs : List Int) (K : Nat) (w : World) (e : Ending) (w' : World) : Prop :=
  ∃ p n es, e = .returned (.slice p n n) ∧ PB w.heap.size w' K p n es zs ∧ Below w.heap.size w w'
theorem PA.trim {w : World} {K : Nat} {p : Option Addr} {n nc : Nat} {es : List Ent} {zs : List Int} (h : PA w K p n nc es zs) : PA w K p (tlen zs) (tlen zs) (es.take (tlen zs)) (tr zs) := by
  have htl := tlen_le zs
  have hz := h.zl
  have hc := h.cap
  exact (h.take (tlen zs) (by omega)).clip fun e => by have := h.pn e; omega
theorem callBare (args : Array Value) (w' : World) : Sem.run Tryz.prog (callFunc 65 args) w' = .ok (.enter 65 args) w' := by
  have h1 : ¬ Tryz.f65.name = "runtime.NumGoroutine" := of_decide_eq_false (by kernel_rfl)
  have h2 : ¬ Tryz.f65.body = none := fun h => by cases h
  simp only [callFunc, Tryz.func65, go_sem]
  simp [h1, h2, go_sem]
theorem callOwn (args : Array Value) (w' : World) : Sem.run Tryz.prog (callFunc 72 args) w' = .ok (.enter 72 args) w' := by
  have h1 : ¬ Tryz.f72.name = "runtime.NumGoroutine" := of_decide_eq_false (by kernel_rfl)
  have h2 : ¬ Tryz.f72.body = none := fun h => by cases h
  simp only [callFunc, Tryz.func72, go_sem]
  simp [h1, h2, go_sem]
theorem NV.set2o {B : Nat} {w : World} {K : Nat} {z : Int} {e : Ent} {g o : Nat} {u v : Value} (h : NV B w K z e) (ho : 0 < e.n → Off g e.p) : NV B ((w.setCell ⟨g, o, none⟩ u).setCell ⟨g, o + 1, none⟩ v) K z e := by
  obtain ⟨xs, h1, h2⟩ := h
  refine ⟨xs, ⟨h1.len, fun hx => ?_, h1.u, h1.nrm, h1.sg, h1.pn, h1.v, h1.fr⟩, h2⟩
  have := ho (by rw [h1.len] at hx; exact hx)
  exact ((h1.rd.set_other ⟨g, o, none⟩ u this).set_other ⟨g, o + 1, none⟩ v this) hx
set_option maxHeartbeats 2000000 in
set_option maxRecDepth 100000 in
/-- upoly.read. -/
theorem read_any (K : Nat) (p : Option Addr) (n nc : Nat) (es : List Ent) (zs : List Int) (w : World) (h : PA w K p n nc es zs) (hn : n ≤ 1000000) (hK : K ≤ 1000) :
    Calls Tryz.prog 64 #[.slice p n nc] w (PbP (tr zs) K w) := by
  have htl := tlen_le zs
  have hzl := h.zl
  go_enter Tryz.func64, Tryz.ntmps64
  go_wp2_with fail
  refine (utrim_any K p n nc es zs _ h hn).mono ?_
  rintro e w1 ⟨rfl, hb1⟩
  have h1 := (h.below hb1).trim
  have he := each_any K _ _ _ _ _ w1 h1 (by omega) 65 #[] callBare (fun w z e => EN w K z e) id (fun _ _ _ _ h hb => h.below hb) (fun _ _ _ _ _ _ _ h ho => h.set2 ho) (fun w' z e _ hv => (bare_any hv hK).mono fun r w'' ⟨f, a, b, c, d, e'⟩ => ⟨f, a, d, fun _ => .inl ⟨b, c⟩, e'⟩)
  go_wp2_with fail
  refine he.mono ?_
  rintro e w2 ⟨q, fs, rfl, k1, k2, k3, k4, hb2⟩
  clear he
  go_wp2
  go_ret
  have hs := hb1.size
  exact ⟨q, tlen zs, fs, rfl, ⟨k1, length_tr zs, tlen_tr zs, k2, fun a ha => Nat.le_trans hs (k3 a ha), k4⟩, bnext' hb1 hb2⟩
set_option maxHeartbeats 2000000 in
set_option maxRecDepth 100000 in
/-- upoly.Norm. -/
theorem uNorm_any (K : Nat) (p : Option Addr) (n nc : Nat) (es : List Ent) (zs : List Int) (w : World) (h : PA w K p n nc es zs) (hn : n ≤ 1000000) (hK : K ≤ 1000) :
    Calls Tryz.prog 25 #[.slice p n nc] w (PnP (tr zs) K w) := by
  have htl := tlen_le zs
  have hzl := h.zl
  go_enter Tryz.func25, Tryz.ntmps25
  go_wp2_with fail
  refine (utrim_any K p n nc es zs _ h hn).mono ?_
  rintro e w1 ⟨rfl, hb1⟩
  have h1 := (h.below hb1).trim
  have he := each_any K _ _ _ _ _ w1 h1 (by omega) 72 #[] callOwn (fun w z e => NV w1.heap.size w K z e) id (fun _ _ _ _ h hb => h.below hb) (fun _ _ _ _ _ _ _ h ho => h.set2o ho) (fun w' z e hb hv => (own_any hv hK).mono fun r w'' ⟨f, a, b, c⟩ => ⟨f, a, b.mono hb.size, fun _ => .inr (by obtain ⟨xs, k, -⟩ := b; exact k.fr), c⟩)
  go_wp2_with fail
  refine he.mono ?_
  rintro e w2 ⟨q, fs, rfl, k1, k2, k3, k4, hb2⟩
  clear he
  go_wp2
  go_ret
  have hs := hb1.size
  exact ⟨q, tlen zs, fs, rfl, ⟨k1, length_tr zs, tlen_tr zs, k2, fun a ha => Nat.le_trans hs (k3 a ha), fun j hj => (k4 j hj).mono hs⟩, bnext' hb1 hb2⟩
set_option maxHeartbeats 2000000 in
/-- upoly.Deg. -/
theorem uDeg_any (K : Nat) (p : Option Addr) (n nc : Nat) (es : List Ent) (zs : List Int) (w : World) (h : PA w K p n nc es zs) (hn : n ≤ 1000000) :
    Calls Tryz.prog 29 #[.slice p n nc] w fun e w' => e = .returned (.int .i64 ((tlen zs : Int) - 1)) ∧ Below w.heap.size w w' := by
  have htl := tlen_le zs
  have hzl := h.zl
  have v : IntKind.i64.wrap ((tlen zs : Int) - 1) = (tlen zs : Int) - 1 := by rw [IntKind.wrap_i64]; omega
  go_enter Tryz.func29, Tryz.ntmps29
  go_wp2_with fail
  refine (utrim_any K p n nc es zs _ h hn).mono ?_
  rintro e w1 ⟨rfl, hb1⟩
  go_wp2
  go_ret
  exact ⟨rfl, hb1⟩
end Go.Proofs.YtgecfnoecmjacaaGreatDoor
