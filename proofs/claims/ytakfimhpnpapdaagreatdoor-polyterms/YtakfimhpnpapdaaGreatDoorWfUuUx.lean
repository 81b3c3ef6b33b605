import Derived.Test.YtakfimhpnpapdaaGreatDoorNi
import Derived.Test.YtakfimhpnpapdaaGreatDoorUl
import Derived.Test.YtakfimhpnpapdaaGreatDoorGgUn
import Derived.Test.YtakfimhpnpapdaaGreatDoorQh
import Derived.Shelf.SlicesE.Clone
import Derived.Ground.SlgnProg
namespace Go.Proofs.YtakfimhpnpapdaaGreatDoor
open Go.RowKit
set_option linter.unusedVariables false
set_option linter.unusedSimpArgs false

set_option maxHeartbeats 1000000 in
/-- limbs.Neg. -/
theorem Neg_any (s : Bool) (p : Option Addr) (n nc : Nat) (xs : List Int) (w : World) (hA : AI w p n nc xs) :
    Calls Tryz.prog 80 #[.agg #[.bool s, .slice p n nc]] w fun e w' => ∃ s' p' n' ys, e = .returned (.agg #[.bool s', .slice p' n' n']) ∧ NI w.heap.size w' s' p' n' ys (ival (!s) xs) ∧ n' ≤ n ∧ Below w.heap.size w w' := by
  have ht := tlen_le xs
  have hl := hA.len
  have hs := hA.sml
  go_enter Tryz.func80, Tryz.ntmps80
  go_wp2
  go_region_held3 (fun w' => w'.cell? ⟨w.heap.size, 0, none⟩ = some (.bool s) ∧ w'.cell? ⟨w.heap.size, 1, none⟩ = some (.slice p n nc)) (first | (simp [go_sem, *, World.cell?_alloc_past]; done) | exact keepc2 (by assumption) (by assumption))
    (first
      | (go_at_call 76; refine (trim_any p n nc xs _ hA.len hA.cap hA.bnd ?_).mono ?_; exact ((hA.rd.alloc _).alloc _).drew; rintro e w' ⟨rfl, rfl⟩)
      | (go_at_call 108; refine (clone_any p (tlen xs) nc (tr xs) _ (length_tr xs) (by omega) ?_).mono ?_; exact ((hA.rd.tr.alloc _).alloc _).drew; rintro e w' ⟨rfl, rfl⟩)
      | (go_at_call 77; refine (number_any (!s) (some ⟨w.heap.size + 1 + 1, 0, none⟩) (tlen xs) (tlen xs) (tr xs) _ (length_tr xs) (Nat.le_refl _) (by unfold maxLen; omega) ?_).mono ?_; exact (Row.new2 w _ _ _ _ _).drew.rd_all; rintro e w1 ⟨rfl, hb⟩; obtain ⟨c0, c1, f0, f1⟩ := resbox (r := w.heap.size + 1) (u := .bool false) (v := .slice none 0 0) hb (by simp [go_sem, World.cell?_alloc_past]) (by simp [go_sem, World.cell?_alloc_past]) (by simp [go_sem]) (by simp [go_sem])))
  go_wp2
  refine bodyPost_ret (v := .agg #[.bool (nsg (!s) (tr xs)), .slice (nad (some ⟨w.heap.size + 1 + 1, 0, none⟩) (tr xs)) (tlen (tr xs)) (tlen (tr xs))]) (by simp [results, Tryz.results80, go_sem, c0, c1]) rfl ⟨_, _, _, tr (tr xs), rfl, ?_, ?_, ?_⟩
  · rw [← ival_tr (!s) xs]
    exact ((((ni_number (B := w.heap.size + 1 + 1) (!s) (Row.new2 w _ _ _ _ _).drew.rd_all (u32_tr hA.u) (from_new (Nat.le_refl _)) ((Row.new2 w _ _ _ _ _).drew.fz 0)).below hb).set (by simp) _).set (by simp) _).mono (by omega)
  · rw [tlen_tr]; omega
  · exact ((((((Below.refl _ _).alloc (Nat.le_refl _) _).alloc (by simp) _).alloc (by simp; omega) _).drew.trans (hb.mono (by simp; omega))).setCell (by simp) _).setCell (by simp) _
end Go.Proofs.YtakfimhpnpapdaaGreatDoor
/-
  upoly.Scale; parts.
-/
namespace Go.Proofs.YtakfimhpnpapdaaGreatDoor
open Go.RowKit
set_option linter.unusedVariables false
set_option linter.unusedSimpArgs false

theorem PA.gset {w : World} {K : Nat} {p : Option Addr} {n nc : Nat} {es : List Ent} {zs : List Int} {g o : Nat} {u v : Value} (h : PA w K p n nc es zs) (hp : 0 < n → Off g p) (hq : ∀ j, j < n → 0 < (ge es j).n → Off g (ge es j).p) : PA ((w.setCell ⟨g, o, none⟩ u).setCell ⟨g, o + 1, none⟩ v) K p n nc es zs := by
  refine ⟨h.el, h.zl, h.cap, h.bnd, h.pn, fun hx => ?_, fun j hj => (h.ev j hj).set2 (hq j hj)⟩
  have ho := hp (by rw [h.el] at hx; exact hx)
  exact ((h.pl.set_other ⟨g, o, none⟩ u ho).set_other ⟨g, o + 1, none⟩ v ho) hx
theorem callScale (args : Array Value) (w' : World) : Sem.run Tryz.prog (callFunc 92 args) w' = .ok (.enter 92 args) w' := by
  have h1 : ¬ Tryz.f92.name = "runtime.NumGoroutine" := of_decide_eq_false (by kernel_rfl)
  have h2 : ¬ Tryz.f92.body = none := fun h => by cases h
  simp only [callFunc, Tryz.func92, go_sem]
  simp [h1, h2, go_sem]
theorem callParts (args : Array Value) (w' : World) : Sem.run Tryz.prog (callFunc 81 args) w' = .ok (.enter 81 args) w' := by
  have h1 : ¬ Tryz.f81.name = "runtime.NumGoroutine" := of_decide_eq_false (by kernel_rfl)
  have h2 : ¬ Tryz.f81.body = none := fun h => by cases h
  simp only [callFunc, Tryz.func81, go_sem]
  simp [h1, h2, go_sem]
set_option maxHeartbeats 2000000 in
set_option maxRecDepth 100000 in
/-- Scale's closure: a's box is handed along. -/
theorem scale1_any {w : World} {K L g : Nat} {x z : Int} {e f : Ent} (hX : Bx w g (.bool e.s) (.slice e.p e.n e.c)) (hx : EV w L x e) (h : EV w K z f) (hL : L < 80) :
    Calls Tryz.prog 92 #[.agg #[.bool f.s, .slice f.p f.n f.c], .pointer (some ⟨g, 0, none⟩)] w fun r w' => ∃ u : Ent, r = .returned (.agg #[.bool u.s, .slice u.p u.n u.c]) ∧ NV w.heap.size w' (L + K) (x * z) u ∧ Below w.heap.size w w' := by
  obtain ⟨a0, a1, -, -⟩ := ((hX.alloc (.cells #[.bool f.s, .slice f.p f.n f.c] 29)).alloc (.cells #[.bool false, .slice none 0 0] 29))
  have hR0 : Bx ((w.alloc (.cells #[.bool f.s, .slice f.p f.n f.c] 29)).alloc (.cells #[.bool false, .slice none 0 0] 29)) (w.heap.size + 1) (.bool false) (.slice none 0 0) := Bx.new _ _ _ (by simp)
  have hW0 : Below w.heap.size w ((w.alloc (.cells #[.bool f.s, .slice f.p f.n f.c] 29)).alloc (.cells #[.bool false, .slice none 0 0] 29)) := ((Below.refl _ _).alloc (Nat.le_refl _) _).alloc (by simp) _
  go_enter Tryz.func92, Tryz.ntmps92
  go_wp2_with fail
  generalize (w.alloc (.cells #[.bool f.s, .slice f.p f.n f.c] 29)).alloc (.cells #[.bool false, .slice none 0 0] 29) = W0 at *
  refine (Mul_ev (hx.below hW0) (h.below hW0) hL).mono ?_
  rintro r w1 ⟨u, rfl, hN, hb1⟩
  have sR : w.heap.size + 1 < W0.heap.size := block_lt_of_cell hR0.c0
  obtain ⟨r0, r1, f0, f1⟩ := hR0.later hb1
  have HN : Hid (NV W0.heap.size w1 (L + K) (x * z) u) := hN
  clear hN a0 a1 hR0
  go_wp2
  refine bodyPost_ret (v := .agg #[.bool u.s, .slice u.p u.n u.c]) (by simp [results, Tryz.results92, go_sem, r0, r1]) rfl ⟨u, rfl, ?_, ?_⟩
  · exact (HN.out.set2 (g := w.heap.size + 1) (o := 0) sR _ _).mono hW0.size
  · exact bset2 (bnext' hW0 hb1) (by omega) _ _
theorem NV.mulfit {B : Nat} {w : World} {K : Nat} {z : Int} {e : Ent} (h : NV B w K z e) : ∀ M, ((z.natAbs : Int) < pw M) → NV B w M z e := fun M hz => h.fit hz
theorem EV.bd {w : World} {K : Nat} {z : Int} {e : Ent} (h : EV w K z e) : (z.natAbs : Int) < pw K := by
  obtain ⟨xs, h1, h2, h3⟩ := h
  have h4 := h1.lt e.s
  rw [h2] at h4
  have := pw_mono h3
  omega
theorem gx_mapm (x : Int) (zs : List Int) (j : Nat) : gx (zs.map (x * ·)) j = x * gx zs j := by
  unfold gx
  rw [List.getD_eq_getElem?_getD, List.getD_eq_getElem?_getD, List.getElem?_map]
  cases h : zs[j]? with
  | none => simp
  | some v => simp
set_option maxHeartbeats 4000000 in
set_option maxRecDepth 100000 in
/-- upoly.Scale. -/
theorem uScale_any {w : World} {K L : Nat} {x : Int} {e : Ent} {p : Option Addr} {n nc : Nat} {es : List Ent} {zs : List Int} (h : PA w K p n nc es zs) (hx : EV w L x e) (hn : n ≤ 1000000) (hL : L < 80) (hK : K ≤ 500) :
    Calls Tryz.prog 53 #[.slice p n nc, .agg #[.bool e.s, .slice e.p e.n e.c]] w (PnP (tr ((tr zs).map (x * ·))) (L + K) w) := by
  have htl := tlen_le zs
  have hzl := h.zl
  go_enter Tryz.func53, Tryz.ntmps53
  go_wp2_with fail
  have hal := bel_al (o := .cells #[.bool e.s, .slice e.p e.n e.c] 29) (Below.refl w.heap.size w)
  have hX1 : Bx (w.alloc (.cells #[.bool e.s, .slice e.p e.n e.c] 29)) w.heap.size (.bool e.s) (.slice e.p e.n e.c) := Bx.new _ _ _ rfl
  have h1 := h.below hal
  have hx1 := hx.below hal
  have hoff : Hid (0 < e.n → Off w.heap.size e.p) := fun h0 => by obtain ⟨xs, q1, -⟩ := hx; exact q1.rd.off (Nat.le_refl _) (by rw [q1.len]; exact h0)
  have hpo : Hid (0 < n → Off w.heap.size p) := fun h0 => h.pl.off (Nat.le_refl _) (by rw [h.el]; exact h0)
  have hpe : Hid (∀ j, j < n → 0 < (ge es j).n → Off w.heap.size (ge es j).p) := fun j hj h0 => by obtain ⟨xs, q1, -⟩ := h.ev j hj; exact q1.rd.off (Nat.le_refl _) (by rw [q1.len]; exact h0)
  generalize w.alloc (.cells #[.bool e.s, .slice e.p e.n e.c] 29) = W1 at *
  refine (bare_any hx1 (by omega)).mono ?_
  rintro r v1 ⟨f, rfl, hfp, hfn, hf, hb1⟩
  obtain ⟨r0, r1, f0, f1⟩ := hX1.later hb1
  have HI : Hid (PA ((v1.setCell ⟨w.heap.size, 0, none⟩ (.bool f.s)).setCell ⟨w.heap.size, 1, none⟩ (.slice f.p f.n f.c)) K p n nc es zs ∧ EV ((v1.setCell ⟨w.heap.size, 0, none⟩ (.bool f.s)).setCell ⟨w.heap.size, 1, none⟩ (.slice f.p f.n f.c)) L x f ∧ Bx ((v1.setCell ⟨w.heap.size, 0, none⟩ (.bool f.s)).setCell ⟨w.heap.size, 1, none⟩ (.slice f.p f.n f.c)) w.heap.size (.bool f.s) (.slice f.p f.n f.c) ∧ Below w.heap.size w ((v1.setCell ⟨w.heap.size, 0, none⟩ (.bool f.s)).setCell ⟨w.heap.size, 1, none⟩ (.slice f.p f.n f.c))) := by
    refine ⟨(h1.below hb1).gset (o := 0) hpo.out hpe.out, hf.ev.set2 (o := 0) fun h0 => ?_, Bx_set (hX1.later hb1), bset2 (bnext' hal hb1) (Nat.le_refl _) _ _⟩
    rw [hfp]
    exact hoff.out (by omega)
  clear h1 hx1 hX1 hf hb1 hal hfp hfn h hx
  go_wp2_with fail
  generalize (v1.setCell ⟨w.heap.size, 0, none⟩ (.bool f.s)).setCell ⟨w.heap.size, 1, none⟩ (.slice f.p f.n f.c) = W2 at *
  obtain ⟨h2, hx2, hX2, hB2⟩ := HI.out
  refine (utrim_any K p n nc es zs _ h2 hn).mono ?_
  rintro r v2 ⟨rfl, hb2⟩
  have h3 := (h2.below hb2).trim
  have hx3 := hx2.below hb2
  have hX3 := hX2.later hb2
  have hB3 := bnext' hB2 hb2
  have he := each_any K _ _ _ _ _ v2 h3 (by omega) 92 #[.pointer (some ⟨w.heap.size, 0, none⟩)] callScale (fun w z e => NV v2.heap.size w (L + K) z e) (x * ·) (fun _ _ _ _ h hb => h.below hb) (fun _ _ _ _ _ _ _ h ho => h.set2o ho)
    (fun w' z e hb hv => (scale1_any (hX3.later hb) (hx3.below hb) hv hL).mono fun r w'' ⟨u, a, b, c⟩ => ⟨u, a, b.mono hb.size, fun _ => .inr (by obtain ⟨xs, k, -⟩ := b; exact k.fr), c⟩)
  clear h2 hx2 hX2 hb2 h3 hx3 hX3 HI r0 r1 f0 f1
  go_wp2_with fail
  refine he.mono ?_
  rintro r v3 ⟨q, fs, rfl, k1, k2, k3, k4, hb3⟩
  clear he
  have hml : ((tr zs).map (x * ·)).length = tlen zs := by rw [List.length_map, length_tr]
  have hpa : PA v3 (L + K) q (tlen zs) (tlen zs) fs ((tr zs).map (x * ·)) := by
    refine ⟨k1, hml, Nat.le_refl _, by unfold maxLen; omega, fun e => ?_, k2, fun j hj => by rw [gx_mapm]; exact (k4 j hj).ev (by omega)⟩
    rcases Nat.eq_zero_or_pos (tlen zs) with h0 | h0
    · exact h0
    · obtain ⟨b, o, hp, -⟩ := k2 (by omega)
      rw [hp] at e
      exact absurd e (by simp)
  go_wp2_with fail
  refine (utrim_any (L + K) q _ _ fs _ _ hpa (by omega)).mono ?_
  rintro r v4 ⟨rfl, hb4⟩
  have HK : Hid (fs.length = tlen zs ∧ PL v3 q fs ∧ Go.Proofs.YtakfimhpnpapdaaGreatDoor.From v2.heap.size q ∧ (∀ j, j < tlen zs → NV v2.heap.size v3 (L + K) (x * gx (tr zs) j) (ge fs j))) := ⟨k1, k2, k3, k4⟩
  clear k1 k2 k3 k4 hpa
  go_wp2
  go_ret
  obtain ⟨k1, k2, k3, k4⟩ := HK.out
  have hs := hB3.size
  have htl2 := tlen_le ((tr zs).map (x * ·))
  refine ⟨q, _, fs.take (tlen ((tr zs).map (x * ·))), rfl, ⟨by simp; omega, length_tr _, tlen_tr _, (k2.below hb4).take _, fun a ha => Nat.le_trans hs (k3 a ha), fun j hj => ?_⟩, bnext' (bnext' hB3 hb3) hb4⟩
  rw [gx_tr, ge_take _ _ _ hj, gx_mapm]
  exact ((k4 j (by omega)).below hb4).mono hs
end Go.Proofs.YtakfimhpnpapdaaGreatDoor
/-
  Lists of numbers with spare room behind; slices.Clone of a polynomial.
-/
namespace Go.Proofs.YtakfimhpnpapdaaGreatDoor
open Go.RowKit
set_option linter.unusedVariables false
set_option linter.unusedSimpArgs false

/-- Block g begins with a list. -/
def RW (w : World) (g : Nat) (t : TypeId) (es : List Ent) : Prop := ∃ spare : List Value, w.heap[g]? = some (.cells ((es.flatMap fun e => [Value.bool e.s, .slice e.p e.n e.c]) ++ spare).toArray t (0, 0))
section
variable {w w' : World} {g : Nat} {t : TypeId} {es : List Ent}
theorem RW.lt (h : RW w g t es) : g < w.heap.size := by
  obtain ⟨s, h⟩ := h
  exact (Array.getElem?_eq_some_iff.1 h).1
theorem RW.cell (h : RW w g t es) (j : Nat) (hj : j < es.length) : w.cell? ⟨g, j * 2, none⟩ = some (.bool (ge es j).s) ∧ w.cell? ⟨g, j * 2 + 1, none⟩ = some (.slice (ge es j).p (ge es j).n (ge es j).c) := by
  obtain ⟨s, h⟩ := h
  obtain ⟨h1, h2⟩ := flat_get es j hj
  have hl := flat_length es
  rw [cell_of_row w g (j * 2) _ t (0, 0) h, cell_of_row w g (j * 2 + 1) _ t (0, 0) h]
  simp only [List.getElem?_toArray]
  rw [List.getElem?_append_left (by omega), List.getElem?_append_left (by omega)]
  exact ⟨h1, h2⟩
theorem RW.frozen (h : RW w g t es) (j : Nat) : w.frozen? ⟨g, j, none⟩ = false := by
  obtain ⟨s, h⟩ := h
  exact frozen_of_row w g j _ t h
theorem RW.set (h : RW w g t es) (j : Nat) (e : Ent) (hj : j < es.length) : RW ((w.setCell ⟨g, j * 2, none⟩ (.bool e.s)).setCell ⟨g, j * 2 + 1, none⟩ (.slice e.p e.n e.c)) g t (es.set j e) := by
  obtain ⟨s, h⟩ := h
  refine ⟨s, ?_⟩
  have hl := flat_length es
  have h1 := heap_setCell_same w g (j * 2) _ t (.bool e.s) h
  rw [heap_setCell_same _ g (j * 2 + 1) _ t (.slice e.p e.n e.c) h1]
  simp only [List.setIfInBounds_toArray]
  rw [List.set_append_left _ _ (by omega), List.set_append_left _ _ (by rw [List.length_set]; omega), flat_set es j e hj]
theorem RW.below {B : Nat} (h : RW w g t es) (hb : Below B w w') (hg : g < B) : RW w' g t es := by
  obtain ⟨s, h⟩ := h
  exact ⟨s, (hb.block g hg).trans h⟩
theorem Row2.rw (h : Row2 w g t es) : RW w g t es := ⟨[], by rw [List.append_nil]; exact h⟩
theorem RW.pl (h : RW w g t es) : PL w (some ⟨g, 0, none⟩) es := fun _ => ⟨g, 0, rfl, fun j hj => by
  simp only [Nat.zero_add]; exact h.cell j hj⟩
theorem RW.set_other (h : RW w g t es) (a : Addr) (v : Value) (hne : g ≠ a.block) : RW (w.setCell a v) g t es := by
  obtain ⟨s, h⟩ := h
  exact ⟨s, (heap_setCell_other w a g v hne).trans h⟩
end
shelf_lay_g SlLaysE0.n41 Slgn 41 at Tryz 74 as Tryz.clonePoly
theorem one_flat (es : List Ent) : ∀ u ∈ es.flatMap (fun e => [Value.bool e.s, .slice e.p e.n e.c]), u.oneCell' = true := fun u hu => by
  obtain ⟨e, -, h⟩ := List.mem_flatMap.1 hu
  simp at h
  rcases h with rfl | rfl <;> rfl
theorem PL.cells {w : World} {b o : Nat} {es : List Ent} (h : ∀ j, j < es.length → w.cell? ⟨b, o + j * 2, none⟩ = some (.bool (ge es j).s) ∧ w.cell? ⟨b, o + j * 2 + 1, none⟩ = some (.slice (ge es j).p (ge es j).n (ge es j).c)) (j : Nat) (u : Value) (hj : (es.flatMap fun e => [Value.bool e.s, .slice e.p e.n e.c])[j]? = some u) : w.cell? ⟨b, o + j, none⟩ = some u := by
  have hl := flat_length es
  have hlt : j < es.length * 2 := by
    rw [← hl]
    exact (List.getElem?_eq_some_iff.1 hj).1
  obtain ⟨g0, g1⟩ := flat_get es (j / 2) (by omega)
  obtain ⟨c0, c1⟩ := h (j / 2) (by omega)
  rcases Nat.mod_two_eq_zero_or_one j with e | e
  · have hi : j / 2 * 2 = j := by omega
    rw [hi] at g0 c0
    rw [c0, ← g0, hj]
  · have hi : j / 2 * 2 + 1 = j := by omega
    rw [hi] at g1
    rw [Nat.add_assoc, hi] at c1
    rw [c1, ← g1, hj]
noncomputable def apiI : TypeInfo := (Tryz.prog.info? 29).get (by kernel_rfl)
/-- slices.Clone of a polynomial that is not zero. -/
theorem clone_poly {w : World} {K : Nat} {p : Option Addr} {n nc : Nat} {es : List Ent} {zs : List Int} (h : PA w K p n nc es zs) (hn : n ≤ 1000000) (hn1 : 1 ≤ n) :
    Calls Tryz.prog 74 #[.slice p n nc] w fun r w' => ∃ g cap, r = .returned (.slice (some ⟨g, 0, none⟩) n cap) ∧ w.heap.size ≤ g ∧ n ≤ cap ∧ cap ≤ maxLen ∧ RW w' g 29 es ∧ Below w.heap.size w w' := by
  have hel := h.el
  obtain ⟨b, o, rfl, hc⟩ := h.pl (by omega)
  refine (AnyE.slices_Clone Tryz.clonePoly apiI (.agg #[.bool false, .slice none 0 0]) 2 32 (by kernel_rfl) (by kernel_rfl) (by kernel_rfl) (by kernel_rfl) rfl (by decide) Tryz.sizeOf29 b o n nc (es.flatMap fun e => [Value.bool e.s, .slice e.p e.n e.c]) w (by rw [flat_length]; omega) (by unfold maxLen; omega) (by omega) (PL.cells hc) (one_flat es)).mono ?_
  rintro r w' ⟨v, rfl, ⟨h1, h2⟩, -, hb⟩
  rcases h2 with ⟨-, h0⟩ | ⟨g, cap, cur, rfl, hg, hr, hc1, hc2, hcs, htk⟩
  · omega
  · refine ⟨g, cap, rfl, hg, hc1, hc2, ⟨cur.toList.drop (n * 2), ?_⟩, hb⟩
    rw [← htk, List.take_append_drop]
    exact hr
end Go.Proofs.YtakfimhpnpapdaaGreatDoor
