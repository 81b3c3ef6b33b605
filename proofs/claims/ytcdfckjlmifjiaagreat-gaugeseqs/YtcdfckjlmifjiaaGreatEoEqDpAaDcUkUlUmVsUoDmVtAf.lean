/-
  A region by what each of its operations answers, whatever is said of the answers; slots that are read ahead of being written; one operation that waits for all others at its end.
-/
import Derived.Test.YtcdfckjlmifjiaaGreatDyAwOn
import Derived.Test.YtcdfckjlmifjiaaGreatFaOfFd
import Derived.Deep.Slices
import Derived.Test.YtcdfckjlmifjiaaGreatAzBlEeEfVuDlVvWxUpUqDkDbUiVqJpDjVkJo
import Derived.Deep.DeepFit
import Derived.Test.YtcdfckjlmifjiaaGreatAbBnUjBoAhEkOaOcOd
import Derived.Test.YtcdfckjlmifjiaaGreatExEuLeEy
import Derived.Test.YtcdfckjlmifjiaaGreatWiWjWvZeZfLhLjZgZhWnWoWpBgBfZiZnZpRtRqYi
import Derived.Test.YtcdfckjlmifjiaaGreatAcViDsAeBpDhVdVeBq
namespace Go.Proofs.YtcdfckjlmifjiaaGreat
open Go.RowKit
set_option linter.unusedVariables false
set_option linter.unusedSimpArgs false

/-- What is said of an answer, lasting while memory grows. -/
structure An where
  is : Value → World → Prop
  later : ∀ {v : Value} {w w' : World}, is v w → Below w.heap.size w w' → is v w'
instance : Inhabited An := ⟨⟨fun _ _ => True, fun _ _ => trivial⟩⟩
def An.val (u : Value) : An := ⟨fun v _ => v = u, fun h _ => h⟩
/-- Operation k waits for operation i. -/
def waits (ops : Array Oper) (k i : Nat) : Bool := match ops[k]? with
  | some o => o.after.toList.any fun e => e.on == i && Region.binds .any e
  | none => false
section
variable {P : Program} {Q : Exit → Act → World → Prop} {W : World} {ops : Array Oper} {t0 : Array Value} {dl : List (Nat × Nat)} {ans : List An} {i : Nat} {o : Oper}
end
end Go.Proofs.YtcdfckjlmifjiaaGreat
/-
  A region by what each of its operations answers, with variables that it allocates (in whatever order) and that no answer's memory meets.
-/
namespace Go.Proofs.YtcdfckjlmifjiaaGreat
open Go.RowKit
set_option linter.unusedVariables false
set_option linter.unusedSimpArgs false

/-- What is said of an answer whose memory meets no block of X. -/
structure Ax where
  is : (Nat → Prop) → Value → World → Prop
  later : ∀ {X : Nat → Prop} {v : Value} {w w' : World}, is X v w → Below w.heap.size w w' → is X v w'
  add : ∀ {X : Nat → Prop} {v : Value} {w : World} {b : Nat}, is X v w → w.heap.size ≤ b → is (fun c => X c ∨ c = b) v w
  sub : ∀ {X Y : Nat → Prop} {v : Value} {w : World}, is X v w → (∀ b, Y b → X b) → is Y v w
instance : Inhabited Ax := ⟨⟨fun _ _ _ => True, fun _ _ => trivial, fun _ _ => trivial, fun _ _ => trivial⟩⟩
def Ax.val (u : Value) : Ax := ⟨fun _ v _ => v = u, fun h _ => h, fun h _ => h, fun h _ => h⟩
section
variable {P : Program} {Q : Exit → Act → World → Prop} {W : World} {ops : Array Oper} {t0 : Array Value} {dl : List (Nat × Nat)} {al : List Nat} {ans : List Ax} {i : Nat} {o : Oper}
end
end Go.Proofs.YtcdfckjlmifjiaaGreat
/-
  A row of polynomials, read as data (out of Om).
-/
namespace Go.Proofs.YtcdfckjlmifjiaaGreat
open Go.ChangeShapes Go.WideShapes Go.ChangeAt Go.RowKit Go.Joins
set_option linter.unusedVariables false
set_option linter.unusedSimpArgs false

/-- A row of polynomials as it may be handed in. -/
structure RZ (w : World) (p : Option Addr) (n nc : Nat) (hs : List Hdr) : Prop where
  el : hs.length = n
  cap : n ≤ nc
  bnd : nc ≤ maxLen
  pn : p = none → nc = 0
  hl : HL w p hs
  ev : ∀ j, j < n → ∃ es, PZ w (gh hs j).p (gh hs j).n (gh hs j).c es
theorem RZ.below {w w' : World} {p : Option Addr} {n nc : Nat} {hs : List Hdr} (h : RZ w p n nc hs) (hb : Below w.heap.size w w') : RZ w' p n nc hs :=
  ⟨h.el, h.cap, h.bnd, h.pn, h.hl.below hb, fun j hj => let ⟨es, he⟩ := h.ev j hj; ⟨es, he.below hb⟩⟩
set_option maxRecDepth 100000 in
theorem polyT {H : Type} {enc : TypeId × Value → H} {W : World} {fuel : Nat} {v : Value} {x : DataW H × List MemPlace} (hf : DataW.trod enc Tryz.prog W 0 (fun _ => true) true fuel 53 [v] = some x) :
    v = (hdrOf v).val ∧ ∃ es, PZ W (hdrOf v).p (hdrOf v).n (hdrOf v).c es := by
  rcases Go.Deep.open_slice_pairs Tryz.underlying53 Tryz.underlying50 cellsI2 rfl rfl cellsB cellsUs hf with ⟨hcs, -⟩ | ⟨a, len, cap, m, k, V0, V1, D0, D1, P0, P1, hcs, -, hl, hm, hmm, -, hcell⟩
  · simp only [List.cons.injEq, and_true] at hcs
    subst hcs
    exact ⟨rfl, [], rfl, Nat.le_refl _, Nat.zero_le _, fun _ => rfl, PL.nil, fun j hj => absurd hj (Nat.not_lt_zero j)⟩
  · simp only [List.cons.injEq, and_true] at hcs
    subst hcs
    simp only [if_true] at hmm
    have hr : ∀ i, i < len → V0 i = .bool (entOf (V0 i) (V1 i)).s ∧ V1 i = .slice (entOf (V0 i) (V1 i)).p (entOf (V0 i) (V1 i)).n (entOf (V0 i) (V1 i)).c ∧ RawE W (entOf (V0 i) (V1 i)) := fun i hi => by
      obtain ⟨-, -, g0, g1⟩ := hcell i (by omega)
      exact rawCells g0 g1
    have hge : ∀ i, i < len → ge ((List.range len).map fun i => entOf (V0 i) (V1 i)) i = entOf (V0 i) (V1 i) := fun i hi => by simp [ge, hi]
    refine ⟨rfl, (List.range len).map fun i => entOf (V0 i) (V1 i), by show _ = len; simp, hl, hm, nofun, ?_, fun j (hj : j < len) => by rw [hge j hj]; exact (hr j hj).2.2⟩
    intro hp
    have hp' : 0 < len := by simpa using hp
    obtain ⟨b, off, spot⟩ := a
    have hspot : spot = none := by simpa [Addr.add] using World.cell?_spot (hcell 0 (by omega)).1
    subst hspot
    refine ⟨b, off, rfl, fun j hj => ?_⟩
    have hj' : j < len := by simpa using hj
    obtain ⟨c0, c1, -, -⟩ := hcell j (by omega)
    obtain ⟨e0, e1, -⟩ := hr j hj'
    rw [hge j hj', ← e0, ← e1]
    rw [add_plain] at c0 c1
    exact ⟨c0, c1⟩
theorem cellsP : Tryz.prog.cellsOf 53 = 1 := by kernel_rfl
/-- A slice whose elements are slices. -/
theorem sliceT {H : Type} {enc : TypeId × Value → H} {W : World} {fuel : Nat} {t e : TypeId} {v : Value} {x : DataW H × List MemPlace} (ht : Tryz.prog.underlying t = some (.slice e)) (hc : Tryz.prog.cellsOf e = 1) (hf : DataW.trod enc Tryz.prog W 0 (fun _ => true) true fuel t [v] = some x)
    {E : Hdr → Prop} (hE : ∀ (fuel : Nat) (u : Value) (y : DataW H × List MemPlace), DataW.trod enc Tryz.prog W 0 (fun _ => true) true fuel e [u] = some y → u = (hdrOf u).val ∧ E (hdrOf u)) :
    v = (hdrOf v).val ∧ (hdrOf v).n ≤ (hdrOf v).c ∧ (hdrOf v).c ≤ maxLen ∧ ((hdrOf v).p = none → (hdrOf v).c = 0) ∧ ∃ hs : List Hdr, hs.length = (hdrOf v).n ∧ HL W (hdrOf v).p hs ∧ ∀ j, j < (hdrOf v).n → E (gh hs j) := by
  rcases Go.Deep.open_slice1 ht hc hf with ⟨hcs, -⟩ | ⟨a, len, cap, m, n, V, D, Pl, hcs, -, hl, hm, hmm, -, hcell⟩
  · simp only [List.cons.injEq, and_true] at hcs
    subst hcs
    exact ⟨rfl, Nat.le_refl _, Nat.zero_le _, fun _ => rfl, [], rfl, fun h => absurd h (Nat.not_lt_zero 0), fun j hj => absurd hj (Nat.not_lt_zero j)⟩
  · simp only [List.cons.injEq, and_true] at hcs
    subst hcs
    simp only [if_true] at hmm
    have hg : ∀ i, i < len → gh ((List.range len).map fun i => hdrOf (V i)) i = hdrOf (V i) := fun i hi => by simp [gh, hi]
    refine ⟨rfl, hl, hm, nofun, (List.range len).map fun i => hdrOf (V i), by show _ = len; simp, fun hp => ?_, fun j (hj : j < len) => by rw [hg j hj]; exact (hE _ _ _ (hcell j (by omega)).2).2⟩
    have hp' : 0 < len := by simpa using hp
    obtain ⟨b, off, spot⟩ := a
    have hspot : spot = none := by simpa [Addr.add] using World.cell?_spot (hcell 0 (by omega)).1
    subst hspot
    refine ⟨b, off, rfl, fun j hj => ?_⟩
    have hj' : j < len := by simpa using hj
    obtain ⟨c0, g0⟩ := hcell j (by omega)
    rw [hg j hj', ← (hE _ _ _ g0).1]
    rw [add_plain] at c0
    exact c0
end Go.Proofs.YtcdfckjlmifjiaaGreat
/-
  ashlarlaw8.Cut, few.
-/
namespace Go.Proofs.YtcdfckjlmifjiaaGreat
open Go.RowKit
set_option linter.unusedVariables false
set_option linter.unusedSimpArgs false

theorem info_op : (Tryz.prog.info? 53).map (fun i => (i.zero, i.size, i.bytes)) = some (some (.slice none 0 0), 1, 24) := by kernel_rfl
theorem ez_cut {n E L : Nat} {w w' : World} {q : Option Addr} {m mc : Nat} {fs : List Ent} {zs : List Int} (h : PA w' L q m mc fs zs) (hm : m = min n E) (h1 : Go.Proofs.YtcdfckjlmifjiaaGreat.From w.heap.size q) (h2 : ∀ j, j < m → 0 < (ge fs j).n → Go.Proofs.YtcdfckjlmifjiaaGreat.From w.heap.size (ge fs j).p) : EZ L E w' w.heap.size w'.heap.size zs ⟨q, m, mc⟩ := by
  refine ⟨fs, h, by show m ≤ E; omega, fun a ha hn => ⟨h1 a ha, ?_⟩, fun j hj hn a ha => ⟨h2 j hj hn a ha, (lasts_EV L).lt (h.ev j hj) hn a ha⟩⟩
  obtain ⟨b, o, hp, hlt⟩ := h.pl.lt (by rw [h.el]; exact hn)
  simp only at ha
  rw [hp] at ha
  cases ha
  exact hlt
/-- What Cut answers. -/
def CoP (n R E L : Nat) (w : World) (e : Ending) (w' : World) : Prop :=
  ∃ h zss, e = .returned (Hdr.val h) ∧ h.n = min n R ∧ HR R (EZ L E) w' w.heap.size w'.heap.size zss h ∧ Below w.heap.size w w'
set_option maxHeartbeats 4000000 in
set_option maxRecDepth 100000 in
/-- ashlarlaw8.Cut. -/
theorem Cut8_any {w : World} {p : Option Addr} {n nc : Nat} {hs0 : List Hdr} (h : RZ w p n nc hs0) (R E L : Nat) (hR : R ≤ 1000) (hE : E ≤ 1000) (hL : L ≤ 24) :
    Calls Tryz.prog 5 #[.slice p n nc, .int .i64 R, .int .i64 E, .int .i64 L] w (CoP n (R + 1) E L w) := by
  obtain ⟨i0, hi, hzz⟩ := Option.map_eq_some_iff.1 info_op
  simp only [Prod.mk.injEq] at hzz
  obtain ⟨hz0, hz1, hz2⟩ := hzz
  have HI : Hid (Tryz.prog.info? 53 = some i0 ∧ i0.zero = some (.slice none 0 0) ∧ i0.size = 1 ∧ i0.bytes = 24) := ⟨hi, hz0, hz1, hz2⟩
  clear hi hz0 hz1 hz2
  have HX : Hid (RZ w p n nc hs0) := h
  have hnm : n ≤ 9223372036854775807 := by have h1 := h.cap; have h2 := h.bnd; unfold maxLen at h2; omega
  clear h
  go_enter Tryz.func5, Tryz.ntmps5
  go_wp2_with fail
  go_loopw [9, 10] (fun rv jv wq => ∃ (j : Nat) (rs : List Hdr) (zss : List (List Int)), j ≤ min n (R + 1) ∧ jv = .int .i64 j ∧ Hid (rs.length = j ∧ LH w.heap.size 53 (EZ L E) wq rv rs zss ∧ Below w.heap.size w wq)) (fun _ jv _ => min n (R + 1) - (intOf jv).toNat)
  case atStart => exact ⟨0, [], [], Nat.zero_le _, by go_num, rfl, LH.nil _ _ _ _, Below.refl _ _⟩
  case round =>
    obtain ⟨j, rs, zss, hj, rfl, G⟩ := hrel
    rcases Nat.lt_or_ge j (min n (R + 1)) with hlt1 | hge1
    · obtain ⟨gel, gLH, gB⟩ := G.out
      have hN := HX.out.below gB
      obtain ⟨b1, o1, hp1, hc1⟩ := hN.hl (by rw [hN.el]; omega)
      subst hp1
      have c1 := hc1 j (by rw [hN.el]; omega)
      obtain ⟨es2, hP2⟩ := hN.ev j (by omega)
      generalize gh hs0 j = hd2 at c1 hP2
      obtain ⟨p2, n2, nc2⟩ := hd2
      simp only [Hdr.val] at c1 hP2
      have j1 : (j : Int) < (n : Int) := by omega
      have j2 : (j : Int) ≤ (R : Int) := by omega
      clear gel gLH gB hc1 hN
      go_wp2_with fail
      go_fit (Cut3_any hP2 E L hE hL)
      rintro e w1 ⟨q, m, mc, fs, zs, rfl, hPA, hm, hF1, hF2, hb1⟩
      have HE : Hid (EZ L E w1 wr.heap.size w1.heap.size zs ⟨q, m, mc⟩) := ez_cut hPA hm hF1 hF2
      have hown0 := own_below G.out.2.1.own hb1
      rw [G.out.1] at hown0
      have HO : Hid (w1.ownsRow w.heap.size 53 1 u9 j (rs.map Hdr.val)) := hown0
      have hsz : w.heap.size ≤ w1.heap.size := Nat.le_trans G.out.2.2.size hb1.size
      obtain ⟨hi, hz0, hz1, hz2⟩ := HI.out
      clear hown0 hPA hm hF1 hF2 c1 hP2
      go_wp2_with (refine wpList_append_lies _ rfl _ _ 23 rfl w.heap.size 53 i0 (.slice none 0 0) 1 24 Tryz.underlying23 hi hz0 hz1 hz2 rfl (by decide) u9 j (rs.map Hdr.val) rfl (HO.out.alloc _) ⟨w1.heap.size, 0, none⟩ 1 1 [.slice q m mc] rfl rfl ?_ (fun x hx => by simp at hx; subst hx; rfl) (by decide) (by unfold maxLen; omega) (by omega) (by simp; omega) _ rfl ?_; exact World.news_of_block (heap_alloc_new w1 _); intro g cap w3 hown3 hgrow3 hat3 hlt3; have hB3 : Below w.heap.size w w3 := ((bnext' G.out.2.2 hb1).alloc hsz _).grown hgrow3 (by simp; omega) (fun q hq => (HO.out.lt q hq).1); have HA : Hid (LH w.heap.size 53 (EZ L E) w3 (.slice (some ⟨g, 0, none⟩) (j + 1) cap) (rs ++ [⟨q, m, mc⟩]) (zss ++ [zs])) := LH.app (lasts_EZ L E) G.out.1 G.out.2.1 hb1 HE.out (Nat.le_refl _) (Nat.le_refl _) G.out.2.2.size hown3 hgrow3 hat3; clear hown3 hgrow3 hat3)
      refine ⟨⟨j + 1, rs ++ [⟨q, m, mc⟩], zss ++ [zs], by omega, by go_num, by have := G.out.1; simp; omega, HA.out, hB3⟩, by simp [intOf]; omega⟩
    · obtain ⟨gel, gLH, gB⟩ := G.out
      obtain ⟨q, cap, hv, hRow⟩ := gLH.row (lasts_EZ L E) (D := R + 1) (by omega)
      subst hv
      rw [gel] at hRow ⊢
      have HR' : Hid (CoP n (R + 1) E L w (.returned (.slice q j cap)) wr) := ⟨⟨q, j, cap⟩, zss, rfl, by show j = _; omega, ⟨rs, hRow⟩, gB⟩
      have hcs : Hid (¬ j < n ∨ (j < n ∧ ¬ j ≤ R)) := by show _ ∨ _; omega
      clear gLH gB hRow G gel
      rcases hcs.out with h1 | ⟨h1, h2⟩
      · have i1 : ¬ (j : Int) < (n : Int) := by omega
        clear h1
        go_wp2
        go_ret
        exact HR'.out
      · have i1 : (j : Int) < (n : Int) := by omega
        have i2 : ¬ (j : Int) ≤ (R : Int) := by omega
        clear h1 h2
        go_wp2
        go_ret
        exact HR'.out
end Go.Proofs.YtcdfckjlmifjiaaGreat
/-
  Plain: lists that read alike; ashlarref1.Of for entries below 0.
-/
namespace Go.Proofs.YtcdfckjlmifjiaaGreat
open Go.RowKit
set_option linter.unusedVariables false
set_option linter.unusedSimpArgs false

end Go.Proofs.YtcdfckjlmifjiaaGreat
/-
  upoly.rowsCost, digitWidth, packedCost.
-/
namespace Go.Proofs.YtcdfckjlmifjiaaGreat
open Go.RowKit
set_option linter.unusedVariables false
set_option linter.unusedSimpArgs false

end Go.Proofs.YtcdfckjlmifjiaaGreat
/-
  upoly.productByRows.
-/
namespace Go.Proofs.YtcdfckjlmifjiaaGreat
open Go.RowKit
set_option linter.unusedVariables false
set_option linter.unusedSimpArgs false

/-- The first rows of a product. -/
def ps (zs ys : List Int) : Nat → Nat → Int
  | 0, _ => 0
  | i + 1, t => ps zs ys i t + (if i ≤ t then gx zs i * gx ys (t - i) else 0)
/-- And the first entries of the next row. -/
def pj (zs ys : List Int) (i j t : Nat) : Int := ps zs ys i t + (if i ≤ t ∧ t < i + j then gx zs i * gx ys (t - i) else 0)
theorem NV.le {B : Nat} {w : World} {K M : Nat} {z : Int} {e : Ent} (h : NV B w K z e) (hz : (z.natAbs : Int) < pw M) : NV B w M z e := by
  obtain ⟨xs, h1, h2, h3⟩ := h
  exact ⟨xs, h1, h2, h1.le hz⟩
end Go.Proofs.YtcdfckjlmifjiaaGreat
/-
  upoly.product by rows, Mul of small polynomials.
-/
namespace Go.Proofs.YtcdfckjlmifjiaaGreat
open Go.RowKit
set_option linter.unusedVariables false
set_option linter.unusedSimpArgs false

end Go.Proofs.YtcdfckjlmifjiaaGreat
/-
  ashlarref3.Mul.
-/
namespace Go.Proofs.YtcdfckjlmifjiaaGreat
open Go.RowKit
set_option linter.unusedVariables false
set_option linter.unusedSimpArgs false

/-- A number of the reference that lies from block B on. -/
def RF (B : Nat) (w : World) (N : Nat) (z : Int) (e : Ent) : Prop := RE w N z e ∧ Go.Proofs.YtcdfckjlmifjiaaGreat.From B e.p
theorem RF.below {B : Nat} {w w' : World} {N : Nat} {z : Int} {e : Ent} (h : RF B w N z e) (hb : Below w.heap.size w w') : RF B w' N z e := ⟨h.1.below hb, h.2⟩
theorem RF.mono {B B' : Nat} {w : World} {N : Nat} {z : Int} {e : Ent} (h : RF B w N z e) (hB : B' ≤ B) : RF B' w N z e := ⟨h.1, fun a ha => Nat.le_trans hB (h.2 a ha)⟩
theorem RF.set2 {B : Nat} {w : World} {N : Nat} {z : Int} {e : Ent} {g o : Nat} (h : RF B w N z e) (hg : g < B) (u v : Value) : RF B ((w.setCell ⟨g, o, none⟩ u).setCell ⟨g, o + 1, none⟩ v) N z e :=
  ⟨h.1.set2 (fun _ a ha => by have := h.2 a ha; omega), h.2⟩
theorem RF.le {B : Nat} {w : World} {N M : Nat} {z : Int} {e : Ent} (h : RF B w N z e) (hz : (z.natAbs : Int) < pd M) : RF B w M z e := by
  obtain ⟨⟨⟨ds, h1, h2, h3⟩, h4⟩, h5⟩ := h
  exact ⟨⟨⟨ds, h1, h2, h1.fit (by rw [h2]; exact hz)⟩, h4⟩, h5⟩
theorem RF.ez (B : Nat) (w : World) (N : Nat) : RF B w N 0 ez := ⟨⟨⟨[], ⟨rfl, Rd.nil, fun j => by simp [gx], by decide, fun _ => rfl, Nat.zero_le _⟩, by decide, Nat.zero_le _⟩, rfl⟩, fun a ha => by cases ha⟩
end Go.Proofs.YtcdfckjlmifjiaaGreat
/-
  upoly.Mul of small polynomials.
-/
namespace Go.Proofs.YtcdfckjlmifjiaaGreat
open Go.RowKit
set_option linter.unusedVariables false
set_option linter.unusedSimpArgs false

theorem PnP.from {zs : List Int} {K : Nat} {w w' : World} {e : Ending} {w'' : World} (h : PnP zs K w' e w'') (hb : Below w.heap.size w w') : PnP zs K w e w'' := by
  obtain ⟨p, n, es, h1, h2, h3⟩ := h
  exact ⟨p, n, es, h1, h2.mono hb.size, bnext' hb h3⟩
end Go.Proofs.YtcdfckjlmifjiaaGreat
/-
  upoly.product where one is zero (out of Px).
-/
namespace Go.Proofs.YtcdfckjlmifjiaaGreat
open Go.RowKit
set_option linter.unusedVariables false
set_option linter.unusedSimpArgs false

end Go.Proofs.YtcdfckjlmifjiaaGreat
/-
  ashlarref3.Mul.
-/
namespace Go.Proofs.YtcdfckjlmifjiaaGreat
open Go.RowKit
set_option linter.unusedVariables false
set_option linter.unusedSimpArgs false

end Go.Proofs.YtcdfckjlmifjiaaGreat
/-
  The reference's operators: From, Add, Scale.
-/
namespace Go.Proofs.YtcdfckjlmifjiaaGreat
open Go.RowKit
set_option linter.unusedVariables false
set_option linter.unusedSimpArgs false

set_option maxHeartbeats 4000000 in
set_option maxRecDepth 100000 in
/-- ashlarref8.From. -/
theorem rFrom8_any {w : World} {B T K E D : Nat} {zss : List (List Int)} {h : Hdr} (H : HR D (EZ K E) w B T zss h) (hT : T ≤ w.heap.size) (hD : D ≤ 1000) (hE : E ≤ 1000) (hK : K ≤ 400) :
    Calls Tryz.prog 7 #[.slice h.p h.n h.c] w (OrP D (zss.map tr) (2 * K) E w) := by
  obtain ⟨I0, hi, hzz⟩ := Option.map_eq_some_iff.1 info_refP
  simp only [Prod.mk.injEq] at hzz
  obtain ⟨hz0, hz1, hz2⟩ := hzz
  have HI : Hid (Tryz.prog.info? 42 = some I0 ∧ I0.zero = some (.slice none 0 0) ∧ I0.size = 1 ∧ I0.bytes = 24) := ⟨hi, hz0, hz1, hz2⟩
  clear hi hz0 hz1 hz2
  obtain ⟨hs, k⟩ := H
  have HX : Hid (HRow D (EZ K E) w B T zss h hs ∧ T ≤ w.heap.size) := ⟨k, hT⟩
  have hn : h.n ≤ D := k.few
  have HL : Hid (zss.length = h.n) := k.tl
  obtain ⟨p, n, nc⟩ := h
  simp only at hn HL ⊢
  clear k hT
  go_enter Tryz.func7, Tryz.ntmps7
  go_wp2_with fail
  go_loopw [3, 4] (fun qv iv wr => ∃ (k : Nat) (ls : List Hdr), k ≤ n ∧ iv = .int .i64 k ∧ Hid (ls.length = k ∧ LH w.heap.size 42 (EY (2 * K) E) wr qv ls ((zss.take k).map tr) ∧ Below w.heap.size w wr)) (fun _ iv _ => n - (intOf iv).toNat)
  case atStart => exact ⟨0, [], Nat.zero_le _, by go_num, rfl, by rw [List.take_zero]; exact LH.nil _ _ _ _, Below.refl _ _⟩
  case round =>
    obtain ⟨k, ls, hk, rfl, G⟩ := hrel
    rcases Nat.lt_or_ge k n with hlt | hge
    · have g4 := G.out.2.2
      obtain ⟨b, o, hp, hc⟩ := HX.out.1.hl (by rw [HX.out.1.el]; show 0 < n; omega)
      simp only at hp
      subst hp
      have c0 := hc k (by rw [HX.out.1.el]; exact hlt)
      have c1 : wr.cell? ⟨b, o + k, none⟩ = some (gh hs k).val := by rw [g4.cell (block_lt_of_cell c0)]; exact c0
      have hE2 := (lasts_EZ K E).below (HX.out.1.ev k hlt) HX.out.2 g4
      generalize gh hs k = hd at c1 hE2
      obtain ⟨p2, n2, nc2⟩ := hd
      simp only [Hdr.val] at c1
      obtain ⟨es2, hP2, hd3, -, -⟩ := hE2
      simp only at hP2 hd3
      have i1 : (k : Int) < (n : Int) := by omega
      have hcall := rpFrom_new hP2 (by omega) hK
      have hlen : Hid (tlen (gt zss k) ≤ E) := by have h1 := tlen_le (gt zss k); have h2 := hP2.zl; show _ ≤ _; omega
      clear hc c0 hP2 g4
      go_wp2_with fail
      go_fit hcall
      rintro e w1 ⟨q, m, fs, rfl, hR1, hF1, ht1, hF2, hb1⟩
      have HE : Hid (EY (2 * K) E w1 wr.heap.size w1.heap.size (tr (gt zss k)) ⟨q, m, m⟩) := ey_of_from hR1 hF1 ht1 hF2 (by rw [← ht1, tlen_tr]; exact hlen.out)
      clear c1 hR1 hF1 hF2 hcall
      obtain ⟨hi, hz0, hz1, hz2⟩ := HI.out
      have hown0 := own_below G.out.2.1.own hb1
      rw [G.out.1] at hown0
      have HO : Hid (w1.ownsRow w.heap.size 42 1 u3 k (ls.map Hdr.val)) := hown0
      have hsz : w.heap.size ≤ w1.heap.size := Nat.le_trans G.out.2.2.size hb1.size
      clear hown0
      go_wp2_with (refine wpList_append_lies _ rfl _ _ 29 rfl w.heap.size 42 I0 (.slice none 0 0) 1 24 Tryz.underlying29 hi hz0 hz1 hz2 rfl (by decide) u3 k (ls.map Hdr.val) rfl (HO.out.alloc _) ⟨w1.heap.size, 0, none⟩ 1 1 [.slice q m m] rfl rfl ?_ (fun x hx => by simp at hx; subst hx; rfl) (by decide) (by unfold maxLen; omega) (by omega) (by simp; omega) _ rfl ?_; exact World.news_of_block (heap_alloc_new w1 _); intro g cap w3 hown3 hgrow3 hat3 hlt3; have hB3 : Below w.heap.size w w3 := ((bnext' G.out.2.2 hb1).alloc hsz _).grown hgrow3 (by simp; omega) (fun q hq => (HO.out.lt q hq).1); have HA : Hid (LH w.heap.size 42 (EY (2 * K) E) w3 (.slice (some ⟨g, 0, none⟩) (k + 1) cap) (ls ++ [⟨q, m, m⟩]) ((zss.take k).map tr ++ [tr (gt zss k)])) := LH.app (lasts_EY (2 * K) E) G.out.1 G.out.2.1 hb1 HE.out (Nat.le_refl _) (Nat.le_refl _) G.out.2.2.size hown3 hgrow3 hat3; clear hown3 hgrow3 hat3)
      refine ⟨⟨k + 1, ls ++ [⟨q, m, m⟩], by omega, by go_num, by have := G.out.1; simp; omega, by rw [take_map_snoc tr zss k (by have := HL.out; omega)]; exact HA.out, hB3⟩, by simp [intOf]; omega⟩
    · obtain rfl : k = n := by omega
      obtain ⟨hel, hLR, hB⟩ := G.out
      rw [List.take_of_length_le (by have := HL.out; omega)] at hLR
      obtain ⟨q, cap, hv, hRow⟩ := hLR.row (lasts_EY (2 * K) E) (D := D) (by omega)
      subst hv
      have ht2 := rTrim8_any ⟨_, hRow⟩ (Nat.le_refl _) (by omega) (by omega)
      have HRW : Hid (HRow D (EY (2 * K) E) wr w.heap.size wr.heap.size (zss.map tr) ⟨q, ls.length, cap⟩ ls ∧ Below w.heap.size w wr) := ⟨hRow, hB⟩
      simp only at ht2
      rw [hel] at ht2 ⊢
      clear hRow hLR hB G
      go_wp2_with fail
      go_fit ht2
      rintro e w1 ⟨rfl, hb1⟩
      have HR' : Hid (OrP D (zss.map tr) (2 * K) E w (.returned (.slice q (olen (zss.map tr)) (olen (zss.map tr)))) w1) := trim_end HRW.out.1 HRW.out.2 hb1
      clear hb1 ht2
      generalize olen (zss.map tr) = m at *
      go_wp2
      go_ret
      exact HR'.out
end Go.Proofs.YtcdfckjlmifjiaaGreat
