/-
  The set-up of layer 7's laws answers true, in whatever memory, and leaves what was there.
-/
import Derived.Test.YtifebbacnlhggaaGreatDoorG9
import Derived.Test.YtifebbacnlhggaaGreatDoorProg
import Derived.Test.YtifebbacnlhggaaGreatDoorDjVkJoNcOnDpAa
import Derived.Test.YtifebbacnlhggaaGreatDoorVbDaCxRbCyViVuWxUpUqRm
import Derived.Test.YtifebbacnlhggaaGreatDoorUlDdReRxRfRhCqRrRw
import Derived.Test.YtifebbacnlhggaaGreatDoorCbNgNkPq
import Derived.Test.YtifebbacnlhggaaGreatDoorApEpGiGj
import Derived.Deep.DeepFit
import Derived.StillTailTactics
import Derived.Test.YtifebbacnlhggaaGreatDoorAvAwAy
import Derived.Test.YtifebbacnlhggaaGreatDoorBnBoBrBpAhAdDtAgAiVdRtDhVeRsVfVcAjDrBmBqDuAkAl
import Derived.Test.YtifebbacnlhggaaGreatDoorKqOr
namespace Go.Proofs.YtifebbacnlhggaaGreatDoor
open Go.RowKit
theorem nong7 : Ev.NoNG Tryz.prog := Ev.nong_of (by kernel_rfl)
theorem begun8_any (w : World) : Calls Tryz.prog 9 #[] w fun r w' => r = .returned (.bool true) ∧ Below w.heap.size w w' :=
  Ev.closed_call nong7 (by kernel_rfl) (n := 100000) (by kernel_rfl) w
end Go.Proofs.YtifebbacnlhggaaGreatDoor
/-
  ashlarref3.To (out of Vo).
-/
namespace Go.Proofs.YtifebbacnlhggaaGreatDoor
open Go.RowKit
set_option linter.unusedVariables false
set_option linter.unusedSimpArgs false

end Go.Proofs.YtifebbacnlhggaaGreatDoor
/-
  OreNew's walk.
-/
namespace Go.Proofs.YtifebbacnlhggaaGreatDoor
open Go.RowKit
set_option linter.unusedVariables false
set_option linter.unusedSimpArgs false
/-- q where it is asked for. -/
def qof (al y : Int) : Int := if al = 3 then y else 0
theorem ev_zero (w : World) : EV w 1 0 e00 := ⟨[], ⟨rfl, Nat.le_refl _, Nat.zero_le _, Nat.zero_le _, Rd.nil, fun j => by simp [gx]⟩, rfl, Nat.zero_le _⟩
theorem oNew_all {w : World} {al y : Int} {e : Ent} (he : EV w 1 y e) (ha : al = 1 ∨ al = 2 ∨ al = 3) (hy : al = 3 → y ≠ 0) :
    Calls Tryz.prog 12 #[.int .i64 al, .agg #[.bool e.s, .slice e.p e.n e.c]] w fun r w' => ∃ g, r = .returned (.tuple #[.pointer (some ⟨g, 0, none⟩), .int .i64 0]) ∧ RuleQ w' g al (qof al y) ∧ Below w.heap.size w w' := by
  rcases Int.decEq al 3 with h | h
  · refine (oNew_plain w al e (by omega)).mono ?_
    rintro r w' ⟨g, rfl, h1, h2, h3⟩
    exact ⟨g, rfl, ⟨ha, ⟨e00, h1, by rw [qof, if_neg h]; exact ev_zero _⟩, fun h' => absurd h' h⟩, h3⟩
  · subst h
    refine (oNew_q he (by decide) (hy rfl)).mono ?_
    rintro r w' ⟨g, f, rfl, h1, h2, h3, h4⟩
    exact ⟨g, rfl, ⟨ha, ⟨f, h1, by rw [qof, if_pos rfl]; exact h2.ev (by decide)⟩, fun _ => by rw [qof, if_pos rfl]; exact hy rfl⟩, h4⟩
theorem rpIs3 {B : Nat} {w : World} {K N : Nat} {p q : Option Addr} {n m mc : Nat} {es fs : List Ent} {zs : List Int} (h : PN B w K p n es zs) (k : PR w N q m mc fs zs) (hK : K ≤ 1000) (hN : N ≤ 1000) (hl : n ≤ 1000000) :
    Calls Tryz.prog 15 #[.slice p n n, .slice q m mc] w fun r w' => r = .returned (.bool true) ∧ Below w.heap.size w w' := by
  obtain rfl : m = n := by rw [← h.zl, ← k.zl]
  exact rpIs_any h k hK hN hl
/-- What the law holds of its variables. -/
structure NewS (w v : World) (g gn gq : Nat) (al y : Int) (q : Option Addr) (m mc : Nat) (fs : List Ent) (zs : List Int) (xe : Ent) : Prop where
  pa : PA v 3 q m mc fs zs
  rq : RuleQ v g al y
  c0 : v.cell? ⟨gq, 0, none⟩ = some (.int .i64 al)
  c1 : v.cell? ⟨gq, 1, none⟩ = some (.bool xe.s)
  c2 : v.cell? ⟨gq, 2, none⟩ = some (.slice xe.p xe.n xe.c)
  re : RE v 2 y xe
  b : Below w.heap.size w v
theorem NewS.later {w v v' : World} {g gn gq : Nat} {al y : Int} {q : Option Addr} {m mc : Nat} {fs : List Ent} {zs : List Int} {xe : Ent} (h : NewS w v g gn gq al y q m mc fs zs xe) (hb : Below v.heap.size v v') : NewS w v' g gn gq al y q m mc fs zs xe := ⟨h.pa.below hb, h.rq.below hb, cell_later hb h.c0, cell_later hb h.c1, cell_later hb h.c2, h.re.below hb, bnext' h.b hb⟩
end Go.Proofs.YtifebbacnlhggaaGreatDoor
/-
  ashlarlaw8.Rule: both rules of an algebra.
-/
namespace Go.Proofs.YtifebbacnlhggaaGreatDoor
open Go.RowKit
set_option linter.unusedVariables false
set_option linter.unusedSimpArgs false
theorem box3 {w : World} {b : Nat} {x y z : Value} {t : TypeId} (h : w.heap[b]? = some (.cells #[x, y, z] t (0, 0))) : w.cell? ⟨b, 0, none⟩ = some x ∧ w.cell? ⟨b, 1, none⟩ = some y ∧ w.cell? ⟨b, 2, none⟩ = some z ∧ w.frozen? ⟨b, 0, none⟩ = false ∧ w.frozen? ⟨b, 1, none⟩ = false ∧ w.frozen? ⟨b, 2, none⟩ = false :=
  ⟨by simp only [World.cell?]; rw [h]; rfl, by simp only [World.cell?]; rw [h]; rfl, by simp only [World.cell?]; rw [h]; rfl, frozen_of_row w _ 0 _ _ h, frozen_of_row w _ 1 _ _ h, frozen_of_row w _ 2 _ _ h⟩
theorem EV.offc {V : World} {K : Nat} {z : Int} {e : Ent} (h : EV V K z e) {g : Nat} (hc : ∀ (o : Nat) (y : Int), V.cell? ⟨g, o, none⟩ ≠ some (.int .u32 y)) : 0 < e.n → ∀ a, e.p = some a → a.block ≠ g := fun hn a ha hg => by
  obtain ⟨xs, h1, h2, h3⟩ := h
  obtain ⟨b, o, hb, hcell⟩ := h1.rd (by rw [h1.len]; exact hn)
  rw [ha] at hb
  cases hb
  simp only at hg
  subst hg
  exact hc _ _ (hcell 0 (by rw [h1.len]; exact hn))
theorem no_u32 {w : World} {g : Nat} {ty : TypeId} (hg : w.heap[g]? = some (.cells #[.int .i64 0, .bool false, .slice none 0 0] ty (0, 0))) (o : Nat) (z : Int) : w.cell? ⟨g, o, none⟩ ≠ some (.int .u32 z) := by
  simp only [World.cell?]
  rw [hg]
  intro h
  match o, h with
  | 0, h => cases h
  | 1, h => cases h
  | 2, h => cases h
  | n + 3, h => simp at h
theorem RuleQ.putG {W W' : World} {g gr : Nat} {al y : Int} {cs : Array Value} {ty : TypeId} {fz : Nat × Nat} (h : RuleQ W g al y) (hg : W.heap[gr]? = some (.cells cs ty fz)) (hty : ¬ ty = 85) (hno : ∀ (o : Nat) (z : Int), W.cell? ⟨gr, o, none⟩ ≠ some (.int .u32 z)) (hs : ∀ k, k ≠ gr → W'.heap[k]? = W.heap[k]?) : RuleQ W' g al y := by
  obtain ⟨ha, ⟨e, h1, h2⟩, h3⟩ := h
  have hne : g ≠ gr := fun e => by
    subst e
    unfold RuleAt at h1
    rw [hg] at h1
    simp only [Option.some.injEq, Obj.cells.injEq] at h1
    exact hty h1.2.1
  exact ⟨ha, ⟨e, (hs g hne).trans h1, h2.same fun hn a ha' => hs _ (h2.offc hno hn a ha')⟩, h3⟩
theorem RuleQ.put {W W' : World} {g gr : Nat} {al y : Int} (h : RuleQ W g al y) (hg : W.heap[gr]? = some (.cells #[.int .i64 0, .bool false, .slice none 0 0] 40 (0, 0))) (hs : ∀ k, k ≠ gr → W'.heap[k]? = W.heap[k]?) : RuleQ W' g al y :=
  h.putG hg (by decide) (no_u32 hg) hs
theorem put2_other (W : World) (gr : Nat) (a b : Value) (k : Nat) (hk : k ≠ gr) : ((W.setCell ⟨gr, 0, none⟩ a).setCell ⟨gr, 1, none⟩ b).heap[k]? = W.heap[k]? := by
  rw [heap_setCell_other _ _ _ _ hk, heap_setCell_other _ _ _ _ hk]
theorem put3_other (W : World) (gr : Nat) (a b c : Value) (k : Nat) (hk : k ≠ gr) : (((W.setCell ⟨gr, 0, none⟩ a).setCell ⟨gr, 1, none⟩ b).setCell ⟨gr, 2, none⟩ c).drew.heap[k]? = W.heap[k]? := by
  show (((W.setCell ⟨gr, 0, none⟩ a).setCell ⟨gr, 1, none⟩ b).setCell ⟨gr, 2, none⟩ c).heap[k]? = W.heap[k]?
  rw [heap_setCell_other _ _ _ _ hk, heap_setCell_other _ _ _ _ hk, heap_setCell_other _ _ _ _ hk]
/-- What Rule answers. -/
def RuP (al : Int) (w : World) (r : Ending) (w' : World) : Prop :=
  (r = .returned (.tuple #[.pointer none, .agg #[.int .i64 0, .bool false, .slice none 0 0], .bool false]) ∨ ∃ g y xe, r = .returned (.tuple #[.pointer (some ⟨g, 0, none⟩), .agg #[.int .i64 al, .bool (Ent.s xe), .slice xe.p xe.n xe.c], .bool true]) ∧ RuleQ w' g al y ∧ RE w' 2 y xe) ∧ Below w.heap.size w w'
set_option maxHeartbeats 4000000 in
set_option maxRecDepth 100000 in
theorem lRule_any {w : World} {al : Int} {e : Ent} (he : RawE w e) (hal : -9223372036854775808 ≤ al ∧ al ≤ 9223372036854775807) :
    Calls Tryz.prog 25 #[.int .i64 al, .agg #[.bool e.s, .slice e.p e.n e.c]] w (RuP al w) := by
  have HX : Hid (RawE w e) := he
  clear he
  go_enter Tryz.func25, Tryz.ntmps25
  go_wp2_with fail
  have hW : Below w.heap.size w (((w.alloc (.cells #[.bool e.s, .slice e.p e.n e.c] 24)).alloc (.cells #[.int .i64 0, .bool false, .slice none 0 0] 40)).alloc (.cells #[.bool e.s, .slice e.p e.n e.c] 24)) := bel_al (bel_al (bel_al (Below.refl _ _)))
  have hc0 : (((w.alloc (.cells #[.bool e.s, .slice e.p e.n e.c] 24)).alloc (.cells #[.int .i64 0, .bool false, .slice none 0 0] 40)).alloc (.cells #[.bool e.s, .slice e.p e.n e.c] 24)).cell? ⟨w.heap.size + 1 + 1, 0, none⟩ = some (.bool e.s) := by
    have := (cells_lit ((w.alloc (.cells #[.bool e.s, .slice e.p e.n e.c] 24)).alloc (.cells #[.int .i64 0, .bool false, .slice none 0 0] 40)) (.bool e.s) (.slice e.p e.n e.c) 24).1
    rwa [World.size_alloc, World.size_alloc] at this
  have hc1 : (((w.alloc (.cells #[.bool e.s, .slice e.p e.n e.c] 24)).alloc (.cells #[.int .i64 0, .bool false, .slice none 0 0] 40)).alloc (.cells #[.bool e.s, .slice e.p e.n e.c] 24)).cell? ⟨w.heap.size + 1 + 1, 1, none⟩ = some (.slice e.p e.n e.c) := by
    have := (cells_lit ((w.alloc (.cells #[.bool e.s, .slice e.p e.n e.c] 24)).alloc (.cells #[.int .i64 0, .bool false, .slice none 0 0] 40)) (.bool e.s) (.slice e.p e.n e.c) 24).2
    rwa [World.size_alloc, World.size_alloc] at this
  have hG : (((w.alloc (.cells #[.bool e.s, .slice e.p e.n e.c] 24)).alloc (.cells #[.int .i64 0, .bool false, .slice none 0 0] 40)).alloc (.cells #[.bool e.s, .slice e.p e.n e.c] 24)).heap[w.heap.size + 1]? = some (.cells #[.int .i64 0, .bool false, .slice none 0 0] 40 (0, 0)) := by
    have h1 := heap_alloc_new (w.alloc (.cells #[.bool e.s, .slice e.p e.n e.c] 24)) (.cells #[.int .i64 0, .bool false, .slice none 0 0] 40)
    rw [World.size_alloc] at h1
    have h2 : Below (w.heap.size + 1 + 1) ((w.alloc (.cells #[.bool e.s, .slice e.p e.n e.c] 24)).alloc (.cells #[.int .i64 0, .bool false, .slice none 0 0] 40)) (((w.alloc (.cells #[.bool e.s, .slice e.p e.n e.c] 24)).alloc (.cells #[.int .i64 0, .bool false, .slice none 0 0] 40)).alloc (.cells #[.bool e.s, .slice e.p e.n e.c] 24)) := (Below.refl _ _).alloc (by simp) _
    exact (h2.block _ (by omega)).trans h1
  have hcut := cut1_ax (X := fun _ => False) (lo := 0) HX.out hW hc0 hc1 (fun c hc => hc.elim) (Nat.zero_le _) 1 (by decide)
  generalize ((w.alloc (.cells #[.bool e.s, .slice e.p e.n e.c] 24)).alloc (.cells #[.int .i64 0, .bool false, .slice none 0 0] 40)).alloc (.cells #[.bool e.s, .slice e.p e.n e.c] 24) = W at *
  have hgW : w.heap.size + 1 < W.heap.size := (Array.getElem?_eq_some_iff.1 hG).1
  go_fit hcut
  rintro r w1 ⟨_, rfl, ⟨b, o, c, u, y, rfl, hO, hN⟩, hb1⟩
  have hB1 := bnext' hW hb1
  have o0 : w1.cell? ⟨b, o, none⟩ = some (.bool u.s) := hO.1
  have o1 : w1.cell? ⟨b, o + 1, none⟩ = some (.slice u.p u.n u.c) := hO.2
  have HN : Hid (EV w1 1 y u ∧ w1.heap[w.heap.size + 1]? = some (.cells #[.int .i64 0, .bool false, .slice none 0 0] 40 (0, 0))) := ⟨hN.1, (hb1.block _ hgW).trans hG⟩
  clear hcut hO hN hb1 hc0 hc1 hW hG hgW HX
  go_wp2_with fail
  have hal2 := bel_al (o := .cells #[.bool u.s, .slice u.p u.n u.c] 24) (Below.refl w1.heap.size w1)
  have hBn : Bx (w1.alloc (.cells #[.bool u.s, .slice u.p u.n u.c] 24)) w1.heap.size (.bool u.s) (.slice u.p u.n u.c) := Bx.new _ _ _ rfl
  have hB2 := bnext' hB1 hal2
  have hgl : w.heap.size + 1 < w1.heap.size := (Array.getElem?_eq_some_iff.1 HN.out.2).1
  have HM : Hid (EV (w1.alloc (.cells #[.bool u.s, .slice u.p u.n u.c] 24)) 1 y u ∧ (w1.alloc (.cells #[.bool u.s, .slice u.p u.n u.c] 24)).heap[w.heap.size + 1]? = some (.cells #[.int .i64 0, .bool false, .slice none 0 0] 40 (0, 0)) ∧ w.heap.size + 1 < (w1.alloc (.cells #[.bool u.s, .slice u.p u.n u.c] 24)).heap.size) := ⟨HN.out.1.below hal2, (hal2.block _ hgl).trans HN.out.2, by simp; omega⟩
  generalize w1.alloc (.cells #[.bool u.s, .slice u.p u.n u.c] 24) = W2 at *
  generalize w1.heap.size = gn at *
  clear HN hal2 hB1 o0 o1 hgl
  by_cases ha : al < 1 ∨ 3 < al
  · go_fit (oNew_none W2 al u ha hal)
    rintro r w3 ⟨rfl, hb3⟩
    have HG : Hid (Below w.heap.size w w3 ∧ w3.heap[w.heap.size + 1]? = some (.cells #[.int .i64 0, .bool false, .slice none 0 0] 40 (0, 0))) := ⟨bnext' hB2 hb3, (hb3.block _ HM.out.2.2).trans HM.out.2.1⟩
    clear hb3 hB2 HM hBn
    obtain ⟨z0, z1, z2, f0, f1, f2⟩ := box3 HG.out.2
    have HB : Hid (Below w.heap.size w w3) := HG.out.1
    clear HG
    go_wp2_with fail
    refine bodyPost_ret (v := .tuple #[.pointer none, .agg #[.int .i64 0, .bool false, .slice none 0 0], .bool false]) (by simp [results, Tryz.results25, go_sem, z0, z1, z2]) rfl ⟨.inl rfl, ?_⟩
    exact ((HB.out.setCell (p := ⟨w.heap.size + 1, 0, none⟩) (Nat.le_succ _) _).setCell (p := ⟨w.heap.size + 1, 1, none⟩) (Nat.le_succ _) _).setCell (p := ⟨w.heap.size + 1, 2, none⟩) (Nat.le_succ _) _
  have ha' : al = 1 ∨ al = 2 ∨ al = 3 := by omega
  by_cases hz : al = 3 ∧ y = 0
  · obtain ⟨rfl, rfl⟩ := hz
    go_fit (oNew_zero HM.out.1)
    rintro r w3 ⟨rfl, hb3⟩
    have HG : Hid (Below w.heap.size w w3 ∧ w3.heap[w.heap.size + 1]? = some (.cells #[.int .i64 0, .bool false, .slice none 0 0] 40 (0, 0))) := ⟨bnext' hB2 hb3, (hb3.block _ HM.out.2.2).trans HM.out.2.1⟩
    clear hb3 hB2 HM hBn
    obtain ⟨z0, z1, z2, f0, f1, f2⟩ := box3 HG.out.2
    have HB : Hid (Below w.heap.size w w3) := HG.out.1
    clear HG
    go_wp2_with fail
    refine bodyPost_ret (v := .tuple #[.pointer none, .agg #[.int .i64 0, .bool false, .slice none 0 0], .bool false]) (by simp [results, Tryz.results25, go_sem, z0, z1, z2]) rfl ⟨.inl rfl, ?_⟩
    exact ((HB.out.setCell (p := ⟨w.heap.size + 1, 0, none⟩) (Nat.le_succ _) _).setCell (p := ⟨w.heap.size + 1, 1, none⟩) (Nat.le_succ _) _).setCell (p := ⟨w.heap.size + 1, 2, none⟩) (Nat.le_succ _) _
  have hy0 : al = 3 → y ≠ 0 := fun h1 h2 => hz ⟨h1, h2⟩
  go_fit (oNew_all HM.out.1 ha' hy0)
  rintro r w3 ⟨g, rfl, hRQ, hb3⟩
  have HG : Hid (Below w.heap.size w w3 ∧ w3.heap[w.heap.size + 1]? = some (.cells #[.int .i64 0, .bool false, .slice none 0 0] 40 (0, 0)) ∧ RuleQ w3 g al (qof al y) ∧ EV w3 1 y u ∧ Bx w3 gn (.bool u.s) (.slice u.p u.n u.c)) := ⟨bnext' hB2 hb3, (hb3.block _ HM.out.2.2).trans HM.out.2.1, hRQ, HM.out.1.below hb3, hBn.later hb3⟩
  clear hb3 hB2 HM hBn hRQ hz hy0 ha
  go_wp2_with fail
  go_fit (rOf_n 0 w3 (by decide) (by decide))
  rintro r w4 ⟨x4, rfl, hR4, hF4, hb4⟩
  have hs3 : w.heap.size + 1 < w3.heap.size := (Array.getElem?_eq_some_iff.1 HG.out.2.1).1
  have hal5 := bel_al (o := .cells #[.bool x4.s, .slice x4.p x4.n x4.c] 30) (Below.refl w4.heap.size w4)
  have hb5 := bnext' hb4 hal5
  have hx5 : (w4.alloc (.cells #[.bool x4.s, .slice x4.p x4.n x4.c] 30)).heap[w4.heap.size]? = some (.cells #[.bool x4.s, .slice x4.p x4.n x4.c] 30 (0, 0)) := heap_alloc_new w4 _
  have hw35 : w3.heap.size ≤ (w4.alloc (.cells #[.bool x4.s, .slice x4.p x4.n x4.c] 30)).heap.size := hb5.size
  have HH : Hid (Below w.heap.size w (w4.alloc (.cells #[.bool x4.s, .slice x4.p x4.n x4.c] 30)) ∧ (w4.alloc (.cells #[.bool x4.s, .slice x4.p x4.n x4.c] 30)).heap[w.heap.size + 1]? = some (.cells #[.int .i64 0, .bool false, .slice none 0 0] 40 (0, 0)) ∧ RuleQ (w4.alloc (.cells #[.bool x4.s, .slice x4.p x4.n x4.c] 30)) g al (qof al y) ∧ EV (w4.alloc (.cells #[.bool x4.s, .slice x4.p x4.n x4.c] 30)) 1 y u ∧ Bx (w4.alloc (.cells #[.bool x4.s, .slice x4.p x4.n x4.c] 30)) gn (.bool u.s) (.slice u.p u.n u.c) ∧ Bx (w4.alloc (.cells #[.bool x4.s, .slice x4.p x4.n x4.c] 30)) w4.heap.size (.bool x4.s) (.slice x4.p x4.n x4.c) ∧ RE (w4.alloc (.cells #[.bool x4.s, .slice x4.p x4.n x4.c] 30)) 2 0 x4 ∧ Go.Proofs.YtifebbacnlhggaaGreatDoor.From w3.heap.size x4.p) := ⟨bnext' HG.out.1 hb5, (hb5.block _ hs3).trans HG.out.2.1, HG.out.2.2.1.below hb5, HG.out.2.2.2.1.below hb5, HG.out.2.2.2.2.later hb5, Bx.new _ _ _ rfl, RE.below (show RE w4 2 0 x4 from ⟨hR4.1.tight (K := 1) (by decide), hR4.2⟩) hal5, hF4⟩
  have hgr : w.heap.size + 1 < w4.heap.size := Nat.lt_of_lt_of_le hs3 hb4.size
  clear hb5 hb4 hR4 hF4 HG
  by_cases h3 : al = 3
  · subst h3
    obtain ⟨m0, m1, -, -⟩ := HH.out.2.2.2.2.1
    go_wp2_with fail
    have hgx : w4.heap.size < (w4.alloc (.cells #[.bool x4.s, .slice x4.p x4.n x4.c] 30)).heap.size := by simp
    generalize w4.alloc (.cells #[.bool x4.s, .slice x4.p x4.n x4.c] 30) = W5 at *
    generalize w4.heap.size = gx' at *
    go_fit (rFrom_e HH.out.2.2.2.1)
    rintro r w6 ⟨x6, rfl, hR6, hF6, hb6⟩
    have hgr6 : w.heap.size + 1 < W5.heap.size := Nat.lt_trans hgr hgx
    obtain ⟨y0, y1, y2, y3⟩ := HH.out.2.2.2.2.2.1.later hb6
    have hR6' : RE ((w6.setCell ⟨gx', 0, none⟩ (.bool x6.s)).setCell ⟨gx', 1, none⟩ (.slice x6.p x6.n x6.c)) 2 y x6 := by
      refine RE.set2 hR6 fun h0 a ha => ?_
      have := hF6 a ha
      show a.block ≠ gx'
      omega
    have hB6 : Below w.heap.size w ((w6.setCell ⟨gx', 0, none⟩ (.bool x6.s)).setCell ⟨gx', 1, none⟩ (.slice x6.p x6.n x6.c)) := bset2 (bnext' HH.out.1 hb6) (by omega) _ _
    have hG6 : ((w6.setCell ⟨gx', 0, none⟩ (.bool x6.s)).setCell ⟨gx', 1, none⟩ (.slice x6.p x6.n x6.c)).heap[w.heap.size + 1]? = some (.cells #[.int .i64 0, .bool false, .slice none 0 0] 40 (0, 0)) := by
      rw [heap_setCell_other _ _ _ _ (by show _ ≠ gx'; omega), heap_setCell_other _ _ _ _ (by show _ ≠ gx'; omega)]
      exact (hb6.block _ hgr6).trans HH.out.2.1
    have hX6 := Bx_set (x := .bool x6.s) (y := .slice x6.p x6.n x6.c) (HH.out.2.2.2.2.2.1.later hb6)
    have H6 : Hid (RuleQ ((w6.setCell ⟨gx', 0, none⟩ (.bool x6.s)).setCell ⟨gx', 1, none⟩ (.slice x6.p x6.n x6.c)) g 3 (qof 3 y)) := RuleQ.putG (HH.out.2.2.1.below hb6) ((hb6.block _ hgx).trans hx5) (by decide) (fun o z => no_int ((hb6.block _ hgx).trans hx5) o .u32 z) (put2_other _ _ _ _)
    have H7 : Hid (From w3.heap.size x6.p) := fun a ha => Nat.le_trans (by omega) (hF6 a ha)
    have H8 : Hid (RE ((w6.setCell ⟨gx', 0, none⟩ (.bool x6.s)).setCell ⟨gx', 1, none⟩ (.slice x6.p x6.n x6.c)) 2 y x6 ∧ Below w.heap.size w ((w6.setCell ⟨gx', 0, none⟩ (.bool x6.s)).setCell ⟨gx', 1, none⟩ (.slice x6.p x6.n x6.c)) ∧ ((w6.setCell ⟨gx', 0, none⟩ (.bool x6.s)).setCell ⟨gx', 1, none⟩ (.slice x6.p x6.n x6.c)).heap[w.heap.size + 1]? = some (.cells #[.int .i64 0, .bool false, .slice none 0 0] 40 (0, 0)) ∧ Bx ((w6.setCell ⟨gx', 0, none⟩ (.bool x6.s)).setCell ⟨gx', 1, none⟩ (.slice x6.p x6.n x6.c)) gx' (.bool x6.s) (.slice x6.p x6.n x6.c)) := ⟨hR6', hB6, hG6, hX6⟩
    clear m0 m1 hR6 hR6' hB6 hG6 hX6 hF6 hx5
    go_upto_region 8 with fail
    generalize (w6.setCell ⟨gx', 0, none⟩ (.bool x6.s)).setCell ⟨gx', 1, none⟩ (.slice x6.p x6.n x6.c) = W8 at *
    obtain ⟨v0, v1, -, -⟩ := H8.out.2.2.2
    obtain ⟨z0, z1, z2, f0, f1, f2⟩ := box3 H8.out.2.2.1
    clear y0 y1 y2 y3
    go_still_tail 5, (by kernel_rfl)
    go_wp2_with fail
    refine bodyPost_ret (v := .tuple #[.pointer (some ⟨g, 0, none⟩), .agg #[.int .i64 3, .bool x6.s, .slice x6.p x6.n x6.c], .bool true]) (by simp [results, Tryz.results25, go_sem, z0, z1, z2]) rfl ⟨.inr ⟨g, qof 3 y, x6, rfl, ?_, ?_⟩, ?_⟩
    · exact H6.out.put H8.out.2.2.1 (put3_other _ _ _ _ _)
    · rw [qof, if_pos rfl]
      exact H8.out.1.same fun hn a ha => put3_other _ _ _ _ _ _ (by have := H7.out a ha; omega)
    · exact (((H8.out.2.1.setCell (p := ⟨w.heap.size + 1, 0, none⟩) (Nat.le_succ _) _).setCell (p := ⟨w.heap.size + 1, 1, none⟩) (Nat.le_succ _) _).setCell (p := ⟨w.heap.size + 1, 2, none⟩) (Nat.le_succ _) _).drew
  · have h4 : (al == 3) = false := by rw [beq_eq_false_iff_ne]; exact h3
    have hgx : w4.heap.size < (w4.alloc (.cells #[.bool x4.s, .slice x4.p x4.n x4.c] 30)).heap.size := by simp
    obtain ⟨y0, y1, -, -⟩ := HH.out.2.2.2.2.2.1
    obtain ⟨z0, z1, z2, f0, f1, f2⟩ := box3 HH.out.2.1
    go_wp2_with fail
    generalize w4.alloc (.cells #[.bool x4.s, .slice x4.p x4.n x4.c] 30) = W5 at *
    generalize w4.heap.size = gx' at *
    go_still_tail 5, (by kernel_rfl)
    go_wp2_with fail
    refine bodyPost_ret (v := .tuple #[.pointer (some ⟨g, 0, none⟩), .agg #[.int .i64 al, .bool x4.s, .slice x4.p x4.n x4.c], .bool true]) (by simp [results, Tryz.results25, go_sem, z0, z1, z2]) rfl ⟨.inr ⟨g, (qof al y), x4, rfl, ?_, ?_⟩, ?_⟩
    · exact HH.out.2.2.1.put HH.out.2.1 (put3_other _ _ _ _ _)
    · rw [qof, if_neg h3]
      exact HH.out.2.2.2.2.2.2.1.same fun hn a ha => put3_other _ _ _ _ _ _ (by have := HH.out.2.2.2.2.2.2.2 a ha; omega)
    · exact (((HH.out.1.setCell (p := ⟨w.heap.size + 1, 0, none⟩) (Nat.le_succ _) _).setCell (p := ⟨w.heap.size + 1, 1, none⟩) (Nat.le_succ _) _).setCell (p := ⟨w.heap.size + 1, 2, none⟩) (Nat.le_succ _) _).drew
end Go.Proofs.YtifebbacnlhggaaGreatDoor
/-
  gauge.Of.
-/
namespace Go.Proofs.YtifebbacnlhggaaGreatDoor
open Go.RowKit
set_option linter.unusedVariables false
set_option linter.unusedSimpArgs false

end Go.Proofs.YtifebbacnlhggaaGreatDoor
/-
  estimate.Divide.
-/
namespace Go.Proofs.YtifebbacnlhggaaGreatDoor
open Go.RowKit
set_option linter.unusedVariables false
set_option linter.unusedSimpArgs false

end Go.Proofs.YtifebbacnlhggaaGreatDoor
/-
  estimate.Common.
-/
namespace Go.Proofs.YtifebbacnlhggaaGreatDoor
open Go.RowKit
set_option linter.unusedVariables false
set_option linter.unusedSimpArgs false

end Go.Proofs.YtifebbacnlhggaaGreatDoor
/-
  gauge.Mul, Divide, Common.
-/
namespace Go.Proofs.YtifebbacnlhggaaGreatDoor
open Go.RowKit
set_option linter.unusedVariables false
set_option linter.unusedSimpArgs false

end Go.Proofs.YtifebbacnlhggaaGreatDoor
/-
  gauge.Apply.
-/
namespace Go.Proofs.YtifebbacnlhggaaGreatDoor
open Go.RowKit
set_option linter.unusedVariables false
set_option linter.unusedSimpArgs false
end Go.Proofs.YtifebbacnlhggaaGreatDoor
/-
  ashlarref9.By, Times (out of Or).
-/
namespace Go.Proofs.YtifebbacnlhggaaGreatDoor
open Go.RowKit
set_option linter.unusedVariables false
set_option linter.unusedSimpArgs false

set_option maxHeartbeats 1000000 in
/-- ashlarref9.By. -/
theorem rBy_any {w : World} (a b : Int) (ha : 1 ≤ a) (ha' : a ≤ 4611686018427387904) (hb : 1 ≤ b) :
    Calls Tryz.prog 67 #[.int .i64 a, .int .i64 b] w fun e w' => e = .returned (.int .i64 (min (a * b) 4611686018427387904)) ∧ w' = w := by
  have i1 : ¬ (4611686018427387904 < a) := by omega
  have i2 : (a != 0) = true := by rw [bne_iff_ne]; omega
  have i5 : a ≠ 0 := by omega
  have key : b ≤ 4611686018427387904 / a ↔ b * a ≤ 4611686018427387904 := Int.le_ediv_iff_mul_le (by omega)
  rw [Int.mul_comm b a] at key
  have hpos : 1 ≤ a * b := Int.mul_le_mul ha hb (by decide) (by omega)
  rcases Int.lt_or_le (4611686018427387904 / a) b with h | h
  · have HE : Hid (min (a * b) 4611686018427387904 = 4611686018427387904) := by
      have : ¬ a * b ≤ 4611686018427387904 := fun hh => by have := key.2 hh; omega
      show min (a * b) 4611686018427387904 = 4611686018427387904
      omega
    clear key hpos
    rw [HE.out]
    go_enter Tryz.func67, Tryz.ntmps67
    go_wp2
    go_ret
    exact ⟨rfl, rfl⟩
  · have h' := key.1 h
    have HE : Hid (min (a * b) 4611686018427387904 = a * b) := by
      show min (a * b) 4611686018427387904 = a * b
      omega
    have i4 : wrap64 (a * b) = a * b := by unfold wrap64; omega
    have i3 : ¬ (4611686018427387904 / a < b) := by omega
    clear key hpos h h'
    rw [HE.out]
    go_enter Tryz.func67, Tryz.ntmps67
    go_wp2
    go_ret
    exact ⟨rfl, rfl⟩
set_option maxHeartbeats 1000000 in
set_option maxRecDepth 100000 in
/-- ashlarref9.Times. -/
theorem rTimes_any {w : World} {p : Option Addr} {n nc : Nat} {xs : List Int} (hl : xs.length = n) (hX : Rd w p .i64 xs) (hn : n ≤ 1000000) :
    Calls Tryz.prog 65 #[.slice p n nc] w fun e w' => e = .returned (.int .i64 (tms xs)) ∧ w' = w := by
  have HX : Hid (xs.length = n ∧ Rd w p .i64 xs) := ⟨hl, hX⟩
  clear hl hX
  go_enter Tryz.func65, Tryz.ntmps65
  go_wp2_with fail
  go_loopw [3, 4] (fun cv iv wr => ∃ k : Nat, k ≤ n ∧ iv = .int .i64 k ∧ cv = .int .i64 (tms (xs.take k)) ∧ wr = w) (fun _ iv _ => n - (intOf iv).toNat)
  case atStart => exact ⟨0, Nat.zero_le _, by go_num, rfl, rfl⟩
  case round =>
    obtain ⟨k, hk, rfl, rfl, rfl⟩ := hrel
    obtain ⟨hl, hX⟩ := HX.out
    obtain ⟨d1, d2⟩ := tms_bd (xs.take k) 1 (by decide) (by decide)
    rcases Nat.lt_or_ge k n with hlt | hge
    · obtain ⟨b, o, hp, hc⟩ := hX (by omega)
      subst hp
      have c0 := hc k (by omega)
      have HP : Hid (tms (xs.take (k + 1)) = tmf (tms (xs.take k)) (gx xs k)) := tms_take 1 xs k (by omega)
      generalize gx xs k = x at *
      have d1' : 1 ≤ tms (xs.take k) := d1
      have d2' : tms (xs.take k) ≤ 4611686018427387904 := d2
      clear d1 d2
      generalize tms (xs.take k) = c at *
      have i1 : (k : Int) < (n : Int) := by omega
      clear hc hl hX
      rcases Int.lt_or_le 1 x with h1 | h1
      · have HP' : Hid (tms (xs.take (k + 1)) = min (c * x) 4611686018427387904) := by
          have h3 : max x 1 = x := by omega
          have h4 := HP.out
          unfold tmf at h4
          rw [h3] at h4
          exact h4
        clear HP
        go_wp2_with fail
        refine (rBy_any c x d1' d2' (by omega)).mono ?_
        rintro e w1 ⟨rfl, rfl⟩
        go_wp2_with fail
        refine ⟨⟨k + 1, by omega, by go_num, by rw [HP'.out], by first | rfl | trivial⟩, by simp [intOf]; omega⟩
      · have h2 : ¬ (1 < x) := by omega
        have HP' : Hid (tms (xs.take (k + 1)) = c) := by
          have h3 : max x 1 = 1 := by omega
          have h4 := HP.out
          unfold tmf at h4
          rw [h3, Int.mul_one] at h4
          show tms (xs.take (k + 1)) = c
          omega
        go_wp2_with fail
        refine ⟨⟨k + 1, by omega, by go_num, by rw [HP'.out], by first | rfl | trivial⟩, by simp [intOf]; omega⟩
    · obtain rfl : k = n := by omega
      have HE : Hid (tms (xs.take k) = tms xs) := by rw [List.take_of_length_le (by omega)]; rfl
      have i1 : ¬ (k : Int) < (k : Int) := by omega
      clear hX hl d1 d2
      go_wp2
      go_ret
      exact ⟨by rw [← HE.out]; rfl, rfl⟩
end Go.Proofs.YtifebbacnlhggaaGreatDoor
/-
  ashlarref9: Plus, By, Sum, Size.
-/
namespace Go.Proofs.YtifebbacnlhggaaGreatDoor
open Go.RowKit
set_option linter.unusedVariables false
set_option linter.unusedSimpArgs false

set_option maxHeartbeats 1000000 in
/-- ashlarref9.Plus. -/
theorem rPlus_any {w : World} (a b : Int) (ha : InT a) (hb : InT b) :
    Calls Tryz.prog 120 #[.int .i64 a, .int .i64 b] w fun e w' => e = .returned (.int .i64 (smf a b)) ∧ w' = w := by
  unfold InT at ha hb
  have v1 : wrap64 (4611686018427387904 - b) = 4611686018427387904 - b := by unfold wrap64; omega
  rcases Int.lt_or_le (4611686018427387904 - b) a with h | h
  · have HE : Hid (smf a b = 4611686018427387904) := by show smf a b = _; unfold smf; omega
    rw [HE.out]
    go_enter Tryz.func120, Tryz.ntmps120
    go_wp2
    go_ret
    exact ⟨rfl, rfl⟩
  · have HE : Hid (smf a b = a + b) := by show smf a b = _; unfold smf; omega
    have h' : ¬ 4611686018427387904 - b < a := by omega
    have v2 : wrap64 (a + b) = a + b := by unfold wrap64; omega
    rw [HE.out]
    go_enter Tryz.func120, Tryz.ntmps120
    go_wp2
    go_ret
    exact ⟨rfl, rfl⟩
set_option maxHeartbeats 1000000 in
/-- ashlarref9.By, of numbers from 0 on. -/
theorem rBy0_any {w : World} (a b : Int) (ha : InT a) (hb : InI b) :
    Calls Tryz.prog 67 #[.int .i64 a, .int .i64 b] w fun e w' => e = .returned (.int .i64 (pmf a b)) ∧ Below w.heap.size w w' := by
  rcases Int.lt_or_le 0 a with h0 | h0
  · rcases Int.lt_or_le 0 b with h1 | h1
    · refine (rBy_any a b (by omega) ha.2 (by omega)).mono ?_
      rintro e w' ⟨rfl, rfl⟩
      exact ⟨rfl, Below.refl _ _⟩
    · obtain rfl : b = 0 := by have := hb.1; omega
      have i1 : ¬ (4611686018427387904 < a) := by have := ha.2; omega
      have i2 : (a != 0) = true := by rw [bne_iff_ne]; omega
      have i5 : a ≠ 0 := by omega
      have hp : 0 ≤ 4611686018427387904 / a := Int.ediv_nonneg (by decide) (by omega)
      have i3 : ¬ (4611686018427387904 / a < 0) := by omega
      have HE : Hid (pmf a 0 = 0) := by show pmf a 0 = 0; unfold pmf; rw [Int.mul_zero]; rfl
      rw [HE.out]
      clear hp
      go_enter Tryz.func67, Tryz.ntmps67
      go_wp2
      go_ret
      exact ⟨rfl, Below.refl _ _⟩
  · obtain rfl : a = 0 := by have := ha.1; omega
    have HE : Hid (pmf 0 b = 0) := by show pmf 0 b = 0; unfold pmf; rw [Int.zero_mul]; rfl
    rw [HE.out]
    go_enter Tryz.func67, Tryz.ntmps67
    go_wp2
    go_ret
    exact ⟨rfl, Below.refl _ _⟩
set_option maxHeartbeats 1000000 in
set_option maxRecDepth 100000 in
/-- ashlarref9.Sum. -/
theorem rSum_any {w : World} {p : Option Addr} {n nc : Nat} {xs : List Int} (hl : xs.length = n) (hX : Rd w p .i64 xs) (hn : n ≤ 1000000) (hx : ∀ x ∈ xs, InT x) :
    Calls Tryz.prog 66 #[.slice p n nc] w fun e w' => e = .returned (.int .i64 (sms xs)) ∧ w' = w := by
  have HX : Hid (xs.length = n ∧ Rd w p .i64 xs ∧ ∀ x ∈ xs, InT x) := ⟨hl, hX, hx⟩
  clear hl hX hx
  go_enter Tryz.func66, Tryz.ntmps66
  go_wp2_with fail
  go_loopw [3, 4] (fun cv iv wr => ∃ k : Nat, k ≤ n ∧ iv = .int .i64 k ∧ cv = .int .i64 (sms (xs.take k)) ∧ wr = w) (fun _ iv _ => n - (intOf iv).toNat)
  case atStart => exact ⟨0, Nat.zero_le _, by go_num, rfl, rfl⟩
  case round =>
    obtain ⟨k, hk, rfl, rfl, rfl⟩ := hrel
    obtain ⟨hl, hX, hx⟩ := HX.out
    rcases Nat.lt_or_ge k n with hlt | hge
    · obtain ⟨b, o, hp, hc⟩ := hX (by omega)
      subst hp
      have c0 := hc k (by omega)
      have HT : Hid (sms (xs.take (k + 1)) = smf (sms (xs.take k)) (gx xs k)) := fold_take smf 0 xs k (by omega)
      have hT : InT (sms (xs.take k)) := fold_inv smf InT InT (fun c x h1 h2 => smf_bd c x h1 ⟨h2.1, by have := h2.2; omega⟩) _ 0 ⟨by decide, by decide⟩ fun x hx' => hx x (List.mem_of_mem_take hx')
      have hg : InT (gx xs k) := by rw [gx_mem xs k (by omega)]; exact hx _ (List.getElem_mem _)
      have hpl := rPlus_any (w := wr) _ _ hT hg
      have i1 : (k : Int) < (n : Int) := by omega
      clear hl hX hx hc hT hg
      generalize gx xs k = x at *
      generalize sms (xs.take k) = c at *
      go_wp2_with fail
      go_fit hpl
      rintro e w1 ⟨rfl, hw⟩
      subst w1
      clear hpl
      go_wp2_with fail
      refine ⟨⟨k + 1, by omega, by go_num, by rw [HT.out], by first | rfl | trivial⟩, by simp [intOf]; omega⟩
    · obtain rfl : k = n := by omega
      have HE : Hid (sms (xs.take k) = sms xs) := by rw [List.take_of_length_le (by omega)]; rfl
      have i1 : ¬ (k : Int) < (k : Int) := by omega
      clear hX hl hx
      go_wp2
      go_ret
      exact ⟨by rw [← HE.out]; rfl, rfl⟩
end Go.Proofs.YtifebbacnlhggaaGreatDoor
/-
  ashlarref9.Size, Mul.
-/
namespace Go.Proofs.YtifebbacnlhggaaGreatDoor
open Go.RowKit
set_option linter.unusedVariables false
set_option linter.unusedSimpArgs false

/-- The size of an operator. -/
def rszO (l : List (List Int)) : Int := if l.length = 0 then 0 else (l.length : Int) - 1
def rszD (l : List (List Int)) : Int := if l.length = 0 then 0 else odeg l
def rszB (l : List (List Int)) : Int := if l.length = 0 then 0 else (obit l : Int)
set_option maxHeartbeats 1000000 in
set_option maxRecDepth 100000 in
/-- ashlarref9.Size. -/
theorem rSize8_any {w : World} {B T N E D : Nat} {l : List (List Int)} {h : Hdr} (H : HR D (EY N E) w B T l h) (hT : T ≤ w.heap.size) (hD : D ≤ 1000000) (hE : E ≤ 1000000) (hN : N ≤ 1000) :
    Calls Tryz.prog 63 #[.slice h.p h.n h.c] w fun e w' => e = .returned (.tuple #[.int .i64 (rszO l), .int .i64 (rszD l), .int .i64 (rszB l)]) ∧ Below w.heap.size w w' := by
  have h2 := fun w' (hb : Below w.heap.size w w') => rDegree8_any ((lasts_HR (lasts_EY N E)).below H hT hb) (Nat.le_trans hT hb.size) hD hE
  have h3 := fun w' (hb : Below w.heap.size w w') => rBits8_any ((lasts_HR (lasts_EY N E)).below H hT hb) (Nat.le_trans hT hb.size) hD hE hN
  have hl : l.length = h.n ∧ h.n ≤ 1000000 := by obtain ⟨_, k⟩ := H; exact ⟨k.tl, Nat.le_trans k.few hD⟩
  have hO : rszO l = if h.n = 0 then 0 else (h.n : Int) - 1 := by rw [rszO, hl.1]
  have hD' : rszD l = if h.n = 0 then 0 else odeg l := by rw [rszD, hl.1]
  have hB : rszB l = if h.n = 0 then 0 else (obit l : Int) := by rw [rszB, hl.1]
  rw [hO, hD', hB]
  obtain ⟨p, n, nc⟩ := h
  have hn := hl.2
  simp only at h2 h3 hn ⊢
  clear H hT hl hO hD' hB
  generalize odeg l = d at *
  generalize (obit l : Int) = k at *
  rcases Nat.eq_zero_or_pos n with h0 | h0
  · subst h0
    go_enter Tryz.func63, Tryz.ntmps63
    go_wp2
    refine bodyPost_ret (v := .tuple #[.int .i64 0, .int .i64 0, .int .i64 0]) (by simp [results, Tryz.results63, go_sem]) rfl ⟨rfl, Below.refl _ _⟩
  · have i1 : ((n : Int) == 0) = false := by rw [beq_eq_false_iff_ne]; omega
    have i2 : ¬ (n : Int) = 0 := by omega
    have i3 : ¬ n = 0 := by omega
    rw [if_neg i3, if_neg i3, if_neg i3]
    have hor := rOrder8_any w p n nc hn
    generalize (n : Int) - 1 = r at *
    go_enter Tryz.func63, Tryz.ntmps63
    go_wp2_with fail
    go_fit hor
    rintro e w1 ⟨rfl, hw⟩
    subst w1
    have h2' := h2 w (Below.refl _ _)
    go_wp2_with fail
    go_fit h2'
    rintro e w2 ⟨rfl, hb2⟩
    have h3' := h3 w2 hb2
    go_wp2_with fail
    go_fit h3'
    rintro e w3 ⟨rfl, hb3⟩
    have HB : Hid (Below w.heap.size w w3) := bnext' hb2 hb3
    clear h2 h3 h2' h3' hb2 hb3 hor
    go_wp2
    refine bodyPost_ret (v := .tuple #[.int .i64 r, .int .i64 d, .int .i64 k]) (by simp [results, Tryz.results63, go_sem]) rfl ⟨rfl, HB.out⟩
end Go.Proofs.YtifebbacnlhggaaGreatDoor
/-
  ashlarref9.Mul.
-/
namespace Go.Proofs.YtifebbacnlhggaaGreatDoor
open Go.RowKit
set_option linter.unusedVariables false
set_option linter.unusedSimpArgs false

theorem rtimes_lit {w : World} {b : Nat} (xs : List Int) (n : Nat) (hl : xs.length = n) (hn : n ≤ 100) (h : Rd w (some ⟨b, 0, none⟩) .i64 xs) (hx : ∀ x ∈ xs, InI x) :
    Calls Tryz.prog 65 #[.slice (some ⟨b, 0, none⟩) n n] w fun e w' => e = .returned (.int .i64 (tms xs)) ∧ Below w.heap.size w w' :=
  (rTimes_any hl h (by omega)).mono fun e w' ⟨a, b⟩ => ⟨a, by rw [b]; exact Below.refl _ _⟩
theorem rsum_lit {w : World} {b : Nat} (xs : List Int) (n : Nat) (hl : xs.length = n) (hn : n ≤ 100) (h : Rd w (some ⟨b, 0, none⟩) .i64 xs) (hx : ∀ x ∈ xs, InT x) :
    Calls Tryz.prog 66 #[.slice (some ⟨b, 0, none⟩) n n] w fun e w' => e = .returned (.int .i64 (sms xs)) ∧ Below w.heap.size w w' :=
  (rSum_any hl h (by omega) hx).mono fun e w' ⟨a, b⟩ => ⟨a, by rw [b]; exact Below.refl _ _⟩
/-- Sizes that are not too great. -/
def SzB (x : List (List Int)) : Prop := (0 ≤ rszO x ∧ rszO x ≤ 1000000) ∧ (0 ≤ rszD x ∧ rszD x ≤ 1000000) ∧ (0 ≤ rszB x ∧ rszB x ≤ 1000000000)
theorem inT_small {x : Int} (h0 : 0 ≤ x) (h1 : x ≤ 1000000000000) : InT x := ⟨h0, by omega⟩
theorem inI_small {x : Int} (h0 : 0 ≤ x) (h1 : x ≤ 1000000000000) : InI x := ⟨h0, by omega⟩
end Go.Proofs.YtifebbacnlhggaaGreatDoor
/-
  Sums stay below the top.
-/
namespace Go.Proofs.YtifebbacnlhggaaGreatDoor
open Go.RowKit
end Go.Proofs.YtifebbacnlhggaaGreatDoor
/-
  ashlarref9.Divide.
-/
namespace Go.Proofs.YtifebbacnlhggaaGreatDoor
open Go.RowKit
set_option linter.unusedVariables false
set_option linter.unusedSimpArgs false


end Go.Proofs.YtifebbacnlhggaaGreatDoor
/-
  ashlarref9.Common.
-/
namespace Go.Proofs.YtifebbacnlhggaaGreatDoor
open Go.RowKit
set_option linter.unusedVariables false
set_option linter.unusedSimpArgs false


end Go.Proofs.YtifebbacnlhggaaGreatDoor
