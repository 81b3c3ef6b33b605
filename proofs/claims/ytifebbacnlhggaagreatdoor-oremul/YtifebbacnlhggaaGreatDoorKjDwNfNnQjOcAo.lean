/-
  The set-up of layer 7's laws answers true, in whatever memory, and leaves what was there.
-/
import Derived.Test.YtifebbacnlhggaaGreatDoorG9
import Derived.Test.YtifebbacnlhggaaGreatDoorProg
import Derived.Test.YtifebbacnlhggaaGreatDoorCuOaOfJpCwDj
import Derived.Test.YtifebbacnlhggaaGreatDoorRoVbDaCxRbCyVi
import Derived.Test.YtifebbacnlhggaaGreatDoorReRxRfRhCqRrRwVa
import Derived.Test.YtifebbacnlhggaaGreatDoorCbNgNsPq
import Derived.Test.YtifebbacnlhggaaGreatDoorVkJoNcDpAaEpGiGj
import Derived.Deep.DeepFit
import Derived.StillTailTactics
import Derived.Test.YtifebbacnlhggaaGreatDoorEeEaEcBuBvEjErNxNy
import Derived.Test.YtifebbacnlhggaaGreatDoorQi
import Derived.Test.YtifebbacnlhggaaGreatDoorRtDhVeRsVfVcAjDqDrBmBqDuAkBrAlAp
namespace Go.Proofs.YtifebbacnlhggaaGreatDoor
open Go.RowKit
set_option maxHeartbeats 8000000
theorem nong7 : Ev.NoNG Tryz.prog := Ev.nong_of (by kernel_rfl)
theorem begun8_any (w : World) : Calls Tryz.prog 9 #[] w fun r w' => r = .returned (.bool true) ∧ Below w.heap.size w w' :=
  Ev.closed_call nong7 (by kernel_rfl) (n := 100000) (by kernel_rfl) w
set_option linter.unusedVariables false
set_option linter.unusedSimpArgs false
def qof (al y : Int) : Int := if al = 3 then y else 0
theorem ev_zero (w : World) : EV w 1 0 e00 := ⟨[], ⟨rfl, Nat.le_refl _, Nat.zero_le _, Nat.zero_le _, Rd.nil, fun j => by simp [gx]⟩, rfl, Nat.zero_le _⟩
theorem oNew_all {w : World} {al y : Int} {e : Ent} (he : EV w 1 y e) (ha : al = 1 ∨ al = 2 ∨ al = 3) (hy : al = 3 → y ≠ 0) :
    Calls Tryz.prog 12 #[.int .i64 al, .agg #[.bool e.s, .slice e.p e.n e.c]] w fun r w' => ∃ g, r = .returned (.tuple #[.pointer (some ⟨g, 0, none⟩), .int .i64 0]) ∧ RuleQ w' g al (qof al y) ∧ Below w.heap.size w w' := by
  rcases Int.decEq al 3 with h | h
  · refine (oNew_plain w al e (by omega)).mono ?_
    rintro r w' ⟨g, rfl, h1, h2, h3⟩
    exact ⟨g, rfl, ⟨ha, ⟨e00, h1, by rw [qof, if_neg h]; exact ev_zero _⟩, fun h' => absurd h' h⟩, h3⟩
  · subst h
    refine (oNew_q he (by decide) (hy rfl)).mono ?_
    rintro r w' ⟨g, f, rfl, h1, h2, h3, h4⟩
    exact ⟨g, rfl, ⟨ha, ⟨f, h1, by rw [qof, if_pos rfl]; exact h2.ev (by decide)⟩, fun _ => by rw [qof, if_pos rfl]; exact hy rfl⟩, h4⟩
theorem box3 {w : World} {b : Nat} {x y z : Value} {t : TypeId} (h : w.heap[b]? = some (.cells #[x, y, z] t (0, 0))) : w.cell? ⟨b, 0, none⟩ = some x ∧ w.cell? ⟨b, 1, none⟩ = some y ∧ w.cell? ⟨b, 2, none⟩ = some z ∧ w.frozen? ⟨b, 0, none⟩ = false ∧ w.frozen? ⟨b, 1, none⟩ = false ∧ w.frozen? ⟨b, 2, none⟩ = false :=
  ⟨by simp only [World.cell?]; rw [h]; rfl, by simp only [World.cell?]; rw [h]; rfl, by simp only [World.cell?]; rw [h]; rfl, frozen_of_row w _ 0 _ _ h, frozen_of_row w _ 1 _ _ h, frozen_of_row w _ 2 _ _ h⟩
theorem EV.offc {V : World} {K : Nat} {z : Int} {e : Ent} (h : EV V K z e) {g : Nat} (hc : ∀ (o : Nat) (y : Int), V.cell? ⟨g, o, none⟩ ≠ some (.int .u32 y)) : 0 < e.n → ∀ a, e.p = some a → a.block ≠ g := fun hn a ha hg => by
  obtain ⟨xs, h1, h2, h3⟩ := h
  obtain ⟨b, o, hb, hcell⟩ := h1.rd (by rw [h1.len]; exact hn)
  rw [ha] at hb
  cases hb
  simp only at hg
  subst hg
  exact hc _ _ (hcell 0 (by rw [h1.len]; exact hn))
theorem no_u32 {w : World} {g : Nat} {ty : TypeId} (hg : w.heap[g]? = some (.cells #[.int .i64 0, .bool false, .slice none 0 0] ty (0, 0))) (o : Nat) (z : Int) : w.cell? ⟨g, o, none⟩ ≠ some (.int .u32 z) := by
  simp only [World.cell?]
  rw [hg]
  intro h
  match o, h with
  | 0, h => cases h
  | 1, h => cases h
  | 2, h => cases h
  | n + 3, h => simp at h
theorem RuleQ.putG {W W' : World} {g gr : Nat} {al y : Int} {cs : Array Value} {ty : TypeId} {fz : Nat × Nat} (h : RuleQ W g al y) (hg : W.heap[gr]? = some (.cells cs ty fz)) (hty : ¬ ty = 85) (hno : ∀ (o : Nat) (z : Int), W.cell? ⟨gr, o, none⟩ ≠ some (.int .u32 z)) (hs : ∀ k, k ≠ gr → W'.heap[k]? = W.heap[k]?) : RuleQ W' g al y := by
  obtain ⟨ha, ⟨e, h1, h2⟩, h3⟩ := h
  have hne : g ≠ gr := fun e => by
    subst e
    unfold RuleAt at h1
    rw [hg] at h1
    simp only [Option.some.injEq, Obj.cells.injEq] at h1
    exact hty h1.2.1
  exact ⟨ha, ⟨e, (hs g hne).trans h1, h2.same fun hn a ha' => hs _ (h2.offc hno hn a ha')⟩, h3⟩
theorem RuleQ.put {W W' : World} {g gr : Nat} {al y : Int} (h : RuleQ W g al y) (hg : W.heap[gr]? = some (.cells #[.int .i64 0, .bool false, .slice none 0 0] 40 (0, 0))) (hs : ∀ k, k ≠ gr → W'.heap[k]? = W.heap[k]?) : RuleQ W' g al y :=
  h.putG hg (by decide) (no_u32 hg) hs
theorem put2_other (W : World) (gr : Nat) (a b : Value) (k : Nat) (hk : k ≠ gr) : ((W.setCell ⟨gr, 0, none⟩ a).setCell ⟨gr, 1, none⟩ b).heap[k]? = W.heap[k]? := by
  rw [heap_setCell_other _ _ _ _ hk, heap_setCell_other _ _ _ _ hk]
theorem put3_other (W : World) (gr : Nat) (a b c : Value) (k : Nat) (hk : k ≠ gr) : (((W.setCell ⟨gr, 0, none⟩ a).setCell ⟨gr, 1, none⟩ b).setCell ⟨gr, 2, none⟩ c).drew.heap[k]? = W.heap[k]? := by
  show (((W.setCell ⟨gr, 0, none⟩ a).setCell ⟨gr, 1, none⟩ b).setCell ⟨gr, 2, none⟩ c).heap[k]? = W.heap[k]?
  rw [heap_setCell_other _ _ _ _ hk, heap_setCell_other _ _ _ _ hk, heap_setCell_other _ _ _ _ hk]
def RuP (al : Int) (w : World) (r : Ending) (w' : World) : Prop :=
  (r = .returned (.tuple #[.pointer none, .agg #[.int .i64 0, .bool false, .slice none 0 0], .bool false]) ∨ ∃ g y xe, r = .returned (.tuple #[.pointer (some ⟨g, 0, none⟩), .agg #[.int .i64 al, .bool (Ent.s xe), .slice xe.p xe.n xe.c], .bool true]) ∧ RuleQ w' g al y ∧ RE w' 2 y xe) ∧ Below w.heap.size w w'
set_option maxRecDepth 100000 in
theorem lRule_any {w : World} {al : Int} {e : Ent} (he : RawE w e) (hal : -9223372036854775808 ≤ al ∧ al ≤ 9223372036854775807) :
    Calls Tryz.prog 25 #[.int .i64 al, .agg #[.bool e.s, .slice e.p e.n e.c]] w (RuP al w) := by
  have HX : Hid (RawE w e) := he
  clear he
  go_enter Tryz.func25, Tryz.ntmps25
  go_wp2_with fail
  have hW : Below w.heap.size w (((w.alloc (.cells #[.bool e.s, .slice e.p e.n e.c] 24)).alloc (.cells #[.int .i64 0, .bool false, .slice none 0 0] 40)).alloc (.cells #[.bool e.s, .slice e.p e.n e.c] 24)) := bel_al (bel_al (bel_al (Below.refl _ _)))
  have hc0 : (((w.alloc (.cells #[.bool e.s, .slice e.p e.n e.c] 24)).alloc (.cells #[.int .i64 0, .bool false, .slice none 0 0] 40)).alloc (.cells #[.bool e.s, .slice e.p e.n e.c] 24)).cell? ⟨w.heap.size + 1 + 1, 0, none⟩ = some (.bool e.s) := by
    have := (cells_lit ((w.alloc (.cells #[.bool e.s, .slice e.p e.n e.c] 24)).alloc (.cells #[.int .i64 0, .bool false, .slice none 0 0] 40)) (.bool e.s) (.slice e.p e.n e.c) 24).1
    rwa [World.size_alloc, World.size_alloc] at this
  have hc1 : (((w.alloc (.cells #[.bool e.s, .slice e.p e.n e.c] 24)).alloc (.cells #[.int .i64 0, .bool false, .slice none 0 0] 40)).alloc (.cells #[.bool e.s, .slice e.p e.n e.c] 24)).cell? ⟨w.heap.size + 1 + 1, 1, none⟩ = some (.slice e.p e.n e.c) := by
    have := (cells_lit ((w.alloc (.cells #[.bool e.s, .slice e.p e.n e.c] 24)).alloc (.cells #[.int .i64 0, .bool false, .slice none 0 0] 40)) (.bool e.s) (.slice e.p e.n e.c) 24).2
    rwa [World.size_alloc, World.size_alloc] at this
  have hG : (((w.alloc (.cells #[.bool e.s, .slice e.p e.n e.c] 24)).alloc (.cells #[.int .i64 0, .bool false, .slice none 0 0] 40)).alloc (.cells #[.bool e.s, .slice e.p e.n e.c] 24)).heap[w.heap.size + 1]? = some (.cells #[.int .i64 0, .bool false, .slice none 0 0] 40 (0, 0)) := by
    have h1 := heap_alloc_new (w.alloc (.cells #[.bool e.s, .slice e.p e.n e.c] 24)) (.cells #[.int .i64 0, .bool false, .slice none 0 0] 40)
    rw [World.size_alloc] at h1
    have h2 : Below (w.heap.size + 1 + 1) ((w.alloc (.cells #[.bool e.s, .slice e.p e.n e.c] 24)).alloc (.cells #[.int .i64 0, .bool false, .slice none 0 0] 40)) (((w.alloc (.cells #[.bool e.s, .slice e.p e.n e.c] 24)).alloc (.cells #[.int .i64 0, .bool false, .slice none 0 0] 40)).alloc (.cells #[.bool e.s, .slice e.p e.n e.c] 24)) := (Below.refl _ _).alloc (by simp) _
    exact (h2.block _ (by omega)).trans h1
  have hcut := cut1_ax (X := fun _ => False) (lo := 0) HX.out hW hc0 hc1 (fun c hc => hc.elim) (Nat.zero_le _) 1 (by decide)
  generalize ((w.alloc (.cells #[.bool e.s, .slice e.p e.n e.c] 24)).alloc (.cells #[.int .i64 0, .bool false, .slice none 0 0] 40)).alloc (.cells #[.bool e.s, .slice e.p e.n e.c] 24) = W at *
  have hgW : w.heap.size + 1 < W.heap.size := (Array.getElem?_eq_some_iff.1 hG).1
  go_fit hcut
  rintro r w1 ⟨_, rfl, ⟨b, o, c, u, y, rfl, hO, hN⟩, hb1⟩
  have hB1 := bnext' hW hb1
  have o0 : w1.cell? ⟨b, o, none⟩ = some (.bool u.s) := hO.1
  have o1 : w1.cell? ⟨b, o + 1, none⟩ = some (.slice u.p u.n u.c) := hO.2
  have HN : Hid (EV w1 1 y u ∧ w1.heap[w.heap.size + 1]? = some (.cells #[.int .i64 0, .bool false, .slice none 0 0] 40 (0, 0))) := ⟨hN.1, (hb1.block _ hgW).trans hG⟩
  clear hcut hO hN hb1 hc0 hc1 hW hG hgW HX
  go_wp2_with fail
  have hal2 := bel_al (o := .cells #[.bool u.s, .slice u.p u.n u.c] 24) (Below.refl w1.heap.size w1)
  have hBn : Bx (w1.alloc (.cells #[.bool u.s, .slice u.p u.n u.c] 24)) w1.heap.size (.bool u.s) (.slice u.p u.n u.c) := Bx.new _ _ _ rfl
  have hB2 := bnext' hB1 hal2
  have hgl : w.heap.size + 1 < w1.heap.size := (Array.getElem?_eq_some_iff.1 HN.out.2).1
  have HM : Hid (EV (w1.alloc (.cells #[.bool u.s, .slice u.p u.n u.c] 24)) 1 y u ∧ (w1.alloc (.cells #[.bool u.s, .slice u.p u.n u.c] 24)).heap[w.heap.size + 1]? = some (.cells #[.int .i64 0, .bool false, .slice none 0 0] 40 (0, 0)) ∧ w.heap.size + 1 < (w1.alloc (.cells #[.bool u.s, .slice u.p u.n u.c] 24)).heap.size) := ⟨HN.out.1.below hal2, (hal2.block _ hgl).trans HN.out.2, by simp; omega⟩
  generalize w1.alloc (.cells #[.bool u.s, .slice u.p u.n u.c] 24) = W2 at *
  generalize w1.heap.size = gn at *
  clear HN hal2 hB1 o0 o1 hgl
  by_cases ha : al < 1 ∨ 3 < al
  · go_fit (oNew_none W2 al u ha hal)
    rintro r w3 ⟨rfl, hb3⟩
    have HG : Hid (Below w.heap.size w w3 ∧ w3.heap[w.heap.size + 1]? = some (.cells #[.int .i64 0, .bool false, .slice none 0 0] 40 (0, 0))) := ⟨bnext' hB2 hb3, (hb3.block _ HM.out.2.2).trans HM.out.2.1⟩
    clear hb3 hB2 HM hBn
    obtain ⟨z0, z1, z2, f0, f1, f2⟩ := box3 HG.out.2
    have HB : Hid (Below w.heap.size w w3) := HG.out.1
    clear HG
    go_wp2_with fail
    refine bodyPost_ret (v := .tuple #[.pointer none, .agg #[.int .i64 0, .bool false, .slice none 0 0], .bool false]) (by simp [results, Tryz.results25, go_sem, z0, z1, z2]) rfl ⟨.inl rfl, ?_⟩
    exact ((HB.out.setCell (p := ⟨w.heap.size + 1, 0, none⟩) (Nat.le_succ _) _).setCell (p := ⟨w.heap.size + 1, 1, none⟩) (Nat.le_succ _) _).setCell (p := ⟨w.heap.size + 1, 2, none⟩) (Nat.le_succ _) _
  have ha' : al = 1 ∨ al = 2 ∨ al = 3 := by omega
  by_cases hz : al = 3 ∧ y = 0
  · obtain ⟨rfl, rfl⟩ := hz
    go_fit (oNew_zero HM.out.1)
    rintro r w3 ⟨rfl, hb3⟩
    have HG : Hid (Below w.heap.size w w3 ∧ w3.heap[w.heap.size + 1]? = some (.cells #[.int .i64 0, .bool false, .slice none 0 0] 40 (0, 0))) := ⟨bnext' hB2 hb3, (hb3.block _ HM.out.2.2).trans HM.out.2.1⟩
    clear hb3 hB2 HM hBn
    obtain ⟨z0, z1, z2, f0, f1, f2⟩ := box3 HG.out.2
    have HB : Hid (Below w.heap.size w w3) := HG.out.1
    clear HG
    go_wp2_with fail
    refine bodyPost_ret (v := .tuple #[.pointer none, .agg #[.int .i64 0, .bool false, .slice none 0 0], .bool false]) (by simp [results, Tryz.results25, go_sem, z0, z1, z2]) rfl ⟨.inl rfl, ?_⟩
    exact ((HB.out.setCell (p := ⟨w.heap.size + 1, 0, none⟩) (Nat.le_succ _) _).setCell (p := ⟨w.heap.size + 1, 1, none⟩) (Nat.le_succ _) _).setCell (p := ⟨w.heap.size + 1, 2, none⟩) (Nat.le_succ _) _
  have hy0 : al = 3 → y ≠ 0 := fun h1 h2 => hz ⟨h1, h2⟩
  go_fit (oNew_all HM.out.1 ha' hy0)
  rintro r w3 ⟨g, rfl, hRQ, hb3⟩
  have HG : Hid (Below w.heap.size w w3 ∧ w3.heap[w.heap.size + 1]? = some (.cells #[.int .i64 0, .bool false, .slice none 0 0] 40 (0, 0)) ∧ RuleQ w3 g al (qof al y) ∧ EV w3 1 y u ∧ Bx w3 gn (.bool u.s) (.slice u.p u.n u.c)) := ⟨bnext' hB2 hb3, (hb3.block _ HM.out.2.2).trans HM.out.2.1, hRQ, HM.out.1.below hb3, hBn.later hb3⟩
  clear hb3 hB2 HM hBn hRQ hz hy0 ha
  go_wp2_with fail
  go_fit (rOf_n 0 w3 (by decide) (by decide))
  rintro r w4 ⟨x4, rfl, hR4, hF4, hb4⟩
  have hs3 : w.heap.size + 1 < w3.heap.size := (Array.getElem?_eq_some_iff.1 HG.out.2.1).1
  have hal5 := bel_al (o := .cells #[.bool x4.s, .slice x4.p x4.n x4.c] 30) (Below.refl w4.heap.size w4)
  have hb5 := bnext' hb4 hal5
  have hx5 : (w4.alloc (.cells #[.bool x4.s, .slice x4.p x4.n x4.c] 30)).heap[w4.heap.size]? = some (.cells #[.bool x4.s, .slice x4.p x4.n x4.c] 30 (0, 0)) := heap_alloc_new w4 _
  have hw35 : w3.heap.size ≤ (w4.alloc (.cells #[.bool x4.s, .slice x4.p x4.n x4.c] 30)).heap.size := hb5.size
  have HH : Hid (Below w.heap.size w (w4.alloc (.cells #[.bool x4.s, .slice x4.p x4.n x4.c] 30)) ∧ (w4.alloc (.cells #[.bool x4.s, .slice x4.p x4.n x4.c] 30)).heap[w.heap.size + 1]? = some (.cells #[.int .i64 0, .bool false, .slice none 0 0] 40 (0, 0)) ∧ RuleQ (w4.alloc (.cells #[.bool x4.s, .slice x4.p x4.n x4.c] 30)) g al (qof al y) ∧ EV (w4.alloc (.cells #[.bool x4.s, .slice x4.p x4.n x4.c] 30)) 1 y u ∧ Bx (w4.alloc (.cells #[.bool x4.s, .slice x4.p x4.n x4.c] 30)) gn (.bool u.s) (.slice u.p u.n u.c) ∧ Bx (w4.alloc (.cells #[.bool x4.s, .slice x4.p x4.n x4.c] 30)) w4.heap.size (.bool x4.s) (.slice x4.p x4.n x4.c) ∧ RE (w4.alloc (.cells #[.bool x4.s, .slice x4.p x4.n x4.c] 30)) 2 0 x4 ∧ Go.Proofs.YtifebbacnlhggaaGreatDoor.From w3.heap.size x4.p) := ⟨bnext' HG.out.1 hb5, (hb5.block _ hs3).trans HG.out.2.1, HG.out.2.2.1.below hb5, HG.out.2.2.2.1.below hb5, HG.out.2.2.2.2.later hb5, Bx.new _ _ _ rfl, RE.below (show RE w4 2 0 x4 from ⟨hR4.1.tight (K := 1) (by decide), hR4.2⟩) hal5, hF4⟩
  have hgr : w.heap.size + 1 < w4.heap.size := Nat.lt_of_lt_of_le hs3 hb4.size
  clear hb5 hb4 hR4 hF4 HG
  by_cases h3 : al = 3
  · subst h3
    obtain ⟨m0, m1, -, -⟩ := HH.out.2.2.2.2.1
    go_wp2_with fail
    have hgx : w4.heap.size < (w4.alloc (.cells #[.bool x4.s, .slice x4.p x4.n x4.c] 30)).heap.size := by simp
    generalize w4.alloc (.cells #[.bool x4.s, .slice x4.p x4.n x4.c] 30) = W5 at *
    generalize w4.heap.size = gx' at *
    go_fit (rFrom_e HH.out.2.2.2.1)
    rintro r w6 ⟨x6, rfl, hR6, hF6, hb6⟩
    have hgr6 : w.heap.size + 1 < W5.heap.size := Nat.lt_trans hgr hgx
    obtain ⟨y0, y1, y2, y3⟩ := HH.out.2.2.2.2.2.1.later hb6
    have hR6' : RE ((w6.setCell ⟨gx', 0, none⟩ (.bool x6.s)).setCell ⟨gx', 1, none⟩ (.slice x6.p x6.n x6.c)) 2 y x6 := by
      refine RE.set2 hR6 fun h0 a ha => ?_
      have := hF6 a ha
      show a.block ≠ gx'
      omega
    have hB6 : Below w.heap.size w ((w6.setCell ⟨gx', 0, none⟩ (.bool x6.s)).setCell ⟨gx', 1, none⟩ (.slice x6.p x6.n x6.c)) := bset2 (bnext' HH.out.1 hb6) (by omega) _ _
    have hG6 : ((w6.setCell ⟨gx', 0, none⟩ (.bool x6.s)).setCell ⟨gx', 1, none⟩ (.slice x6.p x6.n x6.c)).heap[w.heap.size + 1]? = some (.cells #[.int .i64 0, .bool false, .slice none 0 0] 40 (0, 0)) := by
      rw [heap_setCell_other _ _ _ _ (by show _ ≠ gx'; omega), heap_setCell_other _ _ _ _ (by show _ ≠ gx'; omega)]
      exact (hb6.block _ hgr6).trans HH.out.2.1
    have hX6 := Bx_set (x := .bool x6.s) (y := .slice x6.p x6.n x6.c) (HH.out.2.2.2.2.2.1.later hb6)
    have H6 : Hid (RuleQ ((w6.setCell ⟨gx', 0, none⟩ (.bool x6.s)).setCell ⟨gx', 1, none⟩ (.slice x6.p x6.n x6.c)) g 3 (qof 3 y)) := RuleQ.putG (HH.out.2.2.1.below hb6) ((hb6.block _ hgx).trans hx5) (by decide) (fun o z => no_int ((hb6.block _ hgx).trans hx5) o .u32 z) (put2_other _ _ _ _)
    have H7 : Hid (From w3.heap.size x6.p) := fun a ha => Nat.le_trans (by omega) (hF6 a ha)
    have H8 : Hid (RE ((w6.setCell ⟨gx', 0, none⟩ (.bool x6.s)).setCell ⟨gx', 1, none⟩ (.slice x6.p x6.n x6.c)) 2 y x6 ∧ Below w.heap.size w ((w6.setCell ⟨gx', 0, none⟩ (.bool x6.s)).setCell ⟨gx', 1, none⟩ (.slice x6.p x6.n x6.c)) ∧ ((w6.setCell ⟨gx', 0, none⟩ (.bool x6.s)).setCell ⟨gx', 1, none⟩ (.slice x6.p x6.n x6.c)).heap[w.heap.size + 1]? = some (.cells #[.int .i64 0, .bool false, .slice none 0 0] 40 (0, 0)) ∧ Bx ((w6.setCell ⟨gx', 0, none⟩ (.bool x6.s)).setCell ⟨gx', 1, none⟩ (.slice x6.p x6.n x6.c)) gx' (.bool x6.s) (.slice x6.p x6.n x6.c)) := ⟨hR6', hB6, hG6, hX6⟩
    clear m0 m1 hR6 hR6' hB6 hG6 hX6 hF6 hx5
    go_upto_region 8 with fail
    generalize (w6.setCell ⟨gx', 0, none⟩ (.bool x6.s)).setCell ⟨gx', 1, none⟩ (.slice x6.p x6.n x6.c) = W8 at *
    obtain ⟨v0, v1, -, -⟩ := H8.out.2.2.2
    obtain ⟨z0, z1, z2, f0, f1, f2⟩ := box3 H8.out.2.2.1
    clear y0 y1 y2 y3
    go_still_tail 5, (by kernel_rfl)
    go_wp2_with fail
    refine bodyPost_ret (v := .tuple #[.pointer (some ⟨g, 0, none⟩), .agg #[.int .i64 3, .bool x6.s, .slice x6.p x6.n x6.c], .bool true]) (by simp [results, Tryz.results25, go_sem, z0, z1, z2]) rfl ⟨.inr ⟨g, qof 3 y, x6, rfl, ?_, ?_⟩, ?_⟩
    · exact H6.out.put H8.out.2.2.1 (put3_other _ _ _ _ _)
    · rw [qof, if_pos rfl]
      exact H8.out.1.same fun hn a ha => put3_other _ _ _ _ _ _ (by have := H7.out a ha; omega)
    · exact (((H8.out.2.1.setCell (p := ⟨w.heap.size + 1, 0, none⟩) (Nat.le_succ _) _).setCell (p := ⟨w.heap.size + 1, 1, none⟩) (Nat.le_succ _) _).setCell (p := ⟨w.heap.size + 1, 2, none⟩) (Nat.le_succ _) _).drew
  · have h4 : (al == 3) = false := by rw [beq_eq_false_iff_ne]; exact h3
    have hgx : w4.heap.size < (w4.alloc (.cells #[.bool x4.s, .slice x4.p x4.n x4.c] 30)).heap.size := by simp
    obtain ⟨y0, y1, -, -⟩ := HH.out.2.2.2.2.2.1
    obtain ⟨z0, z1, z2, f0, f1, f2⟩ := box3 HH.out.2.1
    go_wp2_with fail
    generalize w4.alloc (.cells #[.bool x4.s, .slice x4.p x4.n x4.c] 30) = W5 at *
    generalize w4.heap.size = gx' at *
    go_still_tail 5, (by kernel_rfl)
    go_wp2_with fail
    refine bodyPost_ret (v := .tuple #[.pointer (some ⟨g, 0, none⟩), .agg #[.int .i64 al, .bool x4.s, .slice x4.p x4.n x4.c], .bool true]) (by simp [results, Tryz.results25, go_sem, z0, z1, z2]) rfl ⟨.inr ⟨g, (qof al y), x4, rfl, ?_, ?_⟩, ?_⟩
    · exact HH.out.2.2.1.put HH.out.2.1 (put3_other _ _ _ _ _)
    · rw [qof, if_neg h3]
      exact HH.out.2.2.2.2.2.2.1.same fun hn a ha => put3_other _ _ _ _ _ _ (by have := HH.out.2.2.2.2.2.2.2 a ha; omega)
    · exact (((HH.out.1.setCell (p := ⟨w.heap.size + 1, 0, none⟩) (Nat.le_succ _) _).setCell (p := ⟨w.heap.size + 1, 1, none⟩) (Nat.le_succ _) _).setCell (p := ⟨w.heap.size + 1, 2, none⟩) (Nat.le_succ _) _).drew
structure MuS (w v : World) (g gq : Nat) (al y : Int) (zss : List (List Int)) (ha : Hdr) (yss : List (List Int)) (hd : Hdr) (xe : Ent) : Prop where
  a : Lies (EOp 5 4 2) 0 (fun _ => False) v zss ha
  d : Lies (EOp 5 4 2) 0 (fun _ => False) v yss hd
  r : RuleQ v g al y
  x : RE v 2 y xe
  c0 : v.cell? ⟨gq, 0, none⟩ = some (.int .i64 al)
  c1 : v.cell? ⟨gq, 1, none⟩ = some (.bool xe.s)
  c2 : v.cell? ⟨gq, 2, none⟩ = some (.slice xe.p xe.n xe.c)
  b : Below w.heap.size w v
theorem MuS.later {w v v' : World} {g gq : Nat} {al y : Int} {zss yss : List (List Int)} {ha hd : Hdr} {xe : Ent} (k : MuS w v g gq al y zss ha yss hd xe) (hb : Below v.heap.size v v') : MuS w v' g gq al y zss ha yss hd xe :=
  ⟨k.a.below (lOp _ _ _) hb, k.d.below (lOp _ _ _) hb, k.r.below hb, k.x.below hb, cell_later hb k.c0, cell_later hb k.c1, cell_later hb k.c2, bnext' k.b hb⟩
theorem from8L {v : World} {zss : List (List Int)} {ha : Hdr} (k : Lies (EOp 5 4 2) 0 (fun _ => False) v zss ha) : Calls Tryz.prog 26 #[.slice ha.p ha.n ha.c] v fun e w' => ∃ h : Hdr, e = .returned (.slice h.p h.n h.c) ∧ Lies (EOr 5 4 4) 0 (fun _ => False) w' (oz zss) h ∧ Below v.heap.size v w' := by
  refine (from8_ax (X := fun _ => False) (lo := 0) k (Below.refl _ _) (fun c hc => hc.elim) (Nat.zero_le _) (by decide) (by decide) (by decide)).mono ?_
  rintro e w' ⟨_, rfl, ⟨h, rfl, h1⟩, hb⟩
  exact ⟨h, rfl, h1, hb⟩
section
variable {w v : World} {g gq : Nat} {al y : Int} {zss yss : List (List Int)} {ha hd hu hg : Hdr} {xe : Ent}
theorem MuS.mul (k : MuS w v g gq al y zss ha yss hd xe) : Calls Tryz.prog 27 #[.pointer (some ⟨g, 0, none⟩), .slice ha.p ha.n ha.c, .slice hd.p hd.n hd.c] v (MlP al y zss yss v) := by
  obtain ⟨B, T, h1, h2, -, -⟩ := k.a
  obtain ⟨B', T', h3, h4, -, -⟩ := k.d
  exact oMul_any k.r h1 h2 h3 h4
theorem MuS.rest (k : MuS w v g gq al y zss ha yss hd xe) (ku : Lies (EOr 5 4 4) 0 (fun _ => False) v (oz zss) hu) (kg : Lies (EOr 5 4 4) 0 (fun _ => False) v (oz yss) hg) : Calls Tryz.prog 28 #[.slice hu.p hu.n hu.c, .slice hg.p hg.n hg.c, .agg #[.bool xe.s, .slice xe.p xe.n xe.c]] v fun e w' => e = .returned (.int .i64 (vMul (oz zss) (oz yss) y)) ∧ Below v.heap.size v w' :=
  rmul_at ku kg ⟨0, fun _ => False, re_wide k.x (by decide), fun _ _ _ => ⟨Nat.zero_le _, fun h => h⟩⟩ (szb_at k.a (by decide) (by decide) (by decide)) (szb_at k.d (by decide) (by decide) (by decide)) (Below.refl _ _) (by decide) (by decide) (by decide)
theorem MuS.rmul (k : MuS w v g gq al y zss ha yss hd xe) (ku : Lies (EOr 5 4 4) 0 (fun _ => False) v (oz zss) hu) (kg : Lies (EOr 5 4 4) 0 (fun _ => False) v (oz yss) hg) : Calls Tryz.prog 30 #[.agg #[.int .i64 al, .bool xe.s, .slice xe.p xe.n xe.c], .slice hu.p hu.n hu.c, .slice hg.p hg.n hg.c] v (RmP al y zss yss (olen zss) v) := by
  obtain ⟨B, T, h1, h2, -, -⟩ := ku
  obtain ⟨B', T', k1, k2, -, -⟩ := kg
  have h3 := rMul_all k.r.a k.x k.r.q k.r.bd h1 h2 k1 k2 (nrm_oz yss)
  obtain ⟨hs, h4⟩ := h1
  have h6 : hu.n = olen zss := by rw [← h4.tl, length_oz]
  refine h3.mono ?_
  rintro r w' ⟨q, m, c, B2, T2, rfl, h7, h8, h9⟩
  rw [Pzs_oz, h6] at h7
  exact ⟨q, m, c, B2, T2, rfl, h7, h8, h9⟩
end
set_option maxRecDepth 100000 in
theorem OreMul_walk {w : World} {al : Int} {e : Ent} {p : Option Addr} {n nc : Nat} {hs0 : List Hdr} {q : Option Addr} {m mc : Nat} {rs0 : List Hdr} (he : RawE w e) (h : RZ w p n nc hs0) (k : RZ w q m mc rs0) (hal : -9223372036854775808 ≤ al ∧ al ≤ 9223372036854775807) :
    Calls Tryz.prog 4 #[.int .i64 al, .agg #[.bool e.s, .slice e.p e.n e.c], .slice p n nc, .slice q m mc] w fun r w' => r = .returned (.bool true) ∧ Below w.heap.size w w' := by
  have HX : Hid (RawE w e ∧ RZ w p n nc hs0 ∧ RZ w q m mc rs0) := ⟨he, h, k⟩
  clear h he k
  have hW0 : Below w.heap.size w (w.alloc (.cells #[.bool e.s, .slice e.p e.n e.c] 24)) := (Below.refl _ _).alloc (Nat.le_refl _) _
  have hBx : Bx (w.alloc (.cells #[.bool e.s, .slice e.p e.n e.c] 24)) w.heap.size (.bool e.s) (.slice e.p e.n e.c) := Bx.new _ _ _ rfl
  go_enter Tryz.func4, Tryz.ntmps4
  go_wp2_with fail
  go_fit (begun8_any _)
  rintro e1 W ⟨rfl, hb1⟩
  have hW := bnext' hW0 hb1
  have HBx : Hid (Bx W w.heap.size (.bool e.s) (.slice e.p e.n e.c)) := hBx.later hb1
  clear hBx hb1 hW0
  go_wp2_with fail
  go_fit (few8_any (HX.out.2.1.below hW))
  rintro r w1 ⟨ha, zss, rfl, -, hA1, hb1⟩
  have hB1 := bnext' hW hb1
  have HA1 : Hid (Lies (EOp 5 4 2) 0 (fun _ => False) w1 zss ha) := ⟨_, _, hA1, Nat.le_refl _, Nat.zero_le _, fun _ h => h.elim⟩
  clear hA1
  dsimp only [Hdr.val]
  go_wp2_with fail
  go_fit (few8_any (HX.out.2.2.below hB1))
  rintro r w2 ⟨hd, yss, rfl, -, hF2, hb2⟩
  have hB2 := bnext' hB1 hb2
  have HS : Hid (Lies (EOp 5 4 2) 0 (fun _ => False) w2 zss ha ∧ Lies (EOp 5 4 2) 0 (fun _ => False) w2 yss hd) := ⟨HA1.out.below (lOp _ _ _) hb2, _, _, hF2, Nat.le_refl _, Nat.zero_le _, fun _ h => h.elim⟩
  have hc := HBx.out.later (bnext' hb1 hb2)
  have x0 : w2.cell? ⟨w.heap.size, 0, none⟩ = some (.bool e.s) := hc.c0
  have x1 : w2.cell? ⟨w.heap.size, 1, none⟩ = some (.slice e.p e.n e.c) := hc.c1
  have hru := lRule_any (HX.out.1.below hB2) hal
  clear hF2 hb1 hb2 HA1 hW hB1 HBx hc
  dsimp only [Hdr.val]
  go_wp2_with fail
  go_fit hru
  rintro r w3 ⟨hR, hb3⟩
  have hB3 := bnext' hB2 hb3
  clear hru x0 x1
  rcases hR with rfl | ⟨g, y, xe, rfl, hRQ, hRE⟩
  · have HB : Hid (Below w.heap.size w w3) := hB3
    clear HS hB2 hb3 hB3
    go_wp2_with fail
    go_ret
    exact ⟨rfl, bel_al HB.out⟩
  have hal4 := bel_al (o := .cells #[.int .i64 al, .bool xe.s, .slice xe.p xe.n xe.c] 40) (Below.refl w3.heap.size w3)
  have hb4 := bnext' hb3 hal4
  have NS : Hid (MuS w (w3.alloc (.cells #[.int .i64 al, .bool xe.s, .slice xe.p xe.n xe.c] 40)) g w3.heap.size al y zss ha yss hd xe) := ⟨HS.out.1.below (lOp _ _ _) hb4, HS.out.2.below (lOp _ _ _) hb4, hRQ.below hal4, hRE.below hal4, by simp [go_sem], by simp [go_sem], by simp [go_sem], bnext' hB2 hb4⟩
  clear HS hb3 hRQ hRE hB2 HX hal4 hb4 hB3
  go_wp2_with fail
  generalize w3.alloc (.cells #[.int .i64 al, .bool xe.s, .slice xe.p xe.n xe.c] 40) = W4 at *
  generalize w3.heap.size = gq at *
  go_fit (from8L NS.out.a)
  rintro r w5 ⟨hu, rfl, hU, hb5⟩
  have NS5 : Hid (MuS w w5 g gq al y zss ha yss hd xe ∧ Lies (EOr 5 4 4) 0 (fun _ => False) w5 (oz zss) hu) := ⟨NS.out.later hb5, hU⟩
  clear NS hU hb5
  go_wp2_with fail
  go_fit (from8L NS5.out.1.d)
  rintro r w6 ⟨hg, rfl, hG, hb6⟩
  have NS6 : Hid (MuS w w6 g gq al y zss ha yss hd xe ∧ Lies (EOr 5 4 4) 0 (fun _ => False) w6 (oz zss) hu ∧ Lies (EOr 5 4 4) 0 (fun _ => False) w6 (oz yss) hg) := ⟨NS5.out.1.later hb6, NS5.out.2.below (lOr _ _ _) hb6, hG⟩
  clear NS5 hG hb6
  go_wp2_with fail
  go_fit NS6.out.1.mul
  rintro r w7 ⟨hbig, hok, hb7⟩
  have NS7 : Hid (MuS w w7 g gq al y zss ha yss hd xe ∧ Lies (EOr 5 4 4) 0 (fun _ => False) w7 (oz zss) hu ∧ Lies (EOr 5 4 4) 0 (fun _ => False) w7 (oz yss) hg) := ⟨NS6.out.1.later hb7, NS6.out.2.1.below (lOr _ _ _) hb7, NS6.out.2.2.below (lOr _ _ _) hb7⟩
  clear NS6 hb7
  have hes := NS7.out.1.rest NS7.out.2.1 NS7.out.2.2
  have k1 := NS7.out.1.c1
  have k2 := NS7.out.1.c2
  by_cases hE : 1048576 < vMul (oz zss) (oz yss) y
  · have hr := hbig hE
    subst hr
    clear hbig hok
    generalize vMul (oz zss) (oz yss) y = ES at *
    go_wp2_with fail
    go_fit hes
    rintro r w8 ⟨rfl, hb8⟩
    have HB : Hid (Below w.heap.size w w8) := bnext' NS7.out.1.b hb8
    clear hes k1 k2 NS7 hb8
    go_wp2_with fail
    go_ret
    exact ⟨rfl, HB.out⟩
  · obtain ⟨p8, m8, f8, rfl, hPN⟩ := hok hE
    clear hbig hok
    have hE' : vMul (oz zss) (oz yss) y ≤ 1048576 := by omega
    generalize vMul (oz zss) (oz yss) y = ES at *
    go_wp2_with fail
    go_fit hes
    rintro r w8 ⟨rfl, hb8⟩
    have NS8 : Hid (MuS w w8 g gq al y zss ha yss hd xe ∧ Lies (EOr 5 4 4) 0 (fun _ => False) w8 (oz zss) hu ∧ Lies (EOr 5 4 4) 0 (fun _ => False) w8 (oz yss) hg ∧ NO w6.heap.size w8 300 8 (Pzs al y zss yss (olen zss)) p8 m8 f8) := ⟨NS7.out.1.later hb8, NS7.out.2.1.below (lOr _ _ _) hb8, NS7.out.2.2.below (lOr _ _ _) hb8, hPN.below hb8⟩
    clear hes k1 k2 NS7 hb8 hPN
    have k0 := NS8.out.1.c0
    have k1 := NS8.out.1.c1
    have k2 := NS8.out.1.c2
    have hra := NS8.out.1.rmul NS8.out.2.1 NS8.out.2.2.1
    go_wp2_with fail
    go_fit hra
    rintro r w9 ⟨p9, n9, c9, B9, T9, rfl, hR9, hT9, hb9⟩
    have his := rIs8_any (NS8.out.2.2.2.below hb9) hR9 hT9 (by decide) (by decide) (by decide) (by decide)
    have hB9 := bnext' NS8.out.1.b hb9
    clear hra k0 k1 k2 hR9 hT9 hb9
    go_wp2_with fail
    go_fit his
    rintro r w10 ⟨rfl, hb10⟩
    have HB : Hid (Below w.heap.size w w10) := bnext' hB9 hb10
    clear his hb10 hB9 NS8
    go_wp2
    go_ret
    exact ⟨rfl, HB.out⟩
open Go.ChangeShapes Go.WideShapes Go.ChangeAt Go.RowKit Go.Joins
theorem cellsInt : Tryz.prog.cellsOf 24 = 2 := by kernel_rfl
theorem cellsLimb : Tryz.prog.cellsOf 81 = 1 := by kernel_rfl
def IntArg (W : World) (v : Value) : Prop := ∃ (s : Bool) (pa : Option Addr) (n nc : Nat) (xs : List Int), v = .agg #[.bool s, .slice pa n nc] ∧ xs.length = n ∧ n ≤ nc ∧ nc ≤ maxLen ∧ Rd W pa .u32 xs ∧ U32 xs ∧ (pa = none → nc = 0)
set_option maxRecDepth 100000 in
theorem openInt {H : Type} {enc : TypeId × Value → H} {W : World} {base : Nat} {v0 : Value} {d0 : DataW H} {p0 : List MemPlace} (hv : Value.okWide Tryz.prog W .any base 24 v0)
    (h0 : DataW.Trod enc Tryz.prog W 0 (fun _ => true) true 24 v0 d0 p0) : IntArg W v0 := by
  obtain ⟨c0, c1, y0, y1, k, rfl, -, -, hy0, hy1⟩ := open_agg2 Tryz.underlying24 (by kernel_rfl) cellsInt hv h0
  obtain ⟨s, e0, -⟩ := DataW.trod_bool Tryz.underlying4 hy0
  simp only [List.cons.injEq, and_true] at e0
  subst e0
  rcases open_ints Tryz.underlying22 Tryz.underlying81 cellsLimb hy1 with ⟨hcs, -⟩ | ⟨a, len, cap, zs, hcs, -, hl, hm, hz, -, hcell, hwz⟩
  · simp only [List.cons.injEq, and_true] at hcs
    subst hcs
    exact ⟨s, none, 0, 0, [], rfl, rfl, Nat.le_refl _, Nat.zero_le _, Rd.nil, u32_nil, fun _ => rfl⟩
  · simp only [List.cons.injEq, and_true] at hcs
    subst hcs
    simp only [if_true] at hz
    refine ⟨s, some a, len, cap, zs.take len, rfl, by simp; omega, hl, hm, ?_, ?_, fun h => by cases h⟩
    · intro hp
      have hp' : 0 < zs.length := by simp at hp; omega
      obtain ⟨b, off, rfl, hc⟩ := ints_at hcell hp'
      refine ⟨b, off, rfl, fun j hj => ?_⟩
      have hj' : j < len ∧ j < zs.length := by simp at hj; omega
      rw [gx_take _ _ _ hj'.1]
      exact hc j hj'.2
    · refine u32_take (fun j => ?_) len
      by_cases hj : j < zs.length
      · have := hwz zs[j] (List.getElem_mem hj)
        rw [gx_mem zs j hj]
        have h4 : 0 ≤ zs[j] ∧ zs[j] ≤ 4294967295 := by
          simpa [Lit.wf, IntKind.min, IntKind.max, IntKind.signed, IntKind.bits] using this
        exact ⟨h4.1, by omega⟩
      · rw [gx_past zs _ (Nat.le_refl _) j (by omega)]; decide
set_option maxRecDepth 100000 in
theorem openOp {H : Type} {enc : TypeId × Value → H} {W : World} {v0 : Value} {d0 : DataW H} {p0 : List MemPlace} {base : Nat} (hv : Value.okWide Tryz.prog W .any base 52 v0)
    (h0 : DataW.Trod enc Tryz.prog W 0 (fun _ => true) true 52 v0 d0 p0) : ∃ (p : Option Addr) (n nc : Nat) (hs : List Hdr), v0 = .slice p n nc ∧ RZ W p n nc hs := by
  obtain ⟨a0, len, cap, rfl⟩ := okWide_slice Tryz.underlying52 hv
  obtain ⟨fuel, hf⟩ := h0
  obtain ⟨-, h1, h2, h3, hs, h4, h5, h6⟩ := sliceT Tryz.underlying52 cellsP hf (E := fun h => ∃ es, PZ W h.p h.n h.c es) (fun fuel u y hy => polyT hy)
  exact ⟨a0, len, cap, hs, rfl, h4, h1, h2, h3, h5, h6⟩
end Go.Proofs.YtifebbacnlhggaaGreatDoor
