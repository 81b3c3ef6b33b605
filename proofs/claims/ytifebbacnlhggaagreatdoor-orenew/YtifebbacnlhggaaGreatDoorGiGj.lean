/-
  What holds between two rounds of ore.dilate's range.
-/
import Derived.Test.YtifebbacnlhggaaGreatDoorFvOiDyEo
import Derived.Test.YtifebbacnlhggaaGreatDoorFy
import Derived.Test.YtifebbacnlhggaaGreatDoorFpCdDeGa
import Derived.Test.YtifebbacnlhggaaGreatDoorByDqUxUtUvUwUyUzUrUsHaHbHcWvUhHeVv
import Derived.Test.YtifebbacnlhggaaGreatDoorVkJoNcOn
import Derived.Test.YtifebbacnlhggaaGreatDoorRtDhVeRsVfVcAjDrBmBqDuAkAlApEp
namespace Go.Proofs.YtifebbacnlhggaaGreatDoor
open Go.RowKit Go.Shelf
set_option linter.unusedVariables false
set_option linter.unusedSimpArgs false

theorem block_kept {W W' : World} {row : Option Nat} {b : Nat} {cs : Array Value} {t : TypeId} {x : Nat × Nat} (h : W.heap[b]? = some (.cells cs t x)) (hg : W.grownBy W' row) (hr : ∀ r, row = some r → ∃ o : Obj, W.heap[r]? = some o ∧ o.isCells = false) : W'.heap[b]? = some (.cells cs t x) := by
  refine (hg.block b (Array.getElem?_eq_some_iff.1 h).1 fun e => ?_).trans h
  obtain ⟨o, ho, hc⟩ := hr b (by first | exact e | exact e.symm)
  rw [h] at ho
  cases ho
  cases hc
theorem NV.same {B : Nat} {V V' : World} {K : Nat} {z : Int} {e : Ent} (h : NV B V K z e) (hs : V.heap.size ≤ V'.heap.size) (hb : 0 < e.n → ∀ a, e.p = some a → V'.heap[a.block]? = V.heap[a.block]?) : NV B V' K z e := by
  obtain ⟨xs, k, h2⟩ := h
  rcases Nat.eq_zero_or_pos e.n with h0 | h0
  · have hp := k.pn h0
    refine ⟨xs, ⟨k.len, fun hx => ?_, k.u, k.nrm, k.sg, k.pn, k.v, k.fr, fun a ha => ?_⟩, h2⟩
    · rw [k.len] at hx
      omega
    · rw [hp] at ha
      cases ha
  · refine ⟨xs, ⟨k.len, k.rd.same fun a ha _ => hb h0 a ha, k.u, k.nrm, k.sg, k.pn, k.v, k.fr, fun a ha => ⟨Nat.lt_of_lt_of_le (k.fz a ha).1 hs, fun i => ?_⟩⟩, h2⟩
    have h4 := (k.fz a ha).2 i
    have h3 := hb h0 a ha
    simp only [World.frozen?] at h4 ⊢
    rw [h3]
    exact h4
/-- A row of limbs does not lie in a block that holds none. -/
theorem NV.offc {B : Nat} {V : World} {K : Nat} {z : Int} {e : Ent} (h : NV B V K z e) {g : Nat} (hc : ∀ (o : Nat) (y : Int), V.cell? ⟨g, o, none⟩ ≠ some (.int .u32 y)) : 0 < e.n → ∀ a, e.p = some a → a.block ≠ g := fun hn a ha hg => by
  obtain ⟨xs, k, h2⟩ := h
  have hx : 0 < xs.length := by rw [k.len]; exact hn
  obtain ⟨b, o, hp, hcl⟩ := k.rd hx
  rw [hp] at ha
  cases ha
  simp only at hg
  subst hg
  exact hc _ _ (hcl 0 hx)
theorem row2_no {V : World} {g : Nat} {t : TypeId} {es : List Ent} (h : Row2 V g t es) : ∀ (o : Nat) (y : Int), V.cell? ⟨g, o, none⟩ ≠ some (.int .u32 y) := fun o y hc => by
  have h1 := cell_of_row V g o _ t (0, 0) h
  rw [h1] at hc
  have hlt : o < (ca2 es).size := (Array.getElem?_eq_some_iff.1 hc).1
  rw [size_ca2] at hlt
  obtain ⟨j, hj⟩ : ∃ j, o = j * 2 ∨ o = j * 2 + 1 := ⟨o / 2, by omega⟩
  have hj' : j < es.length := by omega
  obtain ⟨f0, f1⟩ := flat_get es j hj'
  simp only [ca2, List.getElem?_toArray] at hc
  rcases hj with hj | hj
  · rw [hj, f0] at hc
    cases hc
  · rw [hj, f1] at hc
    cases hc
theorem var2_no {V : World} {g : Nat} {s : Bool} {p : Option Addr} {n c : Nat} {t : TypeId} (h : V.heap[g]? = some (.cells #[.bool s, .slice p n c] t)) : ∀ (o : Nat) (y : Int), V.cell? ⟨g, o, none⟩ ≠ some (.int .u32 y) := fun o y hc => by
  match o, hc with
  | 0, hc => simp [World.cell?, h, go_sem] at hc
  | 1, hc => simp [World.cell?, h, go_sem] at hc
  | o + 2, hc => simp [World.cell?, h, go_sem] at hc
theorem var1_no {V : World} {g : Nat} {i : Int} {t : TypeId} (h : V.heap[g]? = some (.cells #[.int .i64 i] t)) : ∀ (o : Nat) (y : Int), V.cell? ⟨g, o, none⟩ ≠ some (.int .u32 y) := fun o y hc => by
  match o, hc with
  | 0, hc => simp [World.cell?, h, go_sem] at hc
  | o + 1, hc => simp [World.cell?, h, go_sem] at hc
/-- What lies in dilate's variables: the entries below k are there, the power stands at i. -/
structure DiV (w : World) (gq gr go gp ga : Nat) (e : Ent) (q : Int) (L K m k i : Nat) (xs : List Int) (up : Ent) (es : List Ent) (V : World) : Prop where
  bw : Below w.heap.size w V
  hq : V.heap[gq]? = some (.cells #[.bool e.s, .slice e.p e.n e.c] 24)
  ho : V.heap[go]? = some (.cells #[.slice (some ⟨gr, 0, none⟩) m m] 26)
  hp : V.heap[gp]? = some (.cells #[.bool up.s, .slice up.p up.n up.c] 24)
  ha : V.heap[ga]? = some (.cells #[.int .i64 i] 3)
  hr : Row2 V gr 24 es
  el : es.length = m
  pv : NV w.heap.size V (L * i + 1) (q ^ i) up
  ev : ∀ j, j < m → NV w.heap.size V (K + L * 17 + 1) (if j < k then dl q xs j else 0) (ge es j)
theorem DiV.held {w : World} {gq gr go gp ga : Nat} {e : Ent} {q : Int} {L K m k i : Nat} {xs : List Int} {up : Ent} {es : List Ent} {V V' : World} {row : Option Nat} (h : DiV w gq gr go gp ga e q L K m k i xs up es V) (hb : Below w.heap.size w V') (hg : V.grownBy V' row) (hr : ∀ r, row = some r → ∃ o : Obj, V.heap[r]? = some o ∧ o.isCells = false) : DiV w gq gr go gp ga e q L K m k i xs up es V' :=
  ⟨hb, block_kept h.hq hg hr, block_kept h.ho hg hr, block_kept h.hp hg hr, block_kept h.ha hg hr, block_kept h.hr hg hr, h.el, h.pv.held hg hr, fun j hj => (h.ev j hj).held hg hr⟩
theorem DiV.later {w : World} {gq gr go gp ga : Nat} {e : Ent} {q : Int} {L K m k i : Nat} {xs : List Int} {up : Ent} {es : List Ent} {V V' : World} (h : DiV w gq gr go gp ga e q L K m k i xs up es V) (hb : Below V.heap.size V V') : DiV w gq gr go gp ga e q L K m k i xs up es V' :=
  h.held (h.bw.trans (hb.mono h.bw.size)) (grownBy_below hb none) (fun _ e => by cases e)
end Go.Proofs.YtifebbacnlhggaaGreatDoor
/-
  What a round of ore.dilate's range moves.
-/
namespace Go.Proofs.YtifebbacnlhggaaGreatDoor
open Go.RowKit Go.Shelf
set_option linter.unusedVariables false
set_option linter.unusedSimpArgs false

section
variable {w : World} {gq gr go gp ga : Nat} {e : Ent} {q : Int} {L K m k i j : Nat} {xs : List Int} {up : Ent} {es : List Ent} {V : World}
theorem DiV.move (h : DiV w gq gr go gp ga e q L K m k i xs up es V) (hd : w.heap.size ≤ gq ∧ gq < gr ∧ gr < go ∧ go < gp ∧ gp < ga) {u : Ent} (hu : NV w.heap.size V (L * j + 1) (q ^ j) u) :
    DiV w gq gr go gp ga e q L K m k j xs u es (((V.setCell ⟨gp, 0, none⟩ (.bool u.s)).setCell ⟨gp, 1, none⟩ (.slice u.p u.n u.c)).setCell ⟨ga, 0, none⟩ (.int .i64 j)) := by
  obtain ⟨d0, d1, d2, d3, d4⟩ := hd
  have o2 : ∀ b, b ≠ gp → ((V.setCell ⟨gp, 0, none⟩ (.bool u.s)).setCell ⟨gp, 1, none⟩ (.slice u.p u.n u.c)).heap[b]? = V.heap[b]? := fun b hb => (heap_setCell_other _ ⟨gp, 1, none⟩ b _ hb).trans (heap_setCell_other _ ⟨gp, 0, none⟩ b _ hb)
  have o3 : ∀ b, b ≠ gp → b ≠ ga → (((V.setCell ⟨gp, 0, none⟩ (.bool u.s)).setCell ⟨gp, 1, none⟩ (.slice u.p u.n u.c)).setCell ⟨ga, 0, none⟩ (.int .i64 j)).heap[b]? = V.heap[b]? := fun b hb hb' => (heap_setCell_other _ ⟨ga, 0, none⟩ b _ hb').trans (o2 b hb)
  have nvs : ∀ {M : Nat} {z : Int} {f : Ent}, NV w.heap.size V M z f → NV w.heap.size (((V.setCell ⟨gp, 0, none⟩ (.bool u.s)).setCell ⟨gp, 1, none⟩ (.slice u.p u.n u.c)).setCell ⟨ga, 0, none⟩ (.int .i64 j)) M z f := fun {M z f} hf =>
    hf.same (by simp [World.setCell]) fun hn a ha => o3 _ (hf.offc (var2_no h.hp) hn a ha) (hf.offc (var1_no h.ha) hn a ha)
  refine ⟨?_, (o3 _ (by omega) (by omega)).trans h.hq, (o3 _ (by omega) (by omega)).trans h.ho, ?_, ?_, (o3 _ (by omega) (by omega)).trans h.hr, h.el, nvs hu, fun j hj => nvs (h.ev j hj)⟩
  · exact ((h.bw.setCell (p := ⟨gp, 0, none⟩) (by show _ ≤ gp; omega) _).setCell (p := ⟨gp, 1, none⟩) (by show _ ≤ gp; omega) _).setCell (p := ⟨ga, 0, none⟩) (by show _ ≤ ga; omega) _
  · refine (heap_setCell_other _ ⟨ga, 0, none⟩ gp _ (by show gp ≠ ga; omega)).trans ?_
    have h1 := heap_setCell_same V gp 0 _ 24 (.bool u.s) h.hp
    have h2 := heap_setCell_same _ gp 1 _ 24 (.slice u.p u.n u.c) h1
    rw [h2]
    rfl
  · have h1 := heap_setCell_same ((V.setCell ⟨gp, 0, none⟩ (.bool u.s)).setCell ⟨gp, 1, none⟩ (.slice u.p u.n u.c)) ga 0 _ 3 (.int .i64 j) ((o2 ga (by omega)).trans h.ha)
    rw [h1]
    rfl
theorem DiV.put (h : DiV w gq gr go gp ga e q L K m k j xs up es V) (hd : w.heap.size ≤ gq ∧ gq < gr ∧ gr < go ∧ go < gp ∧ gp < ga) (hj : j < m) (hk : k ≤ j) (hz : ∀ t, k ≤ t → t < j → dl q xs t = 0) {u : Ent} (hu : NV w.heap.size V (K + L * 17 + 1) (dl q xs j) u) :
    DiV w gq gr go gp ga e q L K m (j + 1) j xs up (es.set j u) ((V.setCell ⟨gr, j * 2, none⟩ (.bool u.s)).setCell ⟨gr, j * 2 + 1, none⟩ (.slice u.p u.n u.c)) := by
  obtain ⟨d0, d1, d2, d3, d4⟩ := hd
  have o2 : ∀ b, b ≠ gr → ((V.setCell ⟨gr, j * 2, none⟩ (.bool u.s)).setCell ⟨gr, j * 2 + 1, none⟩ (.slice u.p u.n u.c)).heap[b]? = V.heap[b]? := fun b hb => (heap_setCell_other _ ⟨gr, j * 2 + 1, none⟩ b _ hb).trans (heap_setCell_other _ ⟨gr, j * 2, none⟩ b _ hb)
  have nvs : ∀ {M : Nat} {z : Int} {f : Ent}, NV w.heap.size V M z f → NV w.heap.size ((V.setCell ⟨gr, j * 2, none⟩ (.bool u.s)).setCell ⟨gr, j * 2 + 1, none⟩ (.slice u.p u.n u.c)) M z f := fun {M z f} hf =>
    hf.same (by simp [World.setCell]) fun hn a ha => o2 _ (hf.offc (row2_no h.hr) hn a ha)
  refine ⟨?_, (o2 _ (by omega)).trans h.hq, (o2 _ (by omega)).trans h.ho, (o2 _ (by omega)).trans h.hp, (o2 _ (by omega)).trans h.ha, h.hr.set j u (by rw [h.el]; exact hj), by simp [h.el], nvs h.pv, fun t ht => ?_⟩
  · exact (h.bw.setCell (p := ⟨gr, j * 2, none⟩) (by show _ ≤ gr; omega) _).setCell (p := ⟨gr, j * 2 + 1, none⟩) (by show _ ≤ gr; omega) _
  · by_cases hjt : t = j
    · subst hjt
      rw [if_pos (by omega), ge_set_same _ _ _ (by rw [h.el]; exact hj)]
      exact nvs hu
    · rw [ge_set_other _ _ _ _ hjt]
      have h1 := nvs (h.ev t ht)
      rcases Nat.lt_or_ge t k with hlt | hge
      · rw [if_pos hlt] at h1
        rw [if_pos (by omega)]
        exact h1
      · rw [if_neg (by omega)] at h1
        rcases Nat.lt_or_ge t j with hlt2 | hge2
        · rw [if_pos (by omega), hz t hge hlt2]
          exact h1
        · rw [if_neg (by omega)]
          exact h1
end
/-- What holds between two rounds. -/
def DI (w : World) (gq gr go gp ga : Nat) (e : Ent) (q : Int) (L K m N0 : Nat) (xs : List Int) (pre : List (Nat × Ent)) (V : World) : Prop :=
  ∃ k i up es, DiV w gq gr go gp ga e q L K m k i xs up es V ∧ N0 ≤ V.heap.size ∧ Behind xs k ∧ pre.map (·.1) = idx xs k ∧ i = k - 1 ∧ k ≤ m
theorem DI.own {w : World} {gq gr go gp ga : Nat} {e : Ent} {q : Int} {L K m N0 : Nat} {xs : List Int} {B : Nat} (hB : w.heap.size ≤ B) : OwnFrom B (DI w gq gr go gp ga e q L K m N0 xs) := fun pre V V' row h hg hr => by
  obtain ⟨k, i, up, es, hd, hs, h2⟩ := h
  exact ⟨k, i, up, es, hd.held (ownFrom_below (Nat.le_refl _) hB () V V' row hd.bw hg hr) hg (fun r e => (hr r e).2), Nat.le_trans hs hg.size, h2⟩
theorem DI.later {w : World} {gq gr go gp ga : Nat} {e : Ent} {q : Int} {L K m N0 : Nat} {xs : List Int} {pre : List (Nat × Ent)} {V V' : World} (h : DI w gq gr go gp ga e q L K m N0 xs pre V) (hb : Below V.heap.size V V') : DI w gq gr go gp ga e q L K m N0 xs pre V' := by
  obtain ⟨k, i, up, es, hd, hs, h2⟩ := h
  exact ⟨k, i, up, es, hd.later hb, Nat.le_trans hs hb.size, h2⟩
/-- What the body of a round is told. -/
def DA (w : World) (gq gr go gp ga : Nat) (e : Ent) (q : Int) (L K m N0 : Nat) (xs : List Int) (B0 : Nat) (pre : List (Nat × Ent)) (x : Nat × Ent) (b : Nat) (V : World) : Prop :=
  DI w gq gr go gp ga e q L K m N0 xs pre V ∧ Told xs m K B0 pre x V ∧ V.heap[b]? = some (.cells #[.bool x.2.s, .slice x.2.p x.2.n x.2.c] 24) ∧ B0 ≤ b
theorem DA.own {w : World} {gq gr go gp ga : Nat} {e : Ent} {q : Int} {L K m N0 : Nat} {xs : List Int} {B B0 : Nat} (hB : w.heap.size ≤ B) (pre : List (Nat × Ent)) (x : Nat × Ent) (b : Nat) : OwnFrom B fun (_ : Unit) V => DA w gq gr go gp ga e q L K m N0 xs B0 pre x b V := fun _ V V' row h hg hr =>
  ⟨DI.own hB pre V V' row h.1 hg hr, told_own B xs m K B0 pre x () V V' row h.2.1 hg hr, block_kept h.2.2.1 hg fun r e => (hr r e).2, h.2.2.2⟩
theorem keeps_below' {V V' : World} (hb : Below V.heap.size V V') : KeepsOthers V V' := KeepsOthers.of_grownBy (row := none) (grownBy_below hb none) (fun _ _ e => by cases e)
end Go.Proofs.YtifebbacnlhggaaGreatDoor
