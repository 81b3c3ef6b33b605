/-
  Rows of slices that grow by append, whatever the slices hold.
-/
import Derived.Test.YtlhgpejapmpcmaaGreatDoorOfVg
import Derived.Deep.Slices
import Derived.Test.YtlhgpejapmpcmaaGreatDoorMmWa
namespace Go.Proofs.YtlhgpejapmpcmaaGreatDoor
open Go.RowKit
set_option linter.unusedVariables false
set_option linter.unusedSimpArgs false

/-- A slice's three words. -/
structure Hdr where
  p : Option Addr
  n : Nat
  c : Nat
instance : Inhabited Hdr := ⟨⟨none, 0, 0⟩⟩
def Hdr.val (h : Hdr) : Value := .slice h.p h.n h.c
def hdrOf : Value → Hdr
  | .slice p n c => ⟨p, n, c⟩
  | _ => default
def gh (hs : List Hdr) (j : Nat) : Hdr := hs.getD j default
/-- A row of slices, cell by cell. -/
def HL (w : World) (p : Option Addr) (hs : List Hdr) : Prop := 0 < hs.length → ∃ b o, p = some ⟨b, o, none⟩ ∧ ∀ j, j < hs.length → w.cell? ⟨b, o + j, none⟩ = some (gh hs j).val
theorem HL.below {w w' : World} {p : Option Addr} {hs : List Hdr} (h : HL w p hs) (hb : Below w.heap.size w w') : HL w' p hs := fun hp => by
  obtain ⟨b, o, e, hc⟩ := h hp
  refine ⟨b, o, e, fun j hj => ?_⟩
  have h1 := hc j hj
  rw [hb.cell (by
    rcases Nat.lt_or_ge b w.heap.size with h2 | h2
    · exact h2
    · simp [World.cell?, Array.getElem?_eq_none h2] at h1)]
  exact h1
theorem gh_append_left (a b : List Hdr) (i : Nat) (h : i < a.length) : gh (a ++ b) i = gh a i := by simp [gh, List.getElem?_append, h]
theorem gh_snoc (a : List Hdr) (e : Hdr) : gh (a ++ [e]) a.length = e := by simp [gh]
def gt {α : Type} [Inhabited α] (ts : List α) (j : Nat) : α := ts.getD j default
theorem gt_append_left {α : Type} [Inhabited α] (a b : List α) (i : Nat) (h : i < a.length) : gt (a ++ b) i = gt a i := by simp [gt, List.getElem?_append, h]
theorem gt_snoc {α : Type} [Inhabited α] (a : List α) (e : α) : gt (a ++ [e]) a.length = e := by simp [gt]
/-- What is said of an element, whose memory lies from B to T, lasts while that memory does. -/
structure LastsH {α : Type} (E : World → Nat → Nat → α → Hdr → Prop) : Prop where
  grown : ∀ {w w' : World} {B T : Nat} {z : α} {h : Hdr} {row : Option Nat}, E w B T z h → T ≤ w.heap.size → w.grownBy w' row → (∀ r, row = some r → r < B ∨ T ≤ r) → E w' B T z h
  wide : ∀ {w : World} {B T B' T' : Nat} {z : α} {h : Hdr}, E w B T z h → B' ≤ B → T ≤ T' → E w B' T' z h
theorem LastsH.below {α : Type} {E : World → Nat → Nat → α → Hdr → Prop} (L : LastsH E) {w w' : World} {B T : Nat} {z : α} {h : Hdr} (he : E w B T z h) (hT : T ≤ w.heap.size) (hb : Below w.heap.size w w') : E w' B T z h :=
  L.grown he hT (grownBy_below hb none) nofun
/-- A row of slices that is handed on. -/
structure HRow {α : Type} [Inhabited α] (D : Nat) (E : World → Nat → Nat → α → Hdr → Prop) (w : World) (B T : Nat) (ts : List α) (h : Hdr) (hs : List Hdr) : Prop where
  el : hs.length = h.n
  tl : ts.length = h.n
  cap : h.n ≤ h.c
  bnd : h.c ≤ maxLen
  pn : h.p = none → h.c = 0
  few : h.n ≤ D
  hl : HL w h.p hs
  at_ : ∀ a, h.p = some a → 0 < h.n → B ≤ a.block ∧ a.block < T
  ev : ∀ j, j < h.n → E w B T (gt ts j) (gh hs j)
def HR {α : Type} [Inhabited α] (D : Nat) (E : World → Nat → Nat → α → Hdr → Prop) (w : World) (B T : Nat) (ts : List α) (h : Hdr) : Prop := ∃ hs, HRow D E w B T ts h hs
theorem HL.same {w w' : World} {p : Option Addr} {hs : List Hdr} (h : HL w p hs) (hk : ∀ a, p = some a → 0 < hs.length → a.block < w.heap.size → w'.heap[a.block]? = w.heap[a.block]?) : HL w' p hs := fun hp => by
  obtain ⟨b, o, e, hc⟩ := h hp
  have hlt : b < w.heap.size := block_lt_of_cell (hc 0 hp)
  exact ⟨b, o, e, fun j hj => (World.cell?_of_block (a := ⟨b, o + j, none⟩) (hk ⟨b, o, none⟩ e hp hlt)).trans (hc j hj)⟩
theorem lasts_HR {α : Type} [Inhabited α] {D : Nat} {E : World → Nat → Nat → α → Hdr → Prop} (L : LastsH E) : LastsH (HR D E) := ⟨fun {w w' B T z h row} he hT hg hr => by
    obtain ⟨hs, k⟩ := he
    refine ⟨hs, k.el, k.tl, k.cap, k.bnd, k.pn, k.few, k.hl.same fun a ha hn hlt => hg.block a.block hlt fun e => ?_, k.at_, fun j hj => L.grown (k.ev j hj) hT hg hr⟩
    have h1 := k.at_ a ha (by rw [← k.el]; exact hn)
    have h2 := hr a.block e.symm
    omega, fun {w B T B' T' z h} he hB hT => by
    obtain ⟨hs, k⟩ := he
    exact ⟨hs, k.el, k.tl, k.cap, k.bnd, k.pn, k.few, k.hl, fun a ha hn => by have := k.at_ a ha hn; omega, fun j hj => L.wide (k.ev j hj) hB hT⟩⟩
/-- A row of slices that grows. -/
structure LH {α : Type} [Inhabited α] (base : Nat) (t : TypeId) (E : World → Nat → Nat → α → Hdr → Prop) (w : World) (v : Value) (hs : List Hdr) (ts : List α) : Prop where
  own : w.ownsRow base t 1 v hs.length (hs.map Hdr.val)
  tl : ts.length = hs.length
  ev : ∀ j, j < hs.length → ∃ B T, base ≤ B ∧ T ≤ w.heap.size ∧ E w B T (gt ts j) (gh hs j) ∧ ∀ r, v.ownBlock = some r → r < B ∨ T ≤ r
section
variable {α : Type} [Inhabited α] {base : Nat} {t : TypeId} {E : World → Nat → Nat → α → Hdr → Prop}
theorem LH.nil (base : Nat) (t : TypeId) (E : World → Nat → Nat → α → Hdr → Prop) (w : World) : LH base t E w (.slice none 0 0) [] [] := ⟨World.ownsRow_nil _ _ _ _, rfl, fun j hj => by simp at hj⟩
theorem LH.below (L : LastsH E) {w w' : World} {v : Value} {hs : List Hdr} {ts : List α} (h : LH base t E w v hs ts) (hb : Below w.heap.size w w') : LH base t E w' v hs ts :=
  ⟨own_below h.own hb, h.tl, fun j hj => by
    obtain ⟨B, T, h1, h2, h3, h4⟩ := h.ev j hj
    exact ⟨B, T, h1, Nat.le_trans h2 hb.size, L.below h3 h2 hb, h4⟩⟩
theorem LH.app (L : LastsH E) {wr w1 w3 : World} {v : Value} {hs : List Hdr} {ts : List α} {z : α} {h : Hdr} {o : Obj} {g cap k B T : Nat} (hk : hs.length = k) (H : LH base t E wr v hs ts) (hb1 : Below wr.heap.size wr w1) (hE : E w1 B T z h) (hB : wr.heap.size ≤ B) (hT : T ≤ w1.heap.size) (hbase : base ≤ wr.heap.size)
    (hown : w3.ownsRow base t 1 (.slice (some ⟨g, 0, none⟩) (k + 1) cap) (k + 1) (hs.map Hdr.val ++ [h.val])) (hgrow : (w1.alloc o).grownBy w3 v.ownBlock) (hat : v.ownBlock = some g ∨ g = (w1.alloc o).heap.size) :
    LH base t E w3 (.slice (some ⟨g, 0, none⟩) (k + 1) cap) (hs ++ [h]) (ts ++ [z]) := by
  subst hk
  have hal : Below w1.heap.size w1 (w1.alloc o) := (Below.refl _ _).alloc (Nat.le_refl _) o
  have hs1 := hb1.size
  have hs2 := hal.size
  have hs3 := hgrow.size
  have ob : ∀ r, (Value.slice (some ⟨g, 0, none⟩) (hs.length + 1) cap).ownBlock = some r → r = g := fun r hr => (Option.some.inj hr).symm
  refine ⟨by rw [List.length_append, List.map_append]; exact hown, by simp [H.tl], fun j hj => ?_⟩
  rcases Nat.lt_or_ge j hs.length with hlt | hge
  · rw [gh_append_left _ _ _ hlt, gt_append_left _ _ _ (by rw [H.tl]; exact hlt)]
    obtain ⟨B', T', h1, h2, h3, h4⟩ := H.ev j hlt
    have h5 := L.below (L.below h3 h2 hb1) (Nat.le_trans h2 hs1) hal
    refine ⟨B', T', h1, by omega, L.grown h5 (by omega) hgrow h4, fun r hr => ?_⟩
    obtain rfl := ob r hr
    rcases hat with h6 | h6
    · exact h4 _ h6
    · right; omega
  · have : j = hs.length := by simp at hj; omega
    subst this
    have e1 : gt (ts ++ [z]) hs.length = z := by rw [← H.tl]; exact gt_snoc ts z
    rw [gh_snoc, e1]
    have old : ∀ r, v.ownBlock = some r → r < B ∨ T ≤ r := fun r hr => by
      have := (H.own.lt r hr).2
      left; omega
    refine ⟨B, T, by omega, by omega, L.grown (L.below hE hT hal) (by omega) hgrow old, fun r hr => ?_⟩
    obtain rfl := ob r hr
    rcases hat with h6 | h6
    · exact old _ h6
    · right; omega
theorem owns1_form {w : World} {B n : Nat} {t : TypeId} {v : Value} {xs : List Value} (h : w.ownsRow B t 1 v n xs) : ∃ q cap, v = .slice q n cap ∧ n ≤ cap ∧ cap ≤ maxLen ∧ (q = none → cap = 0) ∧ ∀ a, q = some a → B ≤ a.block ∧ a.block < w.heap.size := by
  rcases h.2 with ⟨h1, h2⟩ | ⟨g, cap, cur, h1, h2, h3, h4, h5, _⟩
  · exact ⟨none, 0, by rw [h1, h2], by omega, Nat.zero_le _, fun _ => rfl, nofun⟩
  · exact ⟨_, cap, h1, h4, h5, nofun, fun a ha => by
      have h6 := h.lt g (by rw [h1]; rfl)
      cases ha
      exact ⟨h2, h6.2⟩⟩
theorem owns1_hl {w : World} {B cap : Nat} {t : TypeId} {q : Option Addr} {hs : List Hdr} (h : w.ownsRow B t 1 (.slice q hs.length cap) hs.length (hs.map Hdr.val)) : HL w q hs := fun hx => by
  obtain ⟨g, cap', h1, h2, _⟩ := h.form hx
  cases h1
  refine ⟨g, 0, rfl, fun j hj => ?_⟩
  have e0 := h.cells (g := g) rfl j (gh hs j).val (by simp [gh, hj])
  rw [Addr.add_mid] at e0
  exact e0
theorem LH.row (L : LastsH E) {w : World} {v : Value} {hs : List Hdr} {ts : List α} {D : Nat} (h : LH base t E w v hs ts) (hD : hs.length ≤ D) : ∃ q cap, v = .slice q hs.length cap ∧ HRow D E w base w.heap.size ts ⟨q, hs.length, cap⟩ hs := by
  obtain ⟨q, cap, h1, h2, h3, h4, h5⟩ := owns1_form h.own
  have ho := h.own
  rw [h1] at ho
  exact ⟨q, cap, h1, rfl, h.tl, h2, h3, h4, hD, owns1_hl ho, fun a ha _ => h5 a ha, fun j hj => by
    obtain ⟨B, T, k1, k2, k3, _⟩ := h.ev j hj
    exact L.wide k3 k1 k2⟩
end
/-- A polynomial among them. -/
def EZ (K D : Nat) (w : World) (B T : Nat) (zs : List Int) (h : Hdr) : Prop :=
  ∃ fs, PA w K h.p h.n h.c fs zs ∧ h.n ≤ D ∧ (∀ a, h.p = some a → 0 < h.n → B ≤ a.block ∧ a.block < T) ∧ ∀ j, j < h.n → 0 < (ge fs j).n → ∀ a, (ge fs j).p = some a → B ≤ a.block ∧ a.block < T
theorem lasts_EZ (K D : Nat) : LastsH (EZ K D) := ⟨fun {w w' B T z h row} he hT hg hr => by
    obtain ⟨fs, k, h1, h2, h3⟩ := he
    refine ⟨fs, ⟨k.el, k.zl, k.cap, k.bnd, k.pn, fun hx => (k.pl.same fun a ha hlt => hg.block a.block hlt fun e => ?_) hx, fun j hj => (lasts_EV K).grown (k.ev j hj) hg fun hn a ha e => ?_⟩, h1, h2, h3⟩
    · have h4 := h2 a ha (by rw [← k.el]; exact hx)
      have h5 := hr a.block e.symm
      omega
    · have h4 := h3 j hj hn a ha
      have h5 := hr a.block e.symm
      omega, fun {w B T B' T' z h} he hB hT => by
    obtain ⟨fs, k, h1, h2, h3⟩ := he
    exact ⟨fs, k, h1, fun a ha hn => by have := h2 a ha hn; omega, fun j hj hn a ha => by have := h3 j hj hn a ha; omega⟩⟩
end Go.Proofs.YtlhgpejapmpcmaaGreatDoor
/-
  What an argument of type [][]api.Poly is, read as data.
-/
namespace Go.Proofs.YtlhgpejapmpcmaaGreatDoor
open Go.ChangeShapes Go.WideShapes Go.ChangeAt Go.RowKit Go.Joins
set_option linter.unusedVariables false
set_option linter.unusedSimpArgs false

/-- A row of polynomials as it may be handed in. -/
structure RZ (w : World) (p : Option Addr) (n nc : Nat) (hs : List Hdr) : Prop where
  el : hs.length = n
  cap : n ≤ nc
  bnd : nc ≤ maxLen
  pn : p = none → nc = 0
  hl : HL w p hs
  ev : ∀ j, j < n → ∃ es, PZ w (gh hs j).p (gh hs j).n (gh hs j).c es
theorem RZ.below {w w' : World} {p : Option Addr} {n nc : Nat} {hs : List Hdr} (h : RZ w p n nc hs) (hb : Below w.heap.size w w') : RZ w' p n nc hs :=
  ⟨h.el, h.cap, h.bnd, h.pn, h.hl.below hb, fun j hj => let ⟨es, he⟩ := h.ev j hj; ⟨es, he.below hb⟩⟩
/-- A matrix as it may be handed in. -/
structure MZ (w : World) (p : Option Addr) (n nc : Nat) (hs : List Hdr) : Prop where
  el : hs.length = n
  cap : n ≤ nc
  bnd : nc ≤ maxLen
  pn : p = none → nc = 0
  hl : HL w p hs
  ev : ∀ j, j < n → ∃ rs, RZ w (gh hs j).p (gh hs j).n (gh hs j).c rs
theorem MZ.below {w w' : World} {p : Option Addr} {n nc : Nat} {hs : List Hdr} (h : MZ w p n nc hs) (hb : Below w.heap.size w w') : MZ w' p n nc hs :=
  ⟨h.el, h.cap, h.bnd, h.pn, h.hl.below hb, fun j hj => let ⟨rs, hr⟩ := h.ev j hj; ⟨rs, hr.below hb⟩⟩
set_option maxRecDepth 100000 in
theorem polyT {H : Type} {enc : TypeId × Value → H} {W : World} {fuel : Nat} {v : Value} {x : DataW H × List MemPlace} (hf : DataW.trod enc Tryz.prog W 0 (fun _ => true) true fuel 37 [v] = some x) :
    v = (hdrOf v).val ∧ ∃ es, PZ W (hdrOf v).p (hdrOf v).n (hdrOf v).c es := by
  rcases Go.Deep.open_slice_pairs Tryz.underlying37 Tryz.underlying58 cellsI2 rfl rfl cellsB cellsUs hf with ⟨hcs, -⟩ | ⟨a, len, cap, m, k, V0, V1, D0, D1, P0, P1, hcs, -, hl, hm, hmm, -, hcell⟩
  · simp only [List.cons.injEq, and_true] at hcs
    subst hcs
    exact ⟨rfl, [], rfl, Nat.le_refl _, Nat.zero_le _, fun _ => rfl, PL.nil, fun j hj => absurd hj (Nat.not_lt_zero j)⟩
  · simp only [List.cons.injEq, and_true] at hcs
    subst hcs
    simp only [if_true] at hmm
    have hr : ∀ i, i < len → V0 i = .bool (entOf (V0 i) (V1 i)).s ∧ V1 i = .slice (entOf (V0 i) (V1 i)).p (entOf (V0 i) (V1 i)).n (entOf (V0 i) (V1 i)).c ∧ RawE W (entOf (V0 i) (V1 i)) := fun i hi => by
      obtain ⟨-, -, g0, g1⟩ := hcell i (by omega)
      exact rawCells g0 g1
    have hge : ∀ i, i < len → ge ((List.range len).map fun i => entOf (V0 i) (V1 i)) i = entOf (V0 i) (V1 i) := fun i hi => by simp [ge, hi]
    refine ⟨rfl, (List.range len).map fun i => entOf (V0 i) (V1 i), by show _ = len; simp, hl, hm, nofun, ?_, fun j (hj : j < len) => by rw [hge j hj]; exact (hr j hj).2.2⟩
    intro hp
    have hp' : 0 < len := by simpa using hp
    obtain ⟨b, off, spot⟩ := a
    have hspot : spot = none := by simpa [Addr.add] using World.cell?_spot (hcell 0 (by omega)).1
    subst hspot
    refine ⟨b, off, rfl, fun j hj => ?_⟩
    have hj' : j < len := by simpa using hj
    obtain ⟨c0, c1, -, -⟩ := hcell j (by omega)
    obtain ⟨e0, e1, -⟩ := hr j hj'
    rw [hge j hj', ← e0, ← e1]
    rw [add_plain] at c0 c1
    exact ⟨c0, c1⟩
theorem cellsP : Tryz.prog.cellsOf 37 = 1 := by kernel_rfl
theorem cellsPs : Tryz.prog.cellsOf 35 = 1 := by kernel_rfl
/-- A slice whose elements are slices. -/
theorem sliceT {H : Type} {enc : TypeId × Value → H} {W : World} {fuel : Nat} {t e : TypeId} {v : Value} {x : DataW H × List MemPlace} (ht : Tryz.prog.underlying t = some (.slice e)) (hc : Tryz.prog.cellsOf e = 1) (hf : DataW.trod enc Tryz.prog W 0 (fun _ => true) true fuel t [v] = some x)
    {E : Hdr → Prop} (hE : ∀ (fuel : Nat) (u : Value) (y : DataW H × List MemPlace), DataW.trod enc Tryz.prog W 0 (fun _ => true) true fuel e [u] = some y → u = (hdrOf u).val ∧ E (hdrOf u)) :
    v = (hdrOf v).val ∧ (hdrOf v).n ≤ (hdrOf v).c ∧ (hdrOf v).c ≤ maxLen ∧ ((hdrOf v).p = none → (hdrOf v).c = 0) ∧ ∃ hs : List Hdr, hs.length = (hdrOf v).n ∧ HL W (hdrOf v).p hs ∧ ∀ j, j < (hdrOf v).n → E (gh hs j) := by
  rcases Go.Deep.open_slice1 ht hc hf with ⟨hcs, -⟩ | ⟨a, len, cap, m, n, V, D, Pl, hcs, -, hl, hm, hmm, -, hcell⟩
  · simp only [List.cons.injEq, and_true] at hcs
    subst hcs
    exact ⟨rfl, Nat.le_refl _, Nat.zero_le _, fun _ => rfl, [], rfl, fun h => absurd h (Nat.not_lt_zero 0), fun j hj => absurd hj (Nat.not_lt_zero j)⟩
  · simp only [List.cons.injEq, and_true] at hcs
    subst hcs
    simp only [if_true] at hmm
    have hg : ∀ i, i < len → gh ((List.range len).map fun i => hdrOf (V i)) i = hdrOf (V i) := fun i hi => by simp [gh, hi]
    refine ⟨rfl, hl, hm, nofun, (List.range len).map fun i => hdrOf (V i), by show _ = len; simp, fun hp => ?_, fun j (hj : j < len) => by rw [hg j hj]; exact (hE _ _ _ (hcell j (by omega)).2).2⟩
    have hp' : 0 < len := by simpa using hp
    obtain ⟨b, off, spot⟩ := a
    have hspot : spot = none := by simpa [Addr.add] using World.cell?_spot (hcell 0 (by omega)).1
    subst hspot
    refine ⟨b, off, rfl, fun j hj => ?_⟩
    have hj' : j < len := by simpa using hj
    obtain ⟨c0, g0⟩ := hcell j (by omega)
    rw [hg j hj', ← (hE _ _ _ g0).1]
    rw [add_plain] at c0
    exact c0
set_option maxRecDepth 100000 in
theorem rowT {H : Type} {enc : TypeId × Value → H} {W : World} {fuel : Nat} {v : Value} {x : DataW H × List MemPlace} (hf : DataW.trod enc Tryz.prog W 0 (fun _ => true) true fuel 35 [v] = some x) :
    v = (hdrOf v).val ∧ ∃ hs, RZ W (hdrOf v).p (hdrOf v).n (hdrOf v).c hs := by
  obtain ⟨h1, h2, h3, h4, hs, h5, h6, h7⟩ := sliceT (E := fun h => ∃ es, PZ W h.p h.n h.c es) Tryz.underlying35 cellsP hf (fun fuel u y hu => polyT hu)
  exact ⟨h1, hs, h5, h2, h3, h4, h6, h7⟩
set_option maxRecDepth 100000 in
theorem openMat {H : Type} {enc : TypeId × Value → H} {W : World} {v0 : Value} {d0 : DataW H} {p0 : List MemPlace} {base : Nat} (hv : Value.okWide Tryz.prog W .any base 22 v0)
    (h0 : DataW.Trod enc Tryz.prog W 0 (fun _ => true) true 22 v0 d0 p0) : ∃ (p : Option Addr) (n nc : Nat) (hs : List Hdr), v0 = .slice p n nc ∧ MZ W p n nc hs := by
  obtain ⟨a0, len, cap, rfl⟩ := okWide_slice Tryz.underlying22 hv
  obtain ⟨fuel, hf⟩ := h0
  obtain ⟨h1, h2, h3, h4, hs, h5, h6, h7⟩ := sliceT (E := fun h => ∃ rs, RZ W h.p h.n h.c rs) Tryz.underlying22 cellsPs hf (fun fuel u y hu => rowT hu)
  exact ⟨a0, len, cap, hs, rfl, h5, h2, h3, h4, h6, h7⟩
end Go.Proofs.YtlhgpejapmpcmaaGreatDoor
/-
  Plain facts, further: a part of a row that is written entry by entry.
-/
namespace Go.Proofs.YtlhgpejapmpcmaaGreatDoor
open Go.RowKit
set_option linter.unusedVariables false
set_option linter.unusedSimpArgs false

/-- The row with R in the place of the n entries from o on. -/
def mid (Z : List Int) (o : Nat) (R : List Int) : List Int := Z.take o ++ R ++ Z.drop (o + R.length)
theorem mid_length (Z R : List Int) (o : Nat) (h : o + R.length ≤ Z.length) : (mid Z o R).length = Z.length := row_length Z R o h
theorem mid_gx (Z R : List Int) (o j : Nat) (h : o + R.length ≤ Z.length) (hj : j < R.length) : gx (mid Z o R) (o + j) = gx R j := row_gx_new Z R o j _ (by omega) hj
theorem mid_set (Z R : List Int) (o j : Nat) (v : Int) (h : o + R.length ≤ Z.length) (hj : j < R.length) : (mid Z o R).set (o + j) v = mid Z o (R.set j v) := by
  have hl : (Z.take o).length = o := by simp; omega
  unfold mid
  rw [List.append_assoc, List.set_append_right _ _ (by omega), hl, Nat.add_sub_cancel_left, List.set_append_left _ _ hj, List.append_assoc, List.length_set]
theorem mid_self (Z : List Int) (o n : Nat) (h : o + n ≤ Z.length) : mid Z o ((Z.drop o).take n) = Z := by
  unfold mid
  rw [part_length Z o n h, List.append_assoc]
  have : (Z.drop o).take n ++ Z.drop (o + n) = Z.drop o := by
    rw [← List.drop_drop]; exact List.take_append_drop n (Z.drop o)
  rw [this, List.take_append_drop]
theorem mid_zero (Z R : List Int) (h : R.length = Z.length) : mid Z 0 R = R := by simp [mid, h]
theorem val_set (R : List Int) (j : Nat) (v : Int) (h : j < R.length) : val (R.set j v) = val R + pw j * (v - gx R j) := by
  have e1 := val_at R j h
  have e2 := val_at (R.set j v) j (by simpa using h)
  rw [List.take_set_of_le (Nat.le_refl _), List.drop_set_of_lt (by omega), gx_set_eq R j v h] at e2
  rw [e2, e1, Int.mul_sub]
  omega
theorem u32_set {R : List Int} (h : U32 R) (j : Nat) {v : Int} (hv : 0 ≤ v ∧ v < 4294967296) : U32 (R.set j v) := fun k => by
  by_cases hk : j = k
  · subst hk
    by_cases hl : j < R.length
    · rw [gx_set_eq R j v hl]; exact hv
    · rw [gx_past _ _ (Nat.le_refl _) j (by simp; omega)]; decide
  · rw [gx_set_ne R j k v hk]; exact h k
theorem Row.mid_cell {w : World} {g : Nat} {e : TypeId} {k : IntKind} {Z R : List Int} {o : Nat} (hr : Row w g e k (mid Z o R)) (h : o + R.length ≤ Z.length) (j : Nat) (hj : j < R.length) : w.cell? ⟨g, o + j, none⟩ = some (.int k (gx R j)) := by
  have := hr.cell (o + j) (by rw [mid_length Z R o h]; omega)
  rwa [mid_gx Z R o j h hj] at this
theorem Row.mid_set {w : World} {g : Nat} {e : TypeId} {k : IntKind} {Z R : List Int} {o : Nat} (hr : Row w g e k (mid Z o R)) (h : o + R.length ≤ Z.length) (j : Nat) (hj : j < R.length) (v : Int) : Row (w.setCell ⟨g, o + j, none⟩ (.int k v)) g e k (mid Z o (R.set j v)) := by
  have := hr.set (o + j) v
  rwa [Proofs.YtlhgpejapmpcmaaGreatDoor.mid_set Z R o j v h hj] at this
/-- A limb times a limb, a limb and a carry: it fits into two limbs. -/
theorem mul_bd {v x : Int} (h1 : 0 ≤ v ∧ v < 4294967296) (h2 : 0 ≤ x ∧ x < 4294967296) : 0 ≤ v * x ∧ v * x ≤ 18446744065119617025 := by
  refine ⟨Int.mul_nonneg h1.1 h2.1, ?_⟩
  have a1 : v * x ≤ v * 4294967295 := Int.mul_le_mul_of_nonneg_left (by omega) h1.1
  omega
/-- Two limbs joined by bits are their number. -/
theorem or_join (r x : Int) (h1 : 0 ≤ r) (h2 : r < 4294967296) (h3 : 0 ≤ x) (h4 : x < 4294967296) : bits .or .u64 (r * 4294967296) x = r * 4294967296 + x :=
  bits_join .u64 64 (by decide) (fun n a b => by rw [IntKind.wrap_u64]; omega) 32 (r * 4294967296) x (by omega) (by omega) (by omega) h3 (by omega) (by omega)

theorem drop_cons (l : List Int) (j : Nat) (h : j < l.length) : l.drop j = gx l j :: l.drop (j + 1) := by rw [gx_mem l j h]; exact List.drop_eq_getElem_cons h
theorem drop_set_after (l : List Int) (n j : Nat) (v : Int) (hj : j < n) (h : n ≤ l.length) : ((l.set j v).take n).drop j = v :: (l.take n).drop (j + 1) := by
  rw [drop_cons _ j (by simp; omega), gx_take _ _ _ hj, gx_set_eq l j v (by omega)]
  congr 1
  rw [List.take_set, List.drop_set_of_lt (by omega)]
theorem quo_bd {r x d : Int} (h1 : 0 ≤ r) (h2 : r < d) (h3 : 0 ≤ x) (h4 : x < 4294967296) : 0 ≤ (r * 4294967296 + x) / d ∧ (r * 4294967296 + x) / d < 4294967296 := by
  refine ⟨Int.ediv_nonneg (by omega) (by omega), ?_⟩
  apply Int.ediv_lt_of_lt_mul (by omega)
  omega

theorem or_comm64 (a b : Int) (h1 : 0 ≤ a) (h2 : a < 18446744073709551616) (h3 : 0 ≤ b) (h4 : b < 18446744073709551616) : bits .or .u64 a b = bits .or .u64 b a := by
  obtain ⟨x, rfl⟩ := Int.eq_ofNat_of_zero_le h1
  obtain ⟨y, rfl⟩ := Int.eq_ofNat_of_zero_le h3
  have hk : ∀ n : Int, 0 ≤ n → n < 2 ^ 64 → IntKind.u64.wrap n = n := fun n a b => by rw [IntKind.wrap_u64]; omega
  rw [(bits_nat .u64 64 (by decide) hk x y (by omega) (by omega)).2, (bits_nat .u64 64 (by decide) hk y x (by omega) (by omega)).2, Nat.or_comm]
theorem or_join' (r x : Int) (h1 : 0 ≤ r) (h2 : r < 4294967296) (h3 : 0 ≤ x) (h4 : x < 4294967296) : bits .or .u64 x (r * 4294967296) = r * 4294967296 + x := by
  rw [or_comm64 _ _ h3 (by omega) (by omega) (by omega), or_join r x h1 h2 h3 h4]

end Go.Proofs.YtlhgpejapmpcmaaGreatDoor
