/-
  Lists of rationals in memory: slices whose elements have four cells; lists that grow by append.
-/
import Derived.Test.YtcdfckjlmifjiaaGreatRwNjUbVaVg
import Derived.Test.YtcdfckjlmifjiaaGreatYcZsRmRpYd
import Derived.Test.YtcdfckjlmifjiaaGreatAbBnUjBoAhEkOaOcOd
import Derived.Test.YtcdfckjlmifjiaaGreatUaOwPn
import Derived.Deep.SlicePairs
import Derived.Deep.Slices
namespace Go.Proofs.YtcdfckjlmifjiaaGreat
open Go.RowKit
set_option linter.unusedVariables false
set_option linter.unusedSimpArgs false

/-- An element: two signs, two slices. -/
structure Rq where
  s : Bool
  p : Option Addr
  n : Nat
  c : Nat
  t : Bool
  q : Option Addr
  m : Nat
  d : Nat
def rqz : Rq := ⟨false, none, 0, 0, false, none, 0, 0⟩
/-- The element at a place; the rational at a place. -/
def gr (rs : List Rq) (i : Nat) : Rq := (rs[i]?).getD rqz
def gq (zs : List Rat) (i : Nat) : Rat := (zs[i]?).getD 0
theorem gr_append_left (a b : List Rq) (i : Nat) (h : i < a.length) : gr (a ++ b) i = gr a i := by simp [gr, List.getElem?_append, h]
theorem gr_snoc (a : List Rq) (e : Rq) : gr (a ++ [e]) a.length = e := by simp [gr]
theorem gq_append_left (a b : List Rat) (i : Nat) (h : i < a.length) : gq (a ++ b) i = gq a i := by simp [gq, List.getElem?_append, h]
theorem gq_snoc (a : List Rat) (e : Rat) : gq (a ++ [e]) a.length = e := by simp [gq]
/-- What is said of the blocks of an element's two slices. -/
def Rq.all (e : Rq) (X : Nat → Prop) : Prop := (0 < e.n → ∀ a, e.p = some a → X a.block) ∧ (0 < e.m → ∀ a, e.q = some a → X a.block)
theorem Rq.all_mono {e : Rq} {X Y : Nat → Prop} (h : e.all X) (k : ∀ b, X b → Y b) : e.all Y := ⟨fun hn a ha => k _ (h.1 hn a ha), fun hn a ha => k _ (h.2 hn a ha)⟩
/-- The value of an element, in one piece. -/
def Rq.cells (e : Rq) : List Value := [.bool e.s, .slice e.p e.n e.c, .bool e.t, .slice e.q e.m e.d]
/-- The elements lie at p. -/
def RL (w : World) (p : Option Addr) (rs : List Rq) : Prop :=
  0 < rs.length → ∃ b o, p = some ⟨b, o, none⟩ ∧ ∀ j, j < rs.length → w.cell? ⟨b, o + j * 4, none⟩ = some (.bool (gr rs j).s) ∧ w.cell? ⟨b, o + j * 4 + 1, none⟩ = some (.slice (gr rs j).p (gr rs j).n (gr rs j).c) ∧ w.cell? ⟨b, o + j * 4 + 2, none⟩ = some (.bool (gr rs j).t) ∧ w.cell? ⟨b, o + j * 4 + 3, none⟩ = some (.slice (gr rs j).q (gr rs j).m (gr rs j).d)
theorem RL.nil {w : World} {p : Option Addr} : RL w p [] := fun h => by simp at h
theorem RL.same {w w' : World} {p : Option Addr} {rs : List Rq} (h : RL w p rs) (hs : ∀ a, p = some a → a.block < w.heap.size → w'.heap[a.block]? = w.heap[a.block]?) : RL w' p rs := fun hx => by
  obtain ⟨b, o, hp, hc⟩ := h hx
  refine ⟨b, o, hp, fun j hj => ?_⟩
  have hlt : b < w.heap.size := block_lt_of_cell (hc 0 hx).1
  have hb := hs ⟨b, o, none⟩ hp hlt
  obtain ⟨c0, c1, c2, c3⟩ := hc j hj
  exact ⟨(World.cell?_of_block (a := ⟨b, o + j * 4, none⟩) hb).trans c0, (World.cell?_of_block (a := ⟨b, o + j * 4 + 1, none⟩) hb).trans c1, (World.cell?_of_block (a := ⟨b, o + j * 4 + 2, none⟩) hb).trans c2, (World.cell?_of_block (a := ⟨b, o + j * 4 + 3, none⟩) hb).trans c3⟩
theorem RL.below {w w' : World} {p : Option Addr} {rs : List Rq} (h : RL w p rs) (hb : Below w.heap.size w w') : RL w' p rs := h.same fun a _ hlt => hb.block a.block hlt
/-- The cells of a list. -/
def frl (rs : List Rq) : List Value := rs.flatMap Rq.cells
theorem frl_snoc (rs : List Rq) (e : Rq) : frl (rs ++ [e]) = frl rs ++ [.bool e.s, .slice e.p e.n e.c, .bool e.t, .slice e.q e.m e.d] := by simp [frl, Rq.cells]
theorem frl_get (rs : List Rq) : ∀ j, j < rs.length → (frl rs)[j * 4]? = some (.bool (gr rs j).s) ∧ (frl rs)[j * 4 + 1]? = some (.slice (gr rs j).p (gr rs j).n (gr rs j).c) ∧ (frl rs)[j * 4 + 2]? = some (.bool (gr rs j).t) ∧ (frl rs)[j * 4 + 3]? = some (.slice (gr rs j).q (gr rs j).m (gr rs j).d) := by
  induction rs with
  | nil => intro j hj; simp at hj
  | cons e r ih =>
    intro j hj
    cases j with
    | zero => exact ⟨rfl, rfl, rfl, rfl⟩
    | succ j =>
      have h := ih j (by simpa using hj)
      have e1 : (j + 1) * 4 = j * 4 + 1 + 1 + 1 + 1 := by omega
      have e3 : gr (e :: r) (j + 1) = gr r j := by simp [gr]
      rw [e1, e3]
      simp only [frl, List.flatMap_cons, Rq.cells, List.cons_append, List.nil_append, List.getElem?_cons_succ] at h ⊢
      exact h
/-- What is said of an element lasts while its own memory does. -/
structure LastsQ (E : World → Rat → Rq → Prop) : Prop where
  grown : ∀ {w w' : World} {z : Rat} {e : Rq} {row : Option Nat}, E w z e → w.grownBy w' row → e.all (fun b => some b ≠ row) → E w' z e
  lt : ∀ {w : World} {z : Rat} {e : Rq}, E w z e → e.all fun b => b < w.heap.size
theorem LastsQ.below {E : World → Rat → Rq → Prop} (L : LastsQ E) {w w' : World} {z : Rat} {e : Rq} (h : E w z e) (hb : Below w.heap.size w w') : E w' z e := L.grown h (grownBy_below hb none) ⟨(fun _ _ _ e => by cases e), (fun _ _ _ e => by cases e)⟩
theorem AI.grow {w w' : World} {p : Option Addr} {n nc : Nat} {xs : List Int} {row : Option Nat} (h : AI w p n nc xs) (hg : w.grownBy w' row) (hne : 0 < n → ∀ a, p = some a → some a.block ≠ row) : AI w' p n nc xs := ⟨h.len, h.cap, h.bnd, h.sml, rd_grown h.rd hg (by rw [h.len]; exact hne), h.u⟩
theorem AI.ltb {w : World} {p : Option Addr} {n nc : Nat} {xs : List Int} (h : AI w p n nc xs) : 0 < n → ∀ a, p = some a → a.block < w.heap.size := fun hn => rd_lt h.rd (by rw [h.len]; exact hn)
/-- A rational among others, as it is handed in. -/
def EQ (K : Nat) (w : World) (z : Rat) (e : Rq) : Prop := AQ w K e.s e.p e.n e.c e.t e.q e.m e.d z
theorem lasts_EQ (K : Nat) : LastsQ (EQ K) := ⟨fun h hg hne => by
    obtain ⟨xs, ys, h1, h2, h3⟩ := h
    exact ⟨xs, ys, h1.grow hg hne.1, h2.grow hg hne.2, h3⟩, fun h => by
    obtain ⟨xs, ys, h1, h2, h3⟩ := h
    exact ⟨h1.ltb, h2.ltb⟩⟩
/-- A rational of the reference among others. -/
def EM (K : Nat) (w : World) (z : Rat) (e : Rq) : Prop := MQ w K e.s e.p e.n e.t e.q e.m z ∧ e.c = e.n ∧ e.d = e.m
theorem RV.grow {w w' : World} {N : Nat} {z : Int} {s : Bool} {p : Option Addr} {n : Nat} {row : Option Nat} (h : RV w N z s p n) (hg : w.grownBy w' row) (hne : 0 < n → ∀ a, p = some a → some a.block ≠ row) : RV w' N z s p n := by
  obtain ⟨ds, k, h2⟩ := h
  exact ⟨ds, ⟨k.len, rd_grown k.rd hg (by rw [k.len]; exact hne), k.u, k.nrm, k.sg, k.sml⟩, h2⟩
theorem RV.ltb {w : World} {N : Nat} {z : Int} {s : Bool} {p : Option Addr} {n : Nat} (h : RV w N z s p n) : 0 < n → ∀ a, p = some a → a.block < w.heap.size := by
  obtain ⟨ds, k, h2⟩ := h
  exact fun hn => rd_lt k.rd (by rw [k.len]; exact hn)
theorem lasts_EM (K : Nat) : LastsQ (EM K) := ⟨fun h hg hne => ⟨⟨h.1.num.grow hg hne.1, h.1.den.grow hg hne.2⟩, h.2⟩, fun h => ⟨h.1.num.ltb, h.1.den.ltb⟩⟩
/-- A list that grows. -/
structure LW (base : Nat) (t : TypeId) (E : World → Rat → Rq → Prop) (w : World) (v : Value) (rs : List Rq) (zs : List Rat) : Prop where
  own : w.ownsRow base t 4 v rs.length (frl rs)
  zl : zs.length = rs.length
  ev : ∀ j, j < rs.length → E w (gq zs j) (gr rs j)
  off : ∀ j, j < rs.length → (gr rs j).all fun b => some b ≠ v.ownBlock
theorem LW.nil (base : Nat) (t : TypeId) (E : World → Rat → Rq → Prop) (w : World) : LW base t E w (.slice none 0 0) [] [] := ⟨World.ownsRow_nil _ _ _ _, rfl, fun j hj => by simp at hj, fun j hj => by simp at hj⟩
theorem LW.below {base : Nat} {t : TypeId} {E : World → Rat → Rq → Prop} (L : LastsQ E) {w w' : World} {v : Value} {rs : List Rq} {zs : List Rat} (h : LW base t E w v rs zs) (hb : Below w.heap.size w w') : LW base t E w' v rs zs :=
  ⟨own_below h.own hb, h.zl, fun j hj => L.below (h.ev j hj) hb, h.off⟩
theorem LW.app {base : Nat} {t : TypeId} {E : World → Rat → Rq → Prop} (L : LastsQ E) {wr w1 w3 : World} {v : Value} {rs : List Rq} {zs : List Rat} {z : Rat} {e : Rq} {o : Obj} {g cap k : Nat} (hk : rs.length = k) (h : LW base t E wr v rs zs) (hb1 : Below wr.heap.size wr w1) (hE : E w1 z e) (hF : e.all fun b => b < base ∨ wr.heap.size ≤ b)
    (hown : w3.ownsRow base t 4 (.slice (some ⟨g, 0, none⟩) (k + 1) cap) (k + 1) (frl rs ++ [.bool e.s, .slice e.p e.n e.c, .bool e.t, .slice e.q e.m e.d])) (hgrow : (w1.alloc o).grownBy w3 v.ownBlock) (hat : v.ownBlock = some g ∨ g = (w1.alloc o).heap.size) :
    LW base t E w3 (.slice (some ⟨g, 0, none⟩) (k + 1) cap) (rs ++ [e]) (zs ++ [z]) := by
  subst hk
  have hal : Below w1.heap.size w1 (w1.alloc o) := (Below.refl _ _).alloc (Nat.le_refl _) o
  have hs1 := hb1.size
  have hs2 := hal.size
  have old : ∀ j, j < rs.length → E (w1.alloc o) (gq zs j) (gr rs j) := fun j hj => L.below (L.below (h.ev j hj) hb1) hal
  have new : E (w1.alloc o) z e := L.below hE hal
  have noff : e.all fun b => some b ≠ v.ownBlock := Rq.all_mono hF fun b hb hq => by
    have h1 := h.own.lt b hq.symm
    omega
  refine ⟨by rw [List.length_append, frl_snoc]; exact hown, by simp [h.zl], fun j hj => ?_, fun j hj => ?_⟩
  · rcases Nat.lt_or_ge j rs.length with hlt | hge
    · rw [gr_append_left _ _ _ hlt, gq_append_left _ _ _ (by rw [h.zl]; exact hlt)]
      exact L.grown (old j hlt) hgrow (h.off j hlt)
    · have : j = rs.length := by simp at hj; omega
      subst this
      have e1 : gq (zs ++ [z]) rs.length = z := by rw [← h.zl, gq_snoc]
      rw [gr_snoc, e1]
      exact L.grown new hgrow noff
  · have hnb : (.slice (some ⟨g, 0, none⟩) (rs.length + 1) cap : Value).ownBlock = some g := rfl
    rw [hnb]
    rcases Nat.lt_or_ge j rs.length with hlt | hge
    · rw [gr_append_left _ _ _ hlt]
      rcases hat with h1 | h1
      · rw [← h1]; exact h.off j hlt
      · refine Rq.all_mono (L.lt (old j hlt)) fun b hb hq => ?_
        have := Option.some.inj hq
        omega
    · have : j = rs.length := by simp at hj; omega
      subst this
      rw [gr_snoc]
      rcases hat with h1 | h1
      · rw [← h1]; exact noff
      · refine Rq.all_mono (L.lt new) fun b hb hq => ?_
        have := Option.some.inj hq
        omega
theorem owns4_form {w : World} {B n : Nat} {t : TypeId} {v : Value} {xs : List Value} (h : w.ownsRow B t 4 v n xs) : ∃ q cap, v = .slice q n cap ∧ n ≤ cap ∧ cap ≤ maxLen ∧ Go.Proofs.YtcdfckjlmifjiaaGreat.From B q ∧ (q = none → cap = 0) := by
  rcases h.2 with ⟨h1, h2⟩ | ⟨g, cap, cur, h1, h2, h3, h4, h5, _⟩
  · exact ⟨none, 0, by rw [h1, h2], by omega, Nat.zero_le _, nofun, fun _ => rfl⟩
  · exact ⟨_, cap, h1, h4, h5, fun a ha => (by cases ha; exact h2), nofun⟩
theorem owns4_rl {w : World} {B cap : Nat} {t : TypeId} {q : Option Addr} {rs : List Rq} (h : w.ownsRow B t 4 (.slice q rs.length cap) rs.length (frl rs)) : RL w q rs := fun hx => by
  obtain ⟨g, cap', h1, h2, _⟩ := h.form hx
  cases h1
  refine ⟨g, 0, rfl, fun j hj => ?_⟩
  obtain ⟨f0, f1, f2, f3⟩ := frl_get rs j hj
  have e0 := h.cells (g := g) rfl (j * 4) _ f0
  have e1 := h.cells (g := g) rfl (j * 4 + 1) _ f1
  have e2 := h.cells (g := g) rfl (j * 4 + 2) _ f2
  have e3 := h.cells (g := g) rfl (j * 4 + 3) _ f3
  rw [Addr.add_mid] at e0 e1 e2 e3
  exact ⟨e0, e1, e2, e3⟩
/-- A window: a list of rationals in memory. -/
structure WA (E : World → Rat → Rq → Prop) (w : World) (p : Option Addr) (n nc : Nat) (rs : List Rq) (zs : List Rat) : Prop where
  el : rs.length = n
  zl : zs.length = n
  cap : n ≤ nc
  bnd : nc ≤ maxLen
  pn : p = none → nc = 0
  rl : RL w p rs
  ev : ∀ j, j < n → E w (gq zs j) (gr rs j)
theorem WA.below {E : World → Rat → Rq → Prop} (L : LastsQ E) {w w' : World} {p : Option Addr} {n nc : Nat} {rs : List Rq} {zs : List Rat} (h : WA E w p n nc rs zs) (hb : Below w.heap.size w w') : WA E w' p n nc rs zs :=
  ⟨h.el, h.zl, h.cap, h.bnd, h.pn, h.rl.below hb, fun j hj => L.below (h.ev j hj) hb⟩
theorem LW.wa {base : Nat} {t : TypeId} {E : World → Rat → Rq → Prop} {w : World} {v : Value} {rs : List Rq} {zs : List Rat} (h : LW base t E w v rs zs) : ∃ q cap, v = .slice q rs.length cap ∧ WA E w q rs.length cap rs zs := by
  obtain ⟨q, cap, h1, h2, h3, h4, h5⟩ := owns4_form h.own
  have ho := h.own
  rw [h1] at ho
  exact ⟨q, cap, h1, rfl, h.zl, h2, h3, h5, owns4_rl ho, h.ev⟩
end Go.Proofs.YtcdfckjlmifjiaaGreat
/-
  What an argument of type api.Poly is, read as data.
-/
namespace Go.Proofs.YtcdfckjlmifjiaaGreat
open Go.ChangeShapes Go.WideShapes Go.ChangeAt Go.RowKit Go.Joins
set_option linter.unusedVariables false
set_option linter.unusedSimpArgs false

/-- An element as it may be handed in. -/
def RawE (w : World) (e : Ent) : Prop := ∃ xs, xs.length = e.n ∧ e.n ≤ e.c ∧ e.c ≤ maxLen ∧ Rd w e.p .u32 xs ∧ U32 xs ∧ (e.p = none → e.c = 0)
/-- A polynomial as it may be handed in. -/
structure PZ (w : World) (p : Option Addr) (n nc : Nat) (es : List Ent) : Prop where
  el : es.length = n
  cap : n ≤ nc
  bnd : nc ≤ maxLen
  pn : p = none → nc = 0
  pl : PL w p es
  ev : ∀ j, j < n → RawE w (ge es j)
theorem RawE.below {w w' : World} {e : Ent} (h : RawE w e) (hb : Below w.heap.size w w') : RawE w' e := by
  obtain ⟨xs, h1, h2, h3, h4, h5, h6⟩ := h
  exact ⟨xs, h1, h2, h3, h4.below hb, h5, h6⟩
theorem PZ.below {w w' : World} {p : Option Addr} {n nc : Nat} {es : List Ent} (h : PZ w p n nc es) (hb : Below w.heap.size w w') : PZ w' p n nc es :=
  ⟨h.el, h.cap, h.bnd, h.pn, h.pl.below hb, fun j hj => (h.ev j hj).below hb⟩
theorem cellsI2 : Tryz.prog.cellsOf 50 = 2 := by kernel_rfl
theorem cellsU : Tryz.prog.cellsOf 100 = 1 := by kernel_rfl
theorem cellsUs : Tryz.prog.cellsOf 48 = 1 := by kernel_rfl
theorem cellsB : Tryz.prog.cellsOf 4 = 1 := by kernel_rfl
/-- The element of two cells. -/
def entOf : Value → Value → Ent
  | .bool s, .slice p n c => ⟨s, p, n, c⟩
  | _, _ => ez
set_option maxRecDepth 100000 in
theorem rawCells {H : Type} {enc : TypeId × Value → H} {W : World} {fuel : Nat} {v0 v1 : Value} {y0 y1 : DataW H × List MemPlace}
    (hy0 : DataW.trod enc Tryz.prog W 0 (fun _ => true) true fuel 4 [v0] = some y0) (hy1 : DataW.trod enc Tryz.prog W 0 (fun _ => true) true fuel 48 [v1] = some y1) :
    v0 = .bool (entOf v0 v1).s ∧ v1 = .slice (entOf v0 v1).p (entOf v0 v1).n (entOf v0 v1).c ∧ RawE W (entOf v0 v1) := by
  obtain ⟨s, e0, -⟩ := DataW.trod_bool Tryz.underlying4 hy0
  simp only [List.cons.injEq, and_true] at e0
  subst e0
  rcases open_ints Tryz.underlying48 Tryz.underlying100 cellsU hy1 with ⟨hcs, -⟩ | ⟨a, len, cap, zs, hcs, -, hl, hm, hz, -, hcell, hwz⟩
  · simp only [List.cons.injEq, and_true] at hcs
    subst hcs
    exact ⟨rfl, rfl, [], rfl, Nat.le_refl _, Nat.zero_le _, Rd.nil, u32_nil, fun _ => rfl⟩
  · simp only [List.cons.injEq, and_true] at hcs
    subst hcs
    simp only [if_true] at hz
    refine ⟨rfl, rfl, zs.take len, by show (zs.take len).length = len; simp; omega, hl, hm, ?_, ?_, fun h => by cases h⟩
    · intro hp
      have hp' : 0 < zs.length := by simp at hp; omega
      obtain ⟨b, off, rfl, hc⟩ := ints_at hcell hp'
      refine ⟨b, off, rfl, fun j hj => ?_⟩
      have hj' : j < len ∧ j < zs.length := by simp at hj; omega
      rw [gx_take _ _ _ hj'.1]
      exact hc j hj'.2
    · refine u32_take (fun j => ?_) len
      by_cases hj : j < zs.length
      · have := hwz zs[j] (List.getElem_mem hj)
        rw [gx_mem zs j hj]
        have h4 : 0 ≤ zs[j] ∧ zs[j] ≤ 4294967295 := by
          simpa [Lit.wf, IntKind.min, IntKind.max, IntKind.signed, IntKind.bits] using this
        exact ⟨h4.1, by omega⟩
      · rw [gx_past zs _ (Nat.le_refl _) j (by omega)]; decide
end Go.Proofs.YtcdfckjlmifjiaaGreat
/-
  What an argument of type []api.Rat is, read as data.
-/
namespace Go.Proofs.YtcdfckjlmifjiaaGreat
open Go.ChangeShapes Go.WideShapes Go.ChangeAt Go.RowKit Go.Joins
set_option linter.unusedVariables false
set_option linter.unusedSimpArgs false

/-- An element as it may be handed in. -/
def RawQ (w : World) (e : Rq) : Prop := RawE w ⟨e.s, e.p, e.n, e.c⟩ ∧ RawE w ⟨e.t, e.q, e.m, e.d⟩
/-- A window as it may be handed in. -/
structure WZ (w : World) (p : Option Addr) (n nc : Nat) (rs : List Rq) : Prop where
  el : rs.length = n
  cap : n ≤ nc
  bnd : nc ≤ maxLen
  pn : p = none → nc = 0
  rl : RL w p rs
  ev : ∀ j, j < n → RawQ w (gr rs j)
theorem WZ.below {w w' : World} {p : Option Addr} {n nc : Nat} {rs : List Rq} (h : WZ w p n nc rs) (hb : Below w.heap.size w w') : WZ w' p n nc rs :=
  ⟨h.el, h.cap, h.bnd, h.pn, h.rl.below hb, fun j hj => ⟨(h.ev j hj).1.below hb, (h.ev j hj).2.below hb⟩⟩
theorem raw_of_arg {w : World} {c0 c1 : Value} (h : IntArg w (.agg #[c0, c1])) : ∃ s p n c, c0 = .bool s ∧ c1 = .slice p n c ∧ RawE w ⟨s, p, n, c⟩ := by
  obtain ⟨s, p, n, c, xs, h1, h2, h3, h4, h5, h6, h7⟩ := h
  simp only [Value.agg.injEq, Array.mk.injEq, List.cons.injEq, and_true] at h1
  exact ⟨s, p, n, c, h1.1, h1.2, xs, h2, h3, h4, h5, h6, h7⟩
instance : Inhabited Rq := ⟨rqz⟩
set_option maxRecDepth 100000 in
theorem openRats {H : Type} {enc : TypeId × Value → H} {W : World} {base : Nat} {v0 : Value} {d0 : DataW H} {p0 : List MemPlace} (hv : Value.okWide Tryz.prog W .any base 24 v0)
    (h0 : DataW.Trod enc Tryz.prog W 0 (fun _ => true) true 24 v0 d0 p0) : ∃ (p : Option Addr) (n nc : Nat) (rs : List Rq), v0 = .slice p n nc ∧ WZ W p n nc rs := by
  obtain ⟨a0, len, cap, rfl⟩ := okWide_slice Tryz.underlying24 hv
  obtain ⟨fuel, hf⟩ := h0
  rcases Go.Deep.open_slice Tryz.underlying24 hf with ⟨hcs, -⟩ | ⟨a, len', cap', m, k, D, P0, hcs, -, hl, hm, hmm, -, hcell⟩
  · simp [Value.cells] at hcs
    obtain ⟨rfl, rfl, rfl⟩ := hcs
    exact ⟨none, 0, 0, [], rfl, ⟨rfl, Nat.le_refl _, Nat.zero_le _, fun _ => rfl, RL.nil, fun j hj => absurd hj (by omega)⟩⟩
  · simp [Value.cells] at hcs
    obtain ⟨rfl, rfl, rfl⟩ := hcs
    simp only [if_true] at hmm
    have each : ∀ i, i < len → ∃ e : Rq, (W.cell? (a.add (i * 4)) = some (.bool e.s) ∧ W.cell? (a.add (i * 4 + 1)) = some (.slice e.p e.n e.c) ∧ W.cell? (a.add (i * 4 + 2)) = some (.bool e.t) ∧ W.cell? (a.add (i * 4 + 3)) = some (.slice e.q e.m e.d)) ∧ RawQ W e := by
      intro i hi
      obtain ⟨cs', h1, h2⟩ := hcell i (by omega)
      rw [cellsRat] at h1
      obtain ⟨_, hlen, hc⟩ := World.cells?_some h1
      match cs', hlen with
      | [c0, c1, c2, c3], _ =>
        obtain ⟨y0, y1, n, hx, -, hy0, hy1⟩ := trod_struct2 Tryz.underlying56 h2
        simp only [cellsInt, List.drop_zero, List.drop_succ_cons, List.take_succ_cons, List.take_zero] at hy0 hy1
        obtain ⟨s, p, n1, c, rfl, rfl, r1⟩ := raw_of_arg (intCells hy0)
        obtain ⟨t, q, m1, d, rfl, rfl, r2⟩ := raw_of_arg (intCells hy1)
        have e0 := hc 0 (by omega)
        have e1 := hc 1 (by omega)
        have e2 := hc 2 (by omega)
        have e3 := hc 3 (by omega)
        rw [Go.Deep.add_add] at e0 e1 e2 e3
        exact ⟨⟨s, p, n1, c, t, q, m1, d⟩, ⟨by simpa using e0, by simpa using e1, by simpa using e2, by simpa using e3⟩, r1, r2⟩
    obtain ⟨E, hE⟩ := Go.Deep.choose_lt each
    have hge : ∀ i, i < len → gr ((List.range len).map E) i = E i := fun i hi => by simp [gr, hi]
    refine ⟨some a, len, cap, (List.range len).map E, rfl, ⟨by simp, hl, hm, nofun, ?_, fun j hj => by rw [hge j hj]; exact (hE j hj).2⟩⟩
    intro hp
    have hp' : 0 < len := by simpa using hp
    obtain ⟨b, off, spot⟩ := a
    have hspot : spot = none := by simpa [Addr.add] using World.cell?_spot (hE 0 (by omega)).1.1
    subst hspot
    refine ⟨b, off, rfl, fun j hj => ?_⟩
    have hj' : j < len := by simpa using hj
    obtain ⟨⟨c0, c1, c2, c3⟩, -⟩ := hE j hj'
    rw [hge j hj']
    rw [add_plain] at c0 c1 c2 c3
    exact ⟨c0, c1, c2, c3⟩
end Go.Proofs.YtcdfckjlmifjiaaGreat
