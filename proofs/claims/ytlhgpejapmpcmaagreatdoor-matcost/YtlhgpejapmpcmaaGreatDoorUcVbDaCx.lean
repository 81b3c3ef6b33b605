/-
  Lists of numbers that are made.
-/
import Derived.Test.YtlhgpejapmpcmaaGreatDoorRwNjUbVa
import Derived.Test.YtlhgpejapmpcmaaGreatDoorWk
import Derived.Test.YtlhgpejapmpcmaaGreatDoorOfVg
import Derived.Test.YtlhgpejapmpcmaaGreatDoorRo
import Derived.Test.YtlhgpejapmpcmaaGreatDoorBbCvDj
import Derived.Test.YtlhgpejapmpcmaaGreatDoorReRxRf
namespace Go.Proofs.YtlhgpejapmpcmaaGreatDoor
open Go.RowKit
set_option linter.unusedVariables false
set_option linter.unusedSimpArgs false

def ezs (n : Nat) : List Ent := List.replicate n ez
theorem length_ezs (n : Nat) : (ezs n).length = n := by simp [ezs]
theorem ge_ezs (n i : Nat) : ge (ezs n) i = ez := by
  unfold ge ezs
  by_cases h : i < n
  · simp [List.getElem?_replicate, h]
  · simp [List.getElem?_replicate, h]
theorem made_ez (n : Nat) : madeCells #[.bool false, .slice none 0 0] (n * 2) = ca2 (ezs n) := by
  apply Array.ext
  · simp [size_madeCells, size_ca2, length_ezs]
  · intro i h1 h2
    have hl : i < n * 2 := by simpa [size_madeCells] using h1
    have hj : i / 2 < (ezs n).length := by rw [length_ezs]; omega
    obtain ⟨g0, g1⟩ := flat_get (ezs n) (i / 2) hj
    have e : (ca2 (ezs n))[i]? = ((ezs n).flatMap fun e => [Value.bool e.s, .slice e.p e.n e.c])[i]? := by unfold ca2; exact List.getElem?_toArray
    rw [Array.getElem?_eq_getElem h2] at e
    rcases Nat.mod_two_eq_zero_or_one i with h | h
    · have hi : i / 2 * 2 = i := by omega
      rw [hi, ← e, ge_ezs] at g0
      rw [Option.some.inj g0]
      simp [madeCells, h, ez]
    · have hi : i / 2 * 2 + 1 = i := by omega
      rw [hi, ← e, ge_ezs] at g1
      rw [Option.some.inj g1]
      simp [madeCells, h, ez]
theorem info_api : (Tryz.prog.info? 58).map (fun i => (i.zero, i.size, i.bytes)) = some (some (.agg #[.bool false, .slice none 0 0]), 2, 32) := by kernel_rfl
theorem mk_poly (n : Nat) (h : n ≤ 1000000000) (w : World) : (Instr.makeSlice 37 (.int .i64 n) (.int .i64 n)).run Tryz.prog w =
    .ok (.slice (some ⟨w.heap.size, 0, none⟩) n n) (w.alloc (.cells (ca2 (ezs n)) 58)) := by
  have hi := info_api
  cases hq : Tryz.prog.info? 58 with
  | none => rw [hq] at hi; cases hi
  | some i =>
    rw [hq] at hi
    simp only [Option.map_some, Option.some.injEq, Prod.mk.injEq] at hi
    obtain ⟨h1, h2, h3⟩ := hi
    have hr := run_make (P := Tryz.prog) w 37 58 i (.agg #[.bool false, .slice none 0 0]) Tryz.underlying37 hq h1 .i64 .i64 n n (by omega) (Int.le_refl _) (by rw [h3]; omega) (by omega)
    rw [Int.toNat_natCast, h2] at hr
    rw [hr]
    exact congrArg (fun c => Result.ok (Value.slice (some ⟨w.heap.size, 0, none⟩) n n) (w.alloc (.cells c 58))) (made_ez n)
end Go.Proofs.YtlhgpejapmpcmaaGreatDoor
/-
  Lists of the reference that grow by append; ashlarref3.Of.
-/
namespace Go.Proofs.YtlhgpejapmpcmaaGreatDoor
open Go.RowKit
set_option linter.unusedVariables false
set_option linter.unusedSimpArgs false

theorem Rd.grown {w w' : World} {p : Option Addr} {k : IntKind} {xs : List Int} {row : Option Nat} (h : Rd w p k xs) (hg : w.grownBy w' row) (hne : 0 < xs.length → ∀ a, p = some a → some a.block ≠ row) : Rd w' p k xs := fun hx => h.kept hg (hne hx) hx
theorem RE.grown {w w' : World} {N : Nat} {z : Int} {e : Ent} {row : Option Nat} (h : RE w N z e) (hg : w.grownBy w' row) (hne : 0 < e.n → ∀ a, e.p = some a → some a.block ≠ row) : RE w' N z e := by
  obtain ⟨⟨ds, h1, h2, h3⟩, h4⟩ := h
  exact ⟨⟨ds, ⟨h1.len, h1.rd.grown hg (by rw [h1.len]; exact hne), h1.u, h1.nrm, h1.sg, h1.sml⟩, h2, h3⟩, h4⟩
theorem RE.lt {w : World} {N : Nat} {z : Int} {e : Ent} (h : RE w N z e) : 0 < e.n → ∀ a, e.p = some a → a.block < w.heap.size := by
  obtain ⟨⟨ds, h1, h2, h3⟩, h4⟩ := h
  exact h1.lt
/-- A list that grows. -/
structure LR (base : Nat) (w : World) (N : Nat) (v : Value) (es : List Ent) (zs : List Int) : Prop where
  own : w.ownsRow base 62 2 v es.length (fl es)
  zl : zs.length = es.length
  ev : ∀ j, j < es.length → RE w N (gx zs j) (ge es j)
  off : ∀ j, j < es.length → 0 < (ge es j).n → ∀ a, (ge es j).p = some a → some a.block ≠ v.ownBlock
theorem LR.nil (base : Nat) (w : World) (N : Nat) : LR base w N (.slice none 0 0) [] [] := ⟨World.ownsRow_nil _ _ _ _, rfl, fun j hj => by simp at hj, fun j hj => by simp at hj⟩
theorem LR.app {base : Nat} {wr w1 w3 : World} {N : Nat} {v : Value} {es : List Ent} {zs : List Int} {z : Int} {e : Ent} {o : Obj} {g cap : Nat} (h : LR base wr N v es zs) (hb1 : Below wr.heap.size wr w1) (hE : RE w1 N z e) (hF : Go.Proofs.YtlhgpejapmpcmaaGreatDoor.From wr.heap.size e.p)
    (hown : w3.ownsRow base 62 2 (.slice (some ⟨g, 0, none⟩) (es.length + 1) cap) (es.length + 1) (fl es ++ [.bool e.s, .slice e.p e.n e.c])) (hgrow : (w1.alloc o).grownBy w3 v.ownBlock) (hat : v.ownBlock = some g ∨ g = (w1.alloc o).heap.size) :
    LR base w3 N (.slice (some ⟨g, 0, none⟩) (es.length + 1) cap) (es ++ [e]) (zs ++ [z]) := by
  have hal : Below w1.heap.size w1 (w1.alloc o) := (Below.refl _ _).alloc (Nat.le_refl _) o
  have hs1 := hb1.size
  have hs2 := hal.size
  have old : ∀ j, j < es.length → RE (w1.alloc o) N (gx zs j) (ge es j) := fun j hj => ((h.ev j hj).below hb1).below hal
  have new : RE (w1.alloc o) N z e := hE.below hal
  have noff : 0 < e.n → ∀ a, e.p = some a → some a.block ≠ v.ownBlock := fun _ a ha hq => by
    have h1 := (h.own.lt a.block hq.symm).2
    have h2 := hF a ha
    omega
  refine ⟨by rw [List.length_append, fl_snoc]; exact hown, by simp [h.zl], fun j hj => ?_, fun j hj hn a ha hq => ?_⟩
  · rcases Nat.lt_or_ge j es.length with hlt | hge
    · rw [ge_append_left _ _ _ hlt, gx_append_left _ _ _ (by rw [h.zl]; exact hlt)]
      exact (old j hlt).grown hgrow (h.off j hlt)
    · have : j = es.length := by simp at hj; omega
      subst this
      have e1 : gx (zs ++ [z]) es.length = z := by rw [← h.zl, gx_append_right _ _ _ (Nat.le_refl _), Nat.sub_self]; rfl
      rw [ge_snoc, e1]
      exact new.grown hgrow noff
  · have hq' : a.block = g := Option.some.inj hq
    rcases Nat.lt_or_ge j es.length with hlt | hge
    · rw [ge_append_left _ _ _ hlt] at hn ha
      rcases hat with h1 | h1
      · exact h.off j hlt hn a ha (by rw [h1, hq'])
      · have := (old j hlt).lt hn a ha
        omega
    · have : j = es.length := by simp at hj; omega
      subst this
      rw [ge_snoc] at hn ha
      rcases hat with h1 | h1
      · exact noff hn a ha (by rw [h1, hq'])
      · have := new.lt hn a ha
        omega
theorem LR.pr {base : Nat} {w : World} {N : Nat} {v : Value} {es : List Ent} {zs : List Int} (h : LR base w N v es zs) : ∃ q cap, v = .slice q es.length cap ∧ PR w N q es.length cap es zs ∧ Go.Proofs.YtlhgpejapmpcmaaGreatDoor.From base q := by
  obtain ⟨q, cap, h1, h2, h3, h4, -⟩ := owns2_form h.own
  have ho := h.own
  rw [h1] at ho
  exact ⟨q, cap, h1, ⟨rfl, h.zl, h2, h3, owns2_pl ho, h.ev⟩, h4⟩
end Go.Proofs.YtlhgpejapmpcmaaGreatDoor
/-
  Numbers of the reference: the type, what a function answers.
-/
namespace Go.Proofs.YtlhgpejapmpcmaaGreatDoor
open Go.RowKit
set_option linter.unusedVariables false
set_option linter.unusedSimpArgs false

theorem info_ref : (Tryz.prog.info? 62).map (fun i => (i.zero, i.size, i.bytes)) = some (some (.agg #[.bool false, .slice none 0 0]), 2, 32) := by kernel_rfl
theorem lr_app {base : Nat} {wr w1 w3 : World} {N : Nat} {v : Value} {es : List Ent} {zs : List Int} {z : Int} {s : Bool} {p : Option Addr} {n k : Nat} {o : Obj} {g cap : Nat} (hk : es.length = k) (h : LR base wr N v es zs) (hb1 : Below wr.heap.size wr w1) (hE : RE w1 N z ⟨s, p, n, n⟩) (hF : Go.Proofs.YtlhgpejapmpcmaaGreatDoor.From wr.heap.size p)
    (hown : w3.ownsRow base 62 2 (.slice (some ⟨g, 0, none⟩) (k + 1) cap) (k + 1) (fl es ++ [.bool s, .slice p n n])) (hgrow : (w1.alloc o).grownBy w3 v.ownBlock) (hat : v.ownBlock = some g ∨ g = (w1.alloc o).heap.size) :
    LR base w3 N (.slice (some ⟨g, 0, none⟩) (k + 1) cap) (es ++ [⟨s, p, n, n⟩]) (zs ++ [z]) := by
  subst hk
  exact h.app hb1 hE hF hown hgrow hat
/-- What a function of the reference answers that gives a polynomial: no zero at its end. -/
def PrP (zs : List Int) (N : Nat) (w : World) (e : Ending) (w' : World) : Prop :=
  ∃ p n es, e = .returned (.slice p n n) ∧ PR w' N p n n es zs ∧ Go.Proofs.YtlhgpejapmpcmaaGreatDoor.From w.heap.size p ∧ tlen zs = n ∧ Below w.heap.size w w'
end Go.Proofs.YtlhgpejapmpcmaaGreatDoor
/-
  What the walks of the laws share: numbers and boxes carried on.
-/
namespace Go.Proofs.YtlhgpejapmpcmaaGreatDoor
open Go.RowKit
set_option linter.unusedVariables false
set_option linter.unusedSimpArgs false

/-- A number in a variable of its own: the variable's block, its sign, its limbs, from block F on. -/
structure Vr (w : World) (g : Nat) (s : Bool) (p : Option Addr) (n nc F : Nat) (xs : List Int) : Prop where
  b : Bx w g (.bool s) (.slice p n nc)
  a : AI w p n nc xs
  f : Go.Proofs.YtlhgpejapmpcmaaGreatDoor.From F p
theorem Vr.later {w w' : World} {g : Nat} {s : Bool} {p : Option Addr} {n nc F : Nat} {xs : List Int} (h : Vr w g s p n nc F xs) (hb : Below w.heap.size w w') : Vr w' g s p n nc F xs := ⟨h.b.later hb, h.a.below hb, h.f⟩
end Go.Proofs.YtlhgpejapmpcmaaGreatDoor
