/-
  Lists of numbers that grow by append, whatever the elements are.
-/
import Derived.Test.YtkbgeggflhfleaaGreatDoorUa
import Derived.Test.YtkbgeggflhfleaaGreatDoorUbUcUd
namespace Go.Proofs.YtkbgeggflhfleaaGreatDoor
open Go.RowKit
set_option linter.unusedVariables false
set_option linter.unusedSimpArgs false
set_option maxHeartbeats 8000000
def fl (es : List Ent) : List Value := es.flatMap fun e => [.bool e.s, .slice e.p e.n e.c]
structure LG (base : Nat) (t : TypeId) (E : World → Int → Ent → Prop) (w : World) (v : Value) (es : List Ent) (zs : List Int) : Prop where
  own : w.ownsRow base t 2 v es.length (fl es)
  zl : zs.length = es.length
  ev : ∀ j, j < es.length → E w (gx zs j) (ge es j)
  off : ∀ j, j < es.length → 0 < (ge es j).n → ∀ a, (ge es j).p = some a → some a.block ≠ v.ownBlock
theorem owns2_form {w : World} {B n : Nat} {t : TypeId} {v : Value} {xs : List Value} (h : w.ownsRow B t 2 v n xs) : ∃ q cap, v = .slice q n cap ∧ n ≤ cap ∧ cap ≤ maxLen ∧ Go.Proofs.YtkbgeggflhfleaaGreatDoor.From B q ∧ (q = none → cap = 0) := by
  rcases h.2 with ⟨h1, h2⟩ | ⟨g, cap, cur, h1, h2, h3, h4, h5, _⟩
  · exact ⟨none, 0, by rw [h1, h2], by omega, Nat.zero_le _, nofun, fun _ => rfl⟩
  · exact ⟨_, cap, h1, h4, h5, fun a ha => (by cases ha; exact h2), nofun⟩
theorem owns2_pl {w : World} {B cap : Nat} {t : TypeId} {q : Option Addr} {es : List Ent} (h : w.ownsRow B t 2 (.slice q es.length cap) es.length (fl es)) : PL w q es := fun hx => by
  obtain ⟨g, cap', h1, h2, _⟩ := h.form hx
  cases h1
  refine ⟨g, 0, rfl, fun j hj => ?_⟩
  obtain ⟨f0, f1⟩ := flat_get es j hj
  have e0 := h.cells (g := g) rfl (j * 2) _ f0
  have e1 := h.cells (g := g) rfl (j * 2 + 1) _ f1
  rw [Addr.add_mid] at e0 e1
  exact ⟨e0, e1⟩
theorem LG.pl {base : Nat} {t : TypeId} {E : World → Int → Ent → Prop} {w : World} {v : Value} {es : List Ent} {zs : List Int} (h : LG base t E w v es zs) : ∃ q cap, v = .slice q es.length cap ∧ es.length ≤ cap ∧ cap ≤ maxLen ∧ PL w q es ∧ Go.Proofs.YtkbgeggflhfleaaGreatDoor.From base q ∧ (q = none → cap = 0) := by
  obtain ⟨q, cap, h1, h2, h3, h4, h5⟩ := owns2_form h.own
  have ho := h.own
  rw [h1] at ho
  exact ⟨q, cap, h1, h2, h3, owns2_pl ho, h4, h5⟩
theorem Of_e (a : Int) (w : World) (h0 : -9223372036854775808 ≤ a) (h1 : a ≤ 9223372036854775807) : Calls Tryz.prog 28 #[.int .i64 a] w fun r w' => ∃ u : Ent, r = .returned (.agg #[.bool u.s, .slice u.p u.n u.c]) ∧ NV w.heap.size w' 2 a u ∧ Below w.heap.size w w' := by
  refine (Of_any a w h0 h1).mono ?_
  rintro e w' ⟨s', p', n', zs, rfl, g1, g2, g3⟩
  exact ⟨⟨s', p', n', n'⟩, rfl, ⟨zs, g1, rfl, g2⟩, g3⟩
end Go.Proofs.YtkbgeggflhfleaaGreatDoor
