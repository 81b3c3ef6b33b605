/-
  Lists of the reference that grow by append; ashlarref3.Of.
-/
import Derived.Test.YtebdbfbicbndlaaGreatDoorVa
import Derived.Test.YtebdbfbicbndlaaGreatDoorVg
import Derived.Test.YtebdbfbicbndlaaGreatDoorRo
import Derived.Test.YtebdbfbicbndlaaGreatDoorUbUc
namespace Go.Proofs.YtebdbfbicbndlaaGreatDoor
open Go.RowKit
set_option linter.unusedVariables false
set_option linter.unusedSimpArgs false

theorem Rd.grown {w w' : World} {p : Option Addr} {k : IntKind} {xs : List Int} {row : Option Nat} (h : Rd w p k xs) (hg : w.grownBy w' row) (hne : 0 < xs.length → ∀ a, p = some a → some a.block ≠ row) : Rd w' p k xs := fun hx => h.kept hg (hne hx) hx
theorem RE.grown {w w' : World} {N : Nat} {z : Int} {e : Ent} {row : Option Nat} (h : RE w N z e) (hg : w.grownBy w' row) (hne : 0 < e.n → ∀ a, e.p = some a → some a.block ≠ row) : RE w' N z e := by
  obtain ⟨⟨ds, h1, h2, h3⟩, h4⟩ := h
  exact ⟨⟨ds, ⟨h1.len, h1.rd.grown hg (by rw [h1.len]; exact hne), h1.u, h1.nrm, h1.sg, h1.sml⟩, h2, h3⟩, h4⟩
theorem RE.lt {w : World} {N : Nat} {z : Int} {e : Ent} (h : RE w N z e) : 0 < e.n → ∀ a, e.p = some a → a.block < w.heap.size := by
  obtain ⟨⟨ds, h1, h2, h3⟩, h4⟩ := h
  exact h1.lt
/-- A list that grows. -/
structure LR (base : Nat) (w : World) (N : Nat) (v : Value) (es : List Ent) (zs : List Int) : Prop where
  own : w.ownsRow base 47 2 v es.length (fl es)
  zl : zs.length = es.length
  ev : ∀ j, j < es.length → RE w N (gx zs j) (ge es j)
  off : ∀ j, j < es.length → 0 < (ge es j).n → ∀ a, (ge es j).p = some a → some a.block ≠ v.ownBlock
theorem LR.nil (base : Nat) (w : World) (N : Nat) : LR base w N (.slice none 0 0) [] [] := ⟨World.ownsRow_nil _ _ _ _, rfl, fun j hj => by simp at hj, fun j hj => by simp at hj⟩
theorem LR.app {base : Nat} {wr w1 w3 : World} {N : Nat} {v : Value} {es : List Ent} {zs : List Int} {z : Int} {e : Ent} {o : Obj} {g cap : Nat} (h : LR base wr N v es zs) (hb1 : Below wr.heap.size wr w1) (hE : RE w1 N z e) (hF : Go.Proofs.YtebdbfbicbndlaaGreatDoor.From wr.heap.size e.p)
    (hown : w3.ownsRow base 47 2 (.slice (some ⟨g, 0, none⟩) (es.length + 1) cap) (es.length + 1) (fl es ++ [.bool e.s, .slice e.p e.n e.c])) (hgrow : (w1.alloc o).grownBy w3 v.ownBlock) (hat : v.ownBlock = some g ∨ g = (w1.alloc o).heap.size) :
    LR base w3 N (.slice (some ⟨g, 0, none⟩) (es.length + 1) cap) (es ++ [e]) (zs ++ [z]) := by
  have hal : Below w1.heap.size w1 (w1.alloc o) := (Below.refl _ _).alloc (Nat.le_refl _) o
  have hs1 := hb1.size
  have hs2 := hal.size
  have old : ∀ j, j < es.length → RE (w1.alloc o) N (gx zs j) (ge es j) := fun j hj => ((h.ev j hj).below hb1).below hal
  have new : RE (w1.alloc o) N z e := hE.below hal
  have noff : 0 < e.n → ∀ a, e.p = some a → some a.block ≠ v.ownBlock := fun _ a ha hq => by
    have h1 := (h.own.lt a.block hq.symm).2
    have h2 := hF a ha
    omega
  refine ⟨by rw [List.length_append, fl_snoc]; exact hown, by simp [h.zl], fun j hj => ?_, fun j hj hn a ha hq => ?_⟩
  · rcases Nat.lt_or_ge j es.length with hlt | hge
    · rw [ge_append_left _ _ _ hlt, gx_append_left _ _ _ (by rw [h.zl]; exact hlt)]
      exact (old j hlt).grown hgrow (h.off j hlt)
    · have : j = es.length := by simp at hj; omega
      subst this
      have e1 : gx (zs ++ [z]) es.length = z := by rw [← h.zl, gx_append_right _ _ _ (Nat.le_refl _), Nat.sub_self]; rfl
      rw [ge_snoc, e1]
      exact new.grown hgrow noff
  · have hq' : a.block = g := Option.some.inj hq
    rcases Nat.lt_or_ge j es.length with hlt | hge
    · rw [ge_append_left _ _ _ hlt] at hn ha
      rcases hat with h1 | h1
      · exact h.off j hlt hn a ha (by rw [h1, hq'])
      · have := (old j hlt).lt hn a ha
        omega
    · have : j = es.length := by simp at hj; omega
      subst this
      rw [ge_snoc] at hn ha
      rcases hat with h1 | h1
      · exact noff hn a ha (by rw [h1, hq'])
      · have := new.lt hn a ha
        omega
theorem LR.pr {base : Nat} {w : World} {N : Nat} {v : Value} {es : List Ent} {zs : List Int} (h : LR base w N v es zs) : ∃ q cap, v = .slice q es.length cap ∧ PR w N q es.length cap es zs ∧ Go.Proofs.YtebdbfbicbndlaaGreatDoor.From base q := by
  obtain ⟨q, cap, h1, h2, h3, h4, -⟩ := owns2_form h.own
  have ho := h.own
  rw [h1] at ho
  exact ⟨q, cap, h1, ⟨rfl, h.zl, h2, h3, owns2_pl ho, h.ev⟩, h4⟩
end Go.Proofs.YtebdbfbicbndlaaGreatDoor
