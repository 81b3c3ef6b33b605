/-
  ashlarref1.Bits, and that it is limbs.Bits' number.
-/
import Derived.Test.YtifebbacnlhggaaGreatDoorLnWrIbWg
import Derived.Test.YtifebbacnlhggaaGreatDoorVaVgRo
import Derived.Test.YtifebbacnlhggaaGreatDoorDpAaAbDnDoAcDsAeAfBnBoBrBpAhAdDtAgAiVd
import Derived.Test.YtifebbacnlhggaaGreatDoorUjBsLeUkUiWiWjUlDdReRx
import Derived.Test.YtifebbacnlhggaaGreatDoorRpDkDlDbRiRjRg
import Derived.Test.YtifebbacnlhggaaGreatDoorRfRhCqRrRw
import Derived.Deep.DeepFit
import Derived.Test.YtifebbacnlhggaaGreatDoorVbDaCxRb
import Derived.Test.YtifebbacnlhggaaGreatDoorByDqUxUtUvUwUyUzUrUsHaHbHcWvUhHeVv
import Derived.Test.YtifebbacnlhggaaGreatDoorDcUmUoDmDvPmHuVsVt
import Derived.Test.YtifebbacnlhggaaGreatDoorEq
import Derived.Test.YtifebbacnlhggaaGreatDoorVkJoNcOn
namespace Go.Proofs.YtifebbacnlhggaaGreatDoor
open Go.RowKit
set_option linter.unusedVariables false
set_option linter.unusedSimpArgs false

end Go.Proofs.YtifebbacnlhggaaGreatDoor
/-
  ashlarref3.Deg.
-/
namespace Go.Proofs.YtifebbacnlhggaaGreatDoor
open Go.RowKit
set_option linter.unusedVariables false
set_option linter.unusedSimpArgs false

end Go.Proofs.YtifebbacnlhggaaGreatDoor
/-
  ashlarref3.Deg, Bits.
-/
namespace Go.Proofs.YtifebbacnlhggaaGreatDoor
open Go.RowKit
set_option linter.unusedVariables false
set_option linter.unusedSimpArgs false

end Go.Proofs.YtifebbacnlhggaaGreatDoor
/-
  ashlarref1.Sign, Cmp.
-/
namespace Go.Proofs.YtifebbacnlhggaaGreatDoor
open Go.RowKit
set_option linter.unusedVariables false
set_option linter.unusedSimpArgs false

end Go.Proofs.YtifebbacnlhggaaGreatDoor
/-
  ashlarref3.Eq.
-/
namespace Go.Proofs.YtifebbacnlhggaaGreatDoor
open Go.RowKit
set_option linter.unusedVariables false
set_option linter.unusedSimpArgs false

end Go.Proofs.YtifebbacnlhggaaGreatDoor
/-
  ashlarref3.Of.
-/
namespace Go.Proofs.YtifebbacnlhggaaGreatDoor
open Go.RowKit
set_option linter.unusedVariables false
set_option linter.unusedSimpArgs false

end Go.Proofs.YtifebbacnlhggaaGreatDoor
/-
  The reference's operators: Is, Eq, Lead, Order, Degree, Bits, Sub.
-/
namespace Go.Proofs.YtifebbacnlhggaaGreatDoor
open Go.RowKit
set_option linter.unusedVariables false
set_option linter.unusedSimpArgs false

end Go.Proofs.YtifebbacnlhggaaGreatDoor
/-
  upoly.Sub (out of Py).
-/
namespace Go.Proofs.YtifebbacnlhggaaGreatDoor
open Go.RowKit
set_option linter.unusedVariables false
set_option linter.unusedSimpArgs false

end Go.Proofs.YtifebbacnlhggaaGreatDoor
/-
  ore.Sub (out of Ad).
-/
namespace Go.Proofs.YtifebbacnlhggaaGreatDoor
open Go.RowKit
set_option linter.unusedVariables false
set_option linter.unusedSimpArgs false

end Go.Proofs.YtifebbacnlhggaaGreatDoor
/-
  ashlarref8.Degree, Bits (out of Ak).
-/
namespace Go.Proofs.YtifebbacnlhggaaGreatDoor
open Go.RowKit
set_option linter.unusedVariables false
set_option linter.unusedSimpArgs false

end Go.Proofs.YtifebbacnlhggaaGreatDoor
/-
  Rows of one and two integers, made new (out of Di).
-/
namespace Go.Proofs.YtifebbacnlhggaaGreatDoor
open Go.RowKit
set_option linter.unusedVariables false
set_option linter.unusedSimpArgs false

end Go.Proofs.YtifebbacnlhggaaGreatDoor
/-
  The reference's operators: Degree, Bits, Sub.
-/
namespace Go.Proofs.YtifebbacnlhggaaGreatDoor
open Go.RowKit
set_option linter.unusedVariables false
set_option linter.unusedSimpArgs false

theorem EY.le {N E N' E' : Nat} {w : World} {B T : Nat} {z : List Int} {h : Hdr} (k : EY N E w B T z h) (hN : N ≤ N') (hE : E ≤ E') : EY N' E' w B T z h := by
  obtain ⟨fs, a, b, c, d, e⟩ := k
  exact ⟨fs, ⟨a.el, a.zl, a.cap, a.bnd, a.pl, fun j hj => (a.ev j hj).wide hN⟩, b, c, Nat.le_trans d hE, e⟩
theorem HR.le {N E N' E' D : Nat} {w : World} {B T : Nat} {z : List (List Int)} {h : Hdr} (k : HR D (EY N E) w B T z h) (hN : N ≤ N') (hE : E ≤ E') : HR D (EY N' E') w B T z h := by
  obtain ⟨hs, a⟩ := k
  exact ⟨hs, a.el, a.tl, a.cap, a.bnd, a.pn, a.few, a.hl, a.at_, fun j hj => (a.ev j hj).le hN hE⟩
end Go.Proofs.YtifebbacnlhggaaGreatDoor
/-
  Plain facts on operators' normal forms.
-/
namespace Go.Proofs.YtifebbacnlhggaaGreatDoor
open Go.RowKit
set_option linter.unusedVariables false
set_option linter.unusedSimpArgs false

end Go.Proofs.YtifebbacnlhggaaGreatDoor
/-
  What lasts while its own memory does; ore.convert with a function that writes elsewhere.
-/
namespace Go.Proofs.YtifebbacnlhggaaGreatDoor
open Go.RowKit
set_option linter.unusedVariables false
set_option linter.unusedSimpArgs false

/-- What is said of an element, whose memory lies from B to T, hangs on that memory alone. -/
def LastsB {α : Type} (E : World → Nat → Nat → α → Hdr → Prop) : Prop :=
  ∀ {w w' : World} {B T : Nat} {z : α} {h : Hdr}, E w B T z h → T ≤ w.heap.size → (∀ b, B ≤ b → b < T → w'.heap[b]? = w.heap[b]?) → E w' B T z h
theorem EV.same {w w' : World} {K : Nat} {z : Int} {e : Ent} (h : EV w K z e) (hs : 0 < e.n → ∀ a, e.p = some a → w'.heap[a.block]? = w.heap[a.block]?) : EV w' K z e := by
  obtain ⟨xs, k, h2⟩ := h
  refine ⟨xs, ⟨k.len, k.cap, k.bnd, k.sml, fun hx => (k.rd.same fun a ha _ => hs ?_ a ha) hx, k.u⟩, h2⟩
  rw [← k.len]
  exact hx
theorem RE.same {w w' : World} {N : Nat} {z : Int} {e : Ent} (h : RE w N z e) (hs : 0 < e.n → ∀ a, e.p = some a → w'.heap[a.block]? = w.heap[a.block]?) : RE w' N z e := by
  obtain ⟨⟨ds, k, h2⟩, h3⟩ := h
  refine ⟨⟨ds, ⟨k.len, fun hx => (k.rd.same fun a ha _ => hs ?_ a ha) hx, k.u, k.nrm, k.sg, k.sml⟩, h2⟩, h3⟩
  rw [← k.len]
  exact hx
/-- Of what was there, only blocks from lo to base may have changed. -/
structure Kq (lo base : Nat) (w w' : World) : Prop where
  os : w'.os = w.os
  tape : w'.tape = w.tape
  output : w'.output = w.output
  size : w.heap.size ≤ w'.heap.size
  block : ∀ k, k < w.heap.size → (k < lo ∨ base ≤ k) → w'.heap[k]? = w.heap[k]?
section
variable {lo base : Nat} {w w1 w2 : World}
theorem Kq.refl (lo base : Nat) (w : World) : Kq lo base w w := ⟨rfl, rfl, rfl, Nat.le_refl _, fun _ _ _ => rfl⟩
theorem Kq.of (h : Below w.heap.size w w1) : Kq lo base w w1 := ⟨h.os, h.tape, h.output, h.size, fun k hk _ => h.block k hk⟩
theorem Kq.trans (h : Kq lo base w w1) (k : Kq lo base w1 w2) : Kq lo base w w2 :=
  ⟨k.os.trans h.os, k.tape.trans h.tape, k.output.trans h.output, Nat.le_trans h.size k.size, fun i hi hx => (k.block i (Nat.lt_of_lt_of_le hi h.size) hx).trans (h.block i hi hx)⟩
theorem Kq.put (h : Kq lo base w w1) (a : Addr) (v : Value) (ha : (lo ≤ a.block ∧ a.block < base) ∨ w.heap.size ≤ a.block) : Kq lo base w (w1.setCell a v) :=
  ⟨h.os, h.tape, h.output, by simpa [World.setCell] using h.size, fun i hi hx => by
    rw [Below.heap_setCell w1 a v i (by omega)]
    exact h.block i hi hx⟩
theorem Kq.below {n : Nat} (h : Kq lo base w w1) (hn : n ≤ lo) (hs : n ≤ w.heap.size) : Below n w w1 := ⟨h.os, h.tape, h.output, h.size, fun k hk => h.block k (by omega) (by omega)⟩
end
theorem PN.kp {lo base B : Nat} {w w' : World} {K : Nat} {p : Option Addr} {n : Nat} {es : List Ent} {zs : List Int} (h : PN B w K p n es zs) (hk : Kq lo base w w') (hB : base ≤ B) : PN B w' K p n es zs := by
  refine ⟨h.el, h.zl, h.nrm, h.pl.same fun a ha hlt => hk.block _ hlt (.inr (Nat.le_trans hB (h.fr a ha))), h.fr, fun j hj => ?_⟩
  obtain ⟨xs, k, h2⟩ := h.ev j hj
  have hbl : ∀ a, (ge es j).p = some a → a.block < w.heap.size → w'.heap[a.block]? = w.heap[a.block]? := fun a ha hlt => hk.block _ hlt (.inr (Nat.le_trans hB (k.fr a ha)))
  refine ⟨xs, ⟨k.len, k.rd.same hbl, k.u, k.nrm, k.sg, k.pn, k.v, k.fr, fun a ha => ⟨Nat.lt_of_lt_of_le (k.fz a ha).1 hk.size, fun i => ?_⟩⟩, h2⟩
  have h3 := hbl a ha (k.fz a ha).1
  have h4 := (k.fz a ha).2 i
  simp only [World.frozen?] at h4 ⊢
  rw [h3]
  exact h4
/-- The first of an answer's entries are there. -/
def CK (F : Nat → List Int) (lo base K E g n i : Nat) (w wr : World) : Prop :=
  ∃ hs : List Hdr, HB wr g hs ∧ hs.length = n ∧ (∀ r, r < i → (gh hs r).c = (gh hs r).n ∧ (gh hs r).n ≤ E ∧ ∃ es, PN (g + 1) wr K (gh hs r).p (gh hs r).n es (F r)) ∧ Kq lo base w wr ∧ w.heap.size ≤ g ∧ base ≤ g
theorem CK.step {F : Nat → List Int} {lo base K E g n i : Nat} {w wr v3 : World} {p3 : Option Addr} {n3 : Nat} {es3 : List Ent} (h : CK F lo base K E g n i w wr) (hi : i < n) (hv : Kq lo base wr v3) (hN : PN (g + 1) v3 K p3 n3 es3 (F i)) (hE : n3 ≤ E) : CK F lo base K E g n (i + 1) w (v3.setCell ⟨g, i, none⟩ (.slice p3 n3 n3)) := by
  obtain ⟨hs, h1, h2, h3, h4, h5, h6⟩ := h
  have h1' : HB v3 g hs := (hv.block g h1.lt (.inr h6)).trans h1
  refine ⟨hs.set i ⟨p3, n3, n3⟩, h1'.set i ⟨p3, n3, n3⟩, by simp [h2], fun r hr => ?_, (h4.trans hv).put ⟨g, i, none⟩ _ (.inr h5), h5, h6⟩
  rw [gh_set _ _ _ _ (by omega)]
  by_cases e : r = i
  · subst e
    rw [if_pos rfl]
    exact ⟨rfl, hE, es3, hN.put (Nat.lt_succ_self g) _⟩
  · rw [if_neg e]
    obtain ⟨a, b, es, c⟩ := h3 r (by omega)
    exact ⟨a, b, es, (c.kp hv (by omega)).put (Nat.lt_succ_self g) _⟩
theorem CK.no {F : Nat → List Int} {lo base K E g n : Nat} {w wr : World} (h : CK F lo base K E g n n w wr) : ∃ hs, NO g wr K E ((List.range n).map F) (some ⟨g, 0, none⟩) n hs := by
  obtain ⟨hs, h1, h2, h3, h4, h5, h6⟩ := h
  refine ⟨hs, h2, by simp, fun hp => ⟨g, 0, rfl, fun j hj => by rw [Nat.zero_add]; exact h1.cell j hj⟩, fun a ha => by cases ha; exact Nat.le_refl _, fun j hj => ?_⟩
  obtain ⟨a, b, es, c⟩ := h3 j hj
  refine ⟨a, b, es, ?_⟩
  have e : gt ((List.range n).map F) j = F j := by simp [gt, hj]
  rw [e]
  exact c.mono (Nat.le_succ g)
theorem NO.hrow {B : Nat} {w : World} {K E : Nat} {l : List (List Int)} {p : Option Addr} {n : Nat} {hs : List Hdr} (h : NO B w K E l p n hs) (hK : K ≤ 1000) (hE : E ≤ 1000000) (hn : n ≤ 1000000) : HRow n (EZ K E) w B w.heap.size l ⟨p, n, n⟩ hs := by
  refine ⟨h.el, h.tl, Nat.le_refl _, by show n ≤ maxLen; unfold maxLen; omega, fun e => ?_, Nat.le_refl _, h.hl, fun a ha h0 => ⟨h.fr a ha, ?_⟩, fun j hj => ?_⟩
  · rcases Nat.eq_zero_or_pos n with h0 | h0
    · exact h0
    · obtain ⟨b, o, hb, -⟩ := h.hl (by rw [h.el]; exact h0)
      simp only at e
      rw [hb] at e
      cases e
  · obtain ⟨b, o, hb, hc⟩ := h.hl (by rw [h.el]; exact h0)
    simp only at ha
    rw [hb] at ha
    cases ha
    exact block_lt_of_cell (hc 0 (by rw [h.el]; exact h0))
  · obtain ⟨a, b, es, c⟩ := h.ev j hj
    have h1 := ez_of_pn c hK b hE
    have e : (⟨(gh hs j).p, (gh hs j).n, (gh hs j).n⟩ : Hdr) = gh hs j := by
      generalize gh hs j = x at a
      obtain ⟨x1, x2, x3⟩ := x
      simp only at a
      rw [a]
    rw [e] at h1
    exact h1
end Go.Proofs.YtifebbacnlhggaaGreatDoor
/-
  What walks of laws share: answers that lie in memory of their own (operators, polynomials, numbers that are cut, and what the reference makes of them).
-/
namespace Go.Proofs.YtifebbacnlhggaaGreatDoor
open Go.RowKit
set_option linter.unusedVariables false
set_option linter.unusedSimpArgs false

/-- LastsB, in one piece. -/
structure LB {α : Type} (E : World → Nat → Nat → α → Hdr → Prop) : Prop where
  go : ∀ (w w' : World) (B T : Nat) (z : α) (h : Hdr), E w B T z h → T ≤ w.heap.size → (∀ b, B ≤ b → b < T → w'.heap[b]? = w.heap[b]?) → E w' B T z h
/-- It lies in memory of its own: from block lo on, off the blocks of X. -/
def Lies {α : Type} (E : World → Nat → Nat → α → Hdr → Prop) (lo : Nat) (X : Nat → Prop) (w : World) (z : α) (h : Hdr) : Prop := ∃ B T, E w B T z h ∧ T ≤ w.heap.size ∧ lo ≤ B ∧ ∀ b, X b → b < B ∨ T ≤ b
section
variable {α : Type} {E : World → Nat → Nat → α → Hdr → Prop} {lo : Nat} {X Y : Nat → Prop} {w w' : World} {z : α} {h : Hdr}
theorem Lies.below (k : Lies E lo X w z h) (L : LB E) (hb : Below w.heap.size w w') : Lies E lo X w' z h := by
  obtain ⟨B, T, h1, h2, h3, h4⟩ := k
  exact ⟨B, T, L.go _ _ _ _ _ _ h1 h2 fun b _ hb' => hb.block b (by omega), Nat.le_trans h2 hb.size, h3, h4⟩
theorem Lies.add (k : Lies E lo X w z h) {c : Nat} (hc : w.heap.size ≤ c) : Lies E lo (fun b => X b ∨ b = c) w z h := by
  obtain ⟨B, T, h1, h2, h3, h4⟩ := k
  refine ⟨B, T, h1, h2, h3, fun b hb => ?_⟩
  rcases hb with hb | hb
  · exact h4 b hb
  · right; omega
theorem Lies.sub (k : Lies E lo X w z h) (hs : ∀ b, Y b → X b) : Lies E lo Y w z h := by
  obtain ⟨B, T, h1, h2, h3, h4⟩ := k
  exact ⟨B, T, h1, h2, h3, fun b hb => h4 b (hs b hb)⟩
theorem Lies.put (k : Lies E lo X w z h) (L : LB E) {g o : Nat} (hg : g < lo ∨ X g) (v : Value) : Lies E lo X (w.setCell ⟨g, o, none⟩ v) z h := by
  obtain ⟨B, T, h1, h2, h3, h4⟩ := k
  refine ⟨B, T, L.go _ _ _ _ _ _ h1 h2 fun b hB hT => heap_setCell_other w ⟨g, o, none⟩ b v fun e => ?_, by simpa [World.setCell] using h2, h3, h4⟩
  simp only at e
  subst e
  rcases hg with hg | hg
  · omega
  · have := h4 b hg; omega
theorem Lies.down {lo' : Nat} (k : Lies E lo X w z h) (hl : lo' ≤ lo) : Lies E lo' X w z h := by
  obtain ⟨B, T, h1, h2, h3, h4⟩ := k
  exact ⟨B, T, h1, h2, by omega, h4⟩
end
/-- A number that is handed in, in memory of its own. -/
def NumX (K lo : Nat) (X : Nat → Prop) (w : World) (y : Int) (u : Ent) : Prop := EV w K y u ∧ (0 < u.n → ∀ a, u.p = some a → lo ≤ a.block ∧ ¬ X a.block)
/-- A number of the reference. -/
def RnX (N lo : Nat) (X : Nat → Prop) (w : World) (y : Int) (u : Ent) : Prop := RE w N y u ∧ (0 < u.n → ∀ a, u.p = some a → lo ≤ a.block ∧ ¬ X a.block)
section
variable {K lo : Nat} {X Y : Nat → Prop} {w w' : World} {y : Int} {u : Ent}
theorem NumX.below (k : NumX K lo X w y u) (hb : Below w.heap.size w w') : NumX K lo X w' y u := ⟨k.1.below hb, k.2⟩
theorem NumX.add (k : NumX K lo X w y u) {c : Nat} (hc : w.heap.size ≤ c) : NumX K lo (fun b => X b ∨ b = c) w y u := ⟨k.1, fun hn a ha => ⟨(k.2 hn a ha).1, fun h => by
  rcases h with h | h
  · exact (k.2 hn a ha).2 h
  · have := (lasts_EV K).lt k.1 hn a ha
    omega⟩⟩
theorem NumX.sub (k : NumX K lo X w y u) (hs : ∀ b, Y b → X b) : NumX K lo Y w y u := ⟨k.1, fun hn a ha => ⟨(k.2 hn a ha).1, fun h => (k.2 hn a ha).2 (hs _ h)⟩⟩
theorem NumX.put (k : NumX K lo X w y u) {g o : Nat} (hg : g < lo ∨ X g) (v : Value) : NumX K lo X (w.setCell ⟨g, o, none⟩ v) y u := ⟨k.1.same fun hn a ha => heap_setCell_other w ⟨g, o, none⟩ a.block v fun e => by
  simp only at e
  have h1 := k.2 hn a ha
  rcases hg with hg | hg
  · omega
  · rw [e] at h1; exact h1.2 hg, k.2⟩
theorem RnX.below (k : RnX K lo X w y u) (hb : Below w.heap.size w w') : RnX K lo X w' y u := ⟨k.1.below hb, k.2⟩
theorem RnX.add (k : RnX K lo X w y u) {c : Nat} (hc : w.heap.size ≤ c) : RnX K lo (fun b => X b ∨ b = c) w y u := ⟨k.1, fun hn a ha => ⟨(k.2 hn a ha).1, fun h => by
  rcases h with h | h
  · exact (k.2 hn a ha).2 h
  · have := (lasts_RE K).lt k.1 hn a ha
    omega⟩⟩
theorem RnX.sub (k : RnX K lo X w y u) (hs : ∀ b, Y b → X b) : RnX K lo Y w y u := ⟨k.1, fun hn a ha => ⟨(k.2 hn a ha).1, fun h => (k.2 hn a ha).2 (hs _ h)⟩⟩
theorem RnX.put (k : RnX K lo X w y u) {g o : Nat} (hg : g < lo ∨ X g) (v : Value) : RnX K lo X (w.setCell ⟨g, o, none⟩ v) y u := ⟨k.1.same fun hn a ha => heap_setCell_other w ⟨g, o, none⟩ a.block v fun e => by
  simp only at e
  have h1 := k.2 hn a ha
  rcases hg with hg | hg
  · omega
  · rw [e] at h1; exact h1.2 hg, k.2⟩
end
/-- Some value of a kind that lies in memory of its own. -/
def Ax.lies {α : Type} (E : World → Nat → Nat → α → Hdr → Prop) (L : LB E) (lo : Nat) : Ax := ⟨fun X v w => ∃ (h : Hdr) (z : α), v = .slice h.p h.n h.c ∧ Lies E lo X w z h, fun ⟨h, z, a, b⟩ hb => ⟨h, z, a, b.below L hb⟩, fun ⟨h, z, a, b⟩ hc => ⟨h, z, a, b.add hc⟩, fun ⟨h, z, a, b⟩ hs => ⟨h, z, a, b.sub hs⟩⟩
/-- This value of a kind. -/
def Ax.told {α : Type} (E : World → Nat → Nat → α → Hdr → Prop) (L : LB E) (lo : Nat) (z : α) : Ax := ⟨fun X v w => ∃ h : Hdr, v = .slice h.p h.n h.c ∧ Lies E lo X w z h, fun ⟨h, a, b⟩ hb => ⟨h, a, b.below L hb⟩, fun ⟨h, a, b⟩ hc => ⟨h, a, b.add hc⟩, fun ⟨h, a, b⟩ hs => ⟨h, a, b.sub hs⟩⟩
/-- A list of one number, its first entry's address, the entry. -/
def One (w : World) (b o : Nat) (u : Ent) : Prop := w.cell? ⟨b, o, none⟩ = some (.bool u.s) ∧ w.cell? ⟨b, o + 1, none⟩ = some (.slice u.p u.n u.c)
theorem One.below {w w' : World} {b o : Nat} {u : Ent} (h : One w b o u) (hb : Below w.heap.size w w') : One w' b o u := ⟨cell_later hb h.1, cell_later hb h.2⟩
def Ax.one (K lo : Nat) : Ax := ⟨fun X v w => ∃ b o c u y, v = .slice (some ⟨b, o, none⟩) 1 c ∧ One w b o u ∧ NumX K lo X w y u, fun ⟨b, o, c, u, y, a, h, k⟩ hb => ⟨b, o, c, u, y, a, h.below hb, k.below hb⟩, fun ⟨b, o, c, u, y, a, h, k⟩ hc => ⟨b, o, c, u, y, a, h, k.add hc⟩, fun ⟨b, o, c, u, y, a, h, k⟩ hs => ⟨b, o, c, u, y, a, h, k.sub hs⟩⟩
section
variable {w v : World} {lo : Nat} {X : Nat → Prop}
theorem cut1_ax {b : Nat} {e : Ent} (hr : RawE w e) (hb : Below w.heap.size w v) (c0 : v.cell? ⟨b, 0, none⟩ = some (.bool e.s)) (c1 : v.cell? ⟨b, 1, none⟩ = some (.slice e.p e.n e.c)) (hX : ∀ c, X c → c < v.heap.size) (hlo : lo ≤ v.heap.size) (L : Nat) (hL : L ≤ 24) :
    Calls Tryz.prog 11 #[.slice (some ⟨b, 0, none⟩) 1 1, .int .i64 1, .int .i64 L] v fun e w' => ∃ u, e = .returned u ∧ (Ax.one L lo).is X u w' ∧ Below v.heap.size v w' := by
  refine (Cut3_any (pz_lit c0 c1 (hr.below hb)) 1 L (by decide) hL).mono ?_
  rintro r w' ⟨q2, n2, mc2, fs2, zs2, rfl, hP2, hm2, hF4, hG4, hb2⟩
  obtain rfl : n2 = 1 := hm2
  obtain ⟨b2, c2, hq2, hc2⟩ := hP2.pl (by rw [hP2.el]; decide)
  subst hq2
  obtain ⟨i0, i1⟩ := hc2 0 (by rw [hP2.el]; decide)
  rw [Nat.zero_mul, Nat.add_zero] at i0 i1
  exact ⟨_, rfl, ⟨b2, c2, mc2, _, _, rfl, ⟨i0, i1⟩, hP2.ev 0 (by decide), fun hn a ha => by
    have h1 := hG4 0 (by decide) hn a ha
    exact ⟨by omega, fun h => by have := hX _ h; omega⟩⟩, hb2⟩
end
end Go.Proofs.YtifebbacnlhggaaGreatDoor
