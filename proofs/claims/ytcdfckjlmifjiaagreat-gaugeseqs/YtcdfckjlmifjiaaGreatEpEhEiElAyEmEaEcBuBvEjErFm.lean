/-
  What walks of laws share: answers that lie in memory of their own (operators, polynomials, numbers that are cut, and what the reference makes of them).
-/
import Derived.Test.YtcdfckjlmifjiaaGreatEoEqDpAaDcUkUlUmVsUoDmVtAf
import Derived.Test.YtcdfckjlmifjiaaGreatBsBrAdDtAgUhAiRsVfAjDqDrBmAkAlAp
import Derived.Test.YtcdfckjlmifjiaaGreatAzBlEeEfVuDlVvWxUpUqDkDbUiVqJpDjVkJo
import Derived.Test.YtcdfckjlmifjiaaGreatDyAwOn
import Derived.Deep.DeepFit
import Derived.Test.YtcdfckjlmifjiaaGreatAbBnUjBoAhEkOaOcOd
import Derived.Test.YtcdfckjlmifjiaaGreatAvWaWbWc
import Derived.Test.YtcdfckjlmifjiaaGreatFlDxAxDnDo
import Derived.Test.YtcdfckjlmifjiaaGreatFiFj
namespace Go.Proofs.YtcdfckjlmifjiaaGreat
open Go.RowKit
set_option linter.unusedVariables false
set_option linter.unusedSimpArgs false

/-- LastsB, in one piece. -/
structure LB {α : Type} (E : World → Nat → Nat → α → Hdr → Prop) : Prop where
  go : ∀ (w w' : World) (B T : Nat) (z : α) (h : Hdr), E w B T z h → T ≤ w.heap.size → (∀ b, B ≤ b → b < T → w'.heap[b]? = w.heap[b]?) → E w' B T z h
/-- It lies in memory of its own: from block lo on, off the blocks of X. -/
def Lies {α : Type} (E : World → Nat → Nat → α → Hdr → Prop) (lo : Nat) (X : Nat → Prop) (w : World) (z : α) (h : Hdr) : Prop := ∃ B T, E w B T z h ∧ T ≤ w.heap.size ∧ lo ≤ B ∧ ∀ b, X b → b < B ∨ T ≤ b
section
variable {α : Type} {E : World → Nat → Nat → α → Hdr → Prop} {lo : Nat} {X Y : Nat → Prop} {w w' : World} {z : α} {h : Hdr}
theorem Lies.below (k : Lies E lo X w z h) (L : LB E) (hb : Below w.heap.size w w') : Lies E lo X w' z h := by
  obtain ⟨B, T, h1, h2, h3, h4⟩ := k
  exact ⟨B, T, L.go _ _ _ _ _ _ h1 h2 fun b _ hb' => hb.block b (by omega), Nat.le_trans h2 hb.size, h3, h4⟩
theorem Lies.add (k : Lies E lo X w z h) {c : Nat} (hc : w.heap.size ≤ c) : Lies E lo (fun b => X b ∨ b = c) w z h := by
  obtain ⟨B, T, h1, h2, h3, h4⟩ := k
  refine ⟨B, T, h1, h2, h3, fun b hb => ?_⟩
  rcases hb with hb | hb
  · exact h4 b hb
  · right; omega
theorem Lies.sub (k : Lies E lo X w z h) (hs : ∀ b, Y b → X b) : Lies E lo Y w z h := by
  obtain ⟨B, T, h1, h2, h3, h4⟩ := k
  exact ⟨B, T, h1, h2, h3, fun b hb => h4 b (hs b hb)⟩
theorem Lies.put (k : Lies E lo X w z h) (L : LB E) {g o : Nat} (hg : g < lo ∨ X g) (v : Value) : Lies E lo X (w.setCell ⟨g, o, none⟩ v) z h := by
  obtain ⟨B, T, h1, h2, h3, h4⟩ := k
  refine ⟨B, T, L.go _ _ _ _ _ _ h1 h2 fun b hB hT => heap_setCell_other w ⟨g, o, none⟩ b v fun e => ?_, by simpa [World.setCell] using h2, h3, h4⟩
  simp only at e
  subst e
  rcases hg with hg | hg
  · omega
  · have := h4 b hg; omega
theorem Lies.down {lo' : Nat} (k : Lies E lo X w z h) (hl : lo' ≤ lo) : Lies E lo' X w z h := by
  obtain ⟨B, T, h1, h2, h3, h4⟩ := k
  exact ⟨B, T, h1, h2, by omega, h4⟩
end
/-- A number that is handed in, in memory of its own. -/
def NumX (K lo : Nat) (X : Nat → Prop) (w : World) (y : Int) (u : Ent) : Prop := EV w K y u ∧ (0 < u.n → ∀ a, u.p = some a → lo ≤ a.block ∧ ¬ X a.block)
/-- A number of the reference. -/
def RnX (N lo : Nat) (X : Nat → Prop) (w : World) (y : Int) (u : Ent) : Prop := RE w N y u ∧ (0 < u.n → ∀ a, u.p = some a → lo ≤ a.block ∧ ¬ X a.block)
section
variable {K lo : Nat} {X Y : Nat → Prop} {w w' : World} {y : Int} {u : Ent}
theorem NumX.below (k : NumX K lo X w y u) (hb : Below w.heap.size w w') : NumX K lo X w' y u := ⟨k.1.below hb, k.2⟩
theorem NumX.add (k : NumX K lo X w y u) {c : Nat} (hc : w.heap.size ≤ c) : NumX K lo (fun b => X b ∨ b = c) w y u := ⟨k.1, fun hn a ha => ⟨(k.2 hn a ha).1, fun h => by
  rcases h with h | h
  · exact (k.2 hn a ha).2 h
  · have := (lasts_EV K).lt k.1 hn a ha
    omega⟩⟩
theorem NumX.sub (k : NumX K lo X w y u) (hs : ∀ b, Y b → X b) : NumX K lo Y w y u := ⟨k.1, fun hn a ha => ⟨(k.2 hn a ha).1, fun h => (k.2 hn a ha).2 (hs _ h)⟩⟩
theorem NumX.put (k : NumX K lo X w y u) {g o : Nat} (hg : g < lo ∨ X g) (v : Value) : NumX K lo X (w.setCell ⟨g, o, none⟩ v) y u := ⟨k.1.same fun hn a ha => heap_setCell_other w ⟨g, o, none⟩ a.block v fun e => by
  simp only at e
  have h1 := k.2 hn a ha
  rcases hg with hg | hg
  · omega
  · rw [e] at h1; exact h1.2 hg, k.2⟩
theorem RnX.below (k : RnX K lo X w y u) (hb : Below w.heap.size w w') : RnX K lo X w' y u := ⟨k.1.below hb, k.2⟩
theorem RnX.add (k : RnX K lo X w y u) {c : Nat} (hc : w.heap.size ≤ c) : RnX K lo (fun b => X b ∨ b = c) w y u := ⟨k.1, fun hn a ha => ⟨(k.2 hn a ha).1, fun h => by
  rcases h with h | h
  · exact (k.2 hn a ha).2 h
  · have := (lasts_RE K).lt k.1 hn a ha
    omega⟩⟩
theorem RnX.sub (k : RnX K lo X w y u) (hs : ∀ b, Y b → X b) : RnX K lo Y w y u := ⟨k.1, fun hn a ha => ⟨(k.2 hn a ha).1, fun h => (k.2 hn a ha).2 (hs _ h)⟩⟩
theorem RnX.put (k : RnX K lo X w y u) {g o : Nat} (hg : g < lo ∨ X g) (v : Value) : RnX K lo X (w.setCell ⟨g, o, none⟩ v) y u := ⟨k.1.same fun hn a ha => heap_setCell_other w ⟨g, o, none⟩ a.block v fun e => by
  simp only at e
  have h1 := k.2 hn a ha
  rcases hg with hg | hg
  · omega
  · rw [e] at h1; exact h1.2 hg, k.2⟩
end
/-- Some value of a kind that lies in memory of its own. -/
def Ax.lies {α : Type} (E : World → Nat → Nat → α → Hdr → Prop) (L : LB E) (lo : Nat) : Ax := ⟨fun X v w => ∃ (h : Hdr) (z : α), v = .slice h.p h.n h.c ∧ Lies E lo X w z h, fun ⟨h, z, a, b⟩ hb => ⟨h, z, a, b.below L hb⟩, fun ⟨h, z, a, b⟩ hc => ⟨h, z, a, b.add hc⟩, fun ⟨h, z, a, b⟩ hs => ⟨h, z, a, b.sub hs⟩⟩
/-- This value of a kind. -/
def Ax.told {α : Type} (E : World → Nat → Nat → α → Hdr → Prop) (L : LB E) (lo : Nat) (z : α) : Ax := ⟨fun X v w => ∃ h : Hdr, v = .slice h.p h.n h.c ∧ Lies E lo X w z h, fun ⟨h, a, b⟩ hb => ⟨h, a, b.below L hb⟩, fun ⟨h, a, b⟩ hc => ⟨h, a, b.add hc⟩, fun ⟨h, a, b⟩ hs => ⟨h, a, b.sub hs⟩⟩
/-- A list of one number, its first entry's address, the entry. -/
def One (w : World) (b o : Nat) (u : Ent) : Prop := w.cell? ⟨b, o, none⟩ = some (.bool u.s) ∧ w.cell? ⟨b, o + 1, none⟩ = some (.slice u.p u.n u.c)
theorem One.below {w w' : World} {b o : Nat} {u : Ent} (h : One w b o u) (hb : Below w.heap.size w w') : One w' b o u := ⟨cell_later hb h.1, cell_later hb h.2⟩
def Ax.one (K lo : Nat) : Ax := ⟨fun X v w => ∃ b o c u y, v = .slice (some ⟨b, o, none⟩) 1 c ∧ One w b o u ∧ NumX K lo X w y u, fun ⟨b, o, c, u, y, a, h, k⟩ hb => ⟨b, o, c, u, y, a, h.below hb, k.below hb⟩, fun ⟨b, o, c, u, y, a, h, k⟩ hc => ⟨b, o, c, u, y, a, h, k.add hc⟩, fun ⟨b, o, c, u, y, a, h, k⟩ hs => ⟨b, o, c, u, y, a, h, k.sub hs⟩⟩
def Ax.num (K lo : Nat) : Ax := ⟨fun X v w => ∃ u y, v = .agg #[.bool (Ent.s u), .slice u.p u.n u.c] ∧ NumX K lo X w y u, fun ⟨u, y, a, h⟩ hb => ⟨u, y, a, h.below hb⟩, fun ⟨u, y, a, h⟩ hc => ⟨u, y, a, h.add hc⟩, fun ⟨u, y, a, h⟩ hs => ⟨u, y, a, h.sub hs⟩⟩
/-- The kinds: operators and polynomials, of the program and of the reference. -/
abbrev EOp (D E K : Nat) := HR D (EZ K E)
abbrev EOr (D E N : Nat) := HR D (EY N E)
theorem lOp (D E K : Nat) : LB (EOp D E K) := ⟨fun _ _ _ _ _ _ a b c => lastsB_HR (E := EZ K E) (fun a b c => lastsB_EZ K E a b c) a b c⟩
theorem lOr (D E N : Nat) : LB (EOr D E N) := ⟨fun _ _ _ _ _ _ a b c => lastsB_HR (E := EY N E) (fun a b c => lastsB_EY N E a b c) a b c⟩
section
variable {w v : World} {lo : Nat} {X : Nat → Prop}
theorem from8_ax {D E K lo' : Nat} {Y : Nat → Prop} {z : List (List Int)} {h : Hdr} (k : Lies (EOp D E K) lo' Y w z h) (hb : Below w.heap.size w v) (hX : ∀ c, X c → c < v.heap.size) (hlo : lo ≤ v.heap.size) (hD : D ≤ 1000) (hE : E ≤ 1000) (hK : K ≤ 400) :
    Calls Tryz.prog 7 #[.slice h.p h.n h.c] v fun e w' => ∃ u, e = .returned u ∧ (Ax.told (EOr D E (2 * K)) (lOr _ _ _) lo (oz z)).is X u w' ∧ Below v.heap.size v w' := by
  obtain ⟨B, T, a, b, -, -⟩ := k.below (lOp _ _ _) hb
  refine (rFrom8_any a b hD hE hK).mono ?_
  rintro e w' ⟨u, rfl, h1, h2⟩
  rw [olen_mapt] at h1 ⊢
  rw [otr_mapt] at h1
  exact ⟨_, rfl, ⟨⟨u, olen z, olen z⟩, rfl, _, _, h1, Nat.le_refl _, hlo, fun b hb' => .inl (hX b hb')⟩, h2⟩
end
end Go.Proofs.YtcdfckjlmifjiaaGreat
/-
  estimate.Divide.
-/
namespace Go.Proofs.YtcdfckjlmifjiaaGreat
open Go.RowKit
set_option linter.unusedVariables false
set_option linter.unusedSimpArgs false

end Go.Proofs.YtcdfckjlmifjiaaGreat
/-
  estimate.Common.
-/
namespace Go.Proofs.YtcdfckjlmifjiaaGreat
open Go.RowKit
set_option linter.unusedVariables false
set_option linter.unusedSimpArgs false

end Go.Proofs.YtcdfckjlmifjiaaGreat
/-
  gauge.Mul, Divide, Common.
-/
namespace Go.Proofs.YtcdfckjlmifjiaaGreat
open Go.RowKit
set_option linter.unusedVariables false
set_option linter.unusedSimpArgs false

end Go.Proofs.YtcdfckjlmifjiaaGreat
/-
  ore.size; estimate.Apply.
-/
namespace Go.Proofs.YtcdfckjlmifjiaaGreat
open Go.RowKit
set_option linter.unusedVariables false
set_option linter.unusedSimpArgs false

end Go.Proofs.YtcdfckjlmifjiaaGreat
/-
  gauge.Apply.
-/
namespace Go.Proofs.YtcdfckjlmifjiaaGreat
open Go.RowKit
set_option linter.unusedVariables false
set_option linter.unusedSimpArgs false
end Go.Proofs.YtcdfckjlmifjiaaGreat
/-
  ashlarref9.Divide.
-/
namespace Go.Proofs.YtcdfckjlmifjiaaGreat
open Go.RowKit
set_option linter.unusedVariables false
set_option linter.unusedSimpArgs false


end Go.Proofs.YtcdfckjlmifjiaaGreat
/-
  ashlarref9.Common.
-/
namespace Go.Proofs.YtcdfckjlmifjiaaGreat
open Go.RowKit
set_option linter.unusedVariables false
set_option linter.unusedSimpArgs false


end Go.Proofs.YtcdfckjlmifjiaaGreat
/-
  ashlarref9.Apply.
-/
namespace Go.Proofs.YtcdfckjlmifjiaaGreat
open Go.RowKit
set_option linter.unusedVariables false
set_option linter.unusedSimpArgs false

end Go.Proofs.YtcdfckjlmifjiaaGreat
/-
  Plain: the program's estimates are the reference's.
-/
namespace Go.Proofs.YtcdfckjlmifjiaaGreat
open Go.RowKit
set_option linter.unusedVariables false
set_option linter.unusedSimpArgs false

theorem pmf_one {a : Int} (h : InT a) : pmf 1 a = a := by
  unfold pmf
  rw [Int.one_mul]
  have := h.2
  omega
theorem pms_two {a b : Int} (h : InT a) : pms [a, b] = pmf a b := by
  show pmf (pmf 1 a) b = _
  rw [pmf_one h]
theorem sms_small1 {a b : Int} (h0 : 0 ≤ a) (h1 : 0 ≤ b) (h2 : a + b ≤ 4611686018427387904) : sms [a, b] = a + b := by
  show smf (smf 0 a) b = _
  unfold smf
  omega
theorem sms_small2 {a b c : Int} (h0 : 0 ≤ a) (h1 : 0 ≤ b) (h3 : 0 ≤ c) (h2 : a + b + c ≤ 4611686018427387904) : sms [a, b, c] = a + b + c := by
  show smf (smf (smf 0 a) b) c = _
  unfold smf
  omega
theorem pmf_in {a b : Int} (ha : 0 ≤ a) (hb : 0 ≤ b) : 0 ≤ pmf a b ∧ pmf a b ≤ 4611686018427387904 := by
  have := Int.mul_nonneg ha hb
  unfold pmf
  omega
end Go.Proofs.YtcdfckjlmifjiaaGreat
/-
  Plain: the program's estimates of Divide, Common are the reference's.
-/
namespace Go.Proofs.YtcdfckjlmifjiaaGreat
open Go.RowKit
set_option linter.unusedVariables false
set_option linter.unusedSimpArgs false

theorem sms_pair {a b : Int} (h : InT a) : sms [a, b] = smf a b := by
  show smf (smf 0 a) b = _
  have h1 := h.1
  have h2 := h.2
  unfold smf
  omega
end Go.Proofs.YtcdfckjlmifjiaaGreat
/-
  Estimates of operators that are cut: the program's and the reference's.
-/
namespace Go.Proofs.YtcdfckjlmifjiaaGreat
open Go.RowKit
set_option linter.unusedVariables false
set_option linter.unusedSimpArgs false

theorem szO_oz (z : List (List Int)) : max ((olen z : Int) - 1) 0 = rszO (oz z) := by
  rw [rszO, length_oz]
  split <;> omega
theorem oz_nil {z : List (List Int)} (h : olen z = 0) : oz z = [] := by rw [oz, h]; rfl
theorem szD_oz (z : List (List Int)) : max (odeg z) 0 = rszD (oz z) := by
  rw [rszD, length_oz, ← odeg_oz]
  split
  · rename_i h
    rw [oz_nil h]
    rfl
  · rename_i h
    rw [odeg_oz]
    have h0 : 0 < olen z := by omega
    have hl : olen z ≤ z.length := olen_le z
    have h1 := odeg_take z (olen z - 1) (by omega)
    have h2 : tlen (gt z (olen z - 1)) ≠ 0 := by
      intro e
      have h3 := tlen_top (z.map fun z => (tlen z : Int)) h0
      rw [gx_tlens] at h3
      exact h3 (by show (tlen (gt z (olen z - 1)) : Int) = 0; rw [e]; rfl)
    have h5 : ∀ k, olen z - 1 + 1 + k ≤ z.length → 0 ≤ odeg (z.take (olen z - 1 + 1 + k)) := by
      intro k
      induction k with
      | zero => intro _; rw [Nat.add_zero, h1]; omega
      | succ k ih =>
        intro hk
        have := ih (by omega)
        rw [← Nat.add_assoc, odeg_take z _ (by omega)]
        omega
    have h6 := h5 (z.length - olen z) (by omega)
    rw [show olen z - 1 + 1 + (z.length - olen z) = z.length by omega, List.take_length] at h6
    omega
theorem szB_oz (z : List (List Int)) : (obit z : Int) = rszB (oz z) := by
  rw [rszB, length_oz, ← obit_oz]
  split
  · rename_i h
    rw [oz_nil h]
    rfl
  · rfl
theorem szb_op {D E K : Nat} {w : World} {B T : Nat} {z : List (List Int)} {h : Hdr} (H : HR D (EZ K E) w B T z h) (hD : D ≤ 1000000) (hE : E ≤ 1000000) (hK : K ≤ 1000) : SzB (oz z) := by
  unfold SzB
  rw [← szO_oz, ← szD_oz, ← szB_oz]
  have hlen := hr_len H
  obtain ⟨hs, k⟩ := H
  have h1 := olen_le z
  have h2 := k.tl
  have h3 := k.few
  have h4 := odeg_bd z hlen z.length (Nat.le_refl _)
  have h5 := obit_bd (E := 32 * K) z (fun j hj => by
    obtain ⟨fs, a, -⟩ := k.ev j (by omega)
    exact pb_few a) z.length (Nat.le_refl _)
  rw [List.take_length] at h4 h5
  omega
section
variable {D E K N lo lo' D' E' : Nat} {X Y : Nat → Prop} {w v : World} {z y : List (List Int)} {h g : Hdr} {zq : Int} {uq un : Ent}
theorem of_at (k : Lies (EOp D E K) lo X w z h) (hb : Below w.heap.size w v) (hD : D ≤ 1000000) (hE : E ≤ 1000000) (hK : K ≤ 1000) :
    Calls Tryz.prog 19 #[.slice h.p h.n h.c] v fun e w' => e = .returned (.agg #[.int .i64 (rszO (oz z)), .int .i64 (rszD (oz z)), .int .i64 (rszB (oz z))]) ∧ Below v.heap.size v w' := by
  obtain ⟨B, T, h1, h2, -, -⟩ := k.below (lOp _ _ _) hb
  have := gOf_any h1 h2 hD hE hK
  rwa [szO_oz, szD_oz, szB_oz] at this
theorem szb_at (k : Lies (EOp D E K) lo X w z h) (hD : D ≤ 1000000) (hE : E ≤ 1000000) (hK : K ≤ 1000) : SzB (oz z) := by
  obtain ⟨B, T, h1, h2, -, -⟩ := k
  exact szb_op h1 hD hE hK
theorem inI_of {x : Int} {m : Int} (h : 0 ≤ x ∧ x ≤ m) (hm : m ≤ 9223372036854775807) : InI x := ⟨h.1, by omega⟩
end
end Go.Proofs.YtcdfckjlmifjiaaGreat
/-
  Estimates of sequences that are cut: the program's and the reference's.
-/
namespace Go.Proofs.YtcdfckjlmifjiaaGreat
open Go.RowKit
set_option linter.unusedVariables false
set_option linter.unusedSimpArgs false

def vTerm (x : List (List Int)) (wv N : Int) : Int := max (tms [smf N 1, rszO x + 1, sms [rszB x, pmf (rszD x + 1) ((zb N : Int) + 1), 8]]) (tms [smf N 1, wv + 1])
def vClose (x y : List (List Int)) (la lb : Int) (ba bb : Int) : Int := max (tms [pmf (rszO x + 1) (rszO y + 1), pmf (rszO x + 1) (rszO y + 1), pmf (rszO x + 1) (rszO y + 1), smf (pmf (pmf (rszO x + 1) (rszO y + 1)) (rszD x + rszD y)) 1, sms [rszB x, rszB y, 8]]) (tms [la + lb + 1, sms [ba, bb, 1]])
def vTurn (x : List (List Int)) : Int := tms [rszO x + rszD x + 2, rszO x + rszD x + 2, rszO x + rszD x + 2, rszD x + 2, rszB x + 8]
def vCauchy (x y : List (List Int)) (la lb : Int) (ba bb : Int) : Int := max (tms [pmf (rszD x + 1) (rszD y + 1), pmf (rszD x + 1) (rszD y + 1), pmf (rszD x + 1) (rszD y + 1), pmf (pmf (rszD x + 1) (rszD y + 1)) (rszO x + rszO y + rszD x + rszD y + 2), sms [rszB x, rszB y, 8]]) (tms [la + lb + 1, sms [ba, bb, 1]])
theorem sms_one {N : Int} (h : InI N) : sms [N, 1] = smf N 1 := by
  show smf (smf 0 N) 1 = _
  have h1 := h.1
  unfold smf
  omega
theorem sms_five {a b c d e : Int} (h0 : 0 ≤ a) (h1 : 0 ≤ b) (h2 : 0 ≤ c) (h3 : 0 ≤ d) (h4 : 0 ≤ e) (h : a + b + c + d + e ≤ 4611686018427387904) : sms [a, b, c, d, e] = a + b + c + d + e := by
  show smf (smf (smf (smf (smf 0 a) b) c) d) e = _
  unfold smf
  omega
section
variable {D E K lo lo' : Nat} {X Y : Nat → Prop} {w v : World} {z y : List (List Int)} {h g : Hdr} {p q : Option Addr} {n nc m mc : Nat} {rs qs : List Rq} {zs ys : List Rat}
theorem win_bd (k : WA (EQ 24) w p n nc rs zs) : wbt zs ≤ 1600 := by
  have := wbt_bd zs 1600 (fun i hi => qb_bd (k.ev i (by rw [← k.zl]; exact hi))) zs.length (Nat.le_refl _)
  rwa [List.take_length] at this
theorem win_each (k : WA (EQ 24) w p n nc rs zs) : ∀ j, j < n → qb (gq zs j) ≤ 1000000 := fun j hj => Nat.le_trans (qb_bd (k.ev j hj)) (by decide)
theorem gterm_at {N : Int} (k : Lies (EOp D E K) lo X w z h) (kw : WA (EQ 24) w p n nc rs zs) (hb : Below w.heap.size w v) (hD : D ≤ 1000000) (hE : E ≤ 1000000) (hK : K ≤ 1000) (hn : n ≤ 1000000) (hN : N ≤ 9223372036854775807) :
    Calls Tryz.prog 9 #[.slice h.p h.n h.c, .slice p n nc, .int .i64 N] v fun e w' => e = .returned (.int .i64 (vTerm (oz z) (wbt zs) (max N 0))) ∧ Below v.heap.size v w' := by
  have b1 := szb_at k hD hE hK
  have b2 := win_bd kw
  refine gTerm_lay (fun w' hb' => of_at k (bnext' hb hb') hD hE hK) (fun w' hb' => gWindow_any (kw.below (lasts_EQ 24) (bnext' hb hb')) hn) (fun w' => ?_)
  have iN : InI (max N 0) := ⟨by omega, by omega⟩
  have := eTerm_any w' (rszO (oz z)) (rszD (oz z)) (rszB (oz z)) (n : Int) (wbt zs : Int) N (inI_of b1.1 (by decide)) (inI_of b1.2.1 (by decide)) (inI_of b1.2.2 (by decide)) ⟨by omega, by omega⟩ ⟨by omega, by omega⟩ hN
  have h1 := b1.1
  have h2 := b1.2.1
  rwa [sms_one iN, len_zb iN, sms_small1 (a := rszO (oz z)) h1.1 (by decide) (by omega), sms_small1 (a := rszD (oz z)) h2.1 (by decide) (by omega), sms_small1 (a := (wbt zs : Int)) (by omega) (by decide) (by omega), pms_two ⟨by omega, by omega⟩] at this
theorem gclose_at (k : Lies (EOp D E K) lo X w z h) (k2 : Lies (EOp D E K) lo' Y w y g) (kw : WA (EQ 24) w p n nc rs zs) (kv : WA (EQ 24) w q m mc qs ys) (hb : Below w.heap.size w v) (hD : D ≤ 1000000) (hE : E ≤ 1000000) (hK : K ≤ 1000) (hn : n ≤ 1000000) (hm : m ≤ 1000000) :
    Calls Tryz.prog 11 #[.slice h.p h.n h.c, .slice g.p g.n g.c, .slice p n nc, .slice q m mc] v fun e w' => e = .returned (.int .i64 (vClose (oz z) (oz y) n m (wbt zs) (wbt ys))) ∧ Below v.heap.size v w' := by
  have b1 := szb_at k hD hE hK
  have b2 := szb_at k2 hD hE hK
  have b3 := win_bd kw
  have b4 := win_bd kv
  refine gClose_lay (fun w' hb' => of_at k (bnext' hb hb') hD hE hK) (fun w' hb' => of_at k2 (bnext' hb hb') hD hE hK) (fun w' hb' => gWindow_any (kw.below (lasts_EQ 24) (bnext' hb hb')) hn) (fun w' hb' => gWindow_any (kv.below (lasts_EQ 24) (bnext' hb hb')) hm) (fun w' => ?_)
  have := eClose_any w' (rszO (oz z)) (rszD (oz z)) (rszB (oz z)) (rszO (oz y)) (rszD (oz y)) (rszB (oz y)) (n : Int) (wbt zs : Int) (m : Int) (wbt ys : Int) (inI_of b1.1 (by decide)) (inI_of b1.2.1 (by decide)) (inI_of b1.2.2 (by decide)) (inI_of b2.1 (by decide)) (inI_of b2.2.1 (by decide)) (inI_of b2.2.2 (by decide)) ⟨by omega, by omega⟩ ⟨by omega, by omega⟩ ⟨by omega, by omega⟩ ⟨by omega, by omega⟩
  have h1 := b1.1
  have h2 := b1.2.1
  have h3 := b2.1
  have h4 := b2.2.1
  have i1 := pmf_in (a := rszO (oz z) + 1) (b := rszO (oz y) + 1) (by omega) (by omega)
  rwa [sms_small1 (a := rszO (oz z)) h1.1 (by decide) (by omega), sms_small1 (a := rszO (oz y)) h3.1 (by decide) (by omega), sms_small1 (a := rszD (oz z)) h2.1 h4.1 (by omega), pms_two (a := rszO (oz z) + 1) ⟨by omega, by omega⟩, pms_two (a := pmf (rszO (oz z) + 1) (rszO (oz y) + 1)) i1, sms_pair (pmf_in i1.1 (by omega)), sms_small2 (a := (n : Int)) (by omega) (by omega) (by decide) (by omega)] at this
theorem gcauchy_at (k : Lies (EOp D E K) lo X w z h) (k2 : Lies (EOp D E K) lo' Y w y g) (kw : WA (EQ 24) w p n nc rs zs) (kv : WA (EQ 24) w q m mc qs ys) (hb : Below w.heap.size w v) (hD : D ≤ 1000000) (hE : E ≤ 1000000) (hK : K ≤ 1000) (hn : n ≤ 1000000) (hm : m ≤ 1000000) :
    Calls Tryz.prog 15 #[.slice h.p h.n h.c, .slice g.p g.n g.c, .slice p n nc, .slice q m mc] v fun e w' => e = .returned (.int .i64 (vCauchy (oz z) (oz y) n m (wbt zs) (wbt ys))) ∧ Below v.heap.size v w' := by
  have b1 := szb_at k hD hE hK
  have b2 := szb_at k2 hD hE hK
  have b3 := win_bd kw
  have b4 := win_bd kv
  refine gCauchy_lay (fun w' hb' => of_at k (bnext' hb hb') hD hE hK) (fun w' hb' => of_at k2 (bnext' hb hb') hD hE hK) (fun w' hb' => gWindow_any (kw.below (lasts_EQ 24) (bnext' hb hb')) hn) (fun w' hb' => gWindow_any (kv.below (lasts_EQ 24) (bnext' hb hb')) hm) (fun w' => ?_)
  have := eCauchy_any w' (rszO (oz z)) (rszD (oz z)) (rszB (oz z)) (rszO (oz y)) (rszD (oz y)) (rszB (oz y)) (n : Int) (wbt zs : Int) (m : Int) (wbt ys : Int) (inI_of b1.1 (by decide)) (inI_of b1.2.1 (by decide)) (inI_of b1.2.2 (by decide)) (inI_of b2.1 (by decide)) (inI_of b2.2.1 (by decide)) (inI_of b2.2.2 (by decide)) ⟨by omega, by omega⟩ ⟨by omega, by omega⟩ ⟨by omega, by omega⟩ ⟨by omega, by omega⟩
  have h1 := b1.1
  have h2 := b1.2.1
  have h3 := b2.1
  have h4 := b2.2.1
  have i1 := pmf_in (a := rszD (oz z) + 1) (b := rszD (oz y) + 1) (by omega) (by omega)
  rwa [sms_small1 (a := rszD (oz z)) h2.1 (by decide) (by omega), sms_small1 (a := rszD (oz y)) h4.1 (by decide) (by omega), sms_five h1.1 h3.1 h2.1 h4.1 (by decide) (by omega), pms_two (a := rszD (oz z) + 1) ⟨by omega, by omega⟩, pms_two (a := pmf (rszD (oz z) + 1) (rszD (oz y) + 1)) i1, sms_small2 (a := (n : Int)) (by omega) (by omega) (by decide) (by omega)] at this
theorem gturn_at (k : Lies (EOp D E K) lo X w z h) (hb : Below w.heap.size w v) (hD : D ≤ 1000000) (hE : E ≤ 1000000) (hK : K ≤ 1000) :
    Calls Tryz.prog 13 #[.slice h.p h.n h.c, .slice p n nc] v fun e w' => e = .returned (.int .i64 (vTurn (oz z))) ∧ Below v.heap.size v w' := by
  have b1 := szb_at k hD hE hK
  refine gTurn_lay (fun w' hb' => of_at k (bnext' hb hb') hD hE hK) (fun w' => ?_)
  have := eTurn_any w' (rszO (oz z)) (rszD (oz z)) (rszB (oz z)) (inI_of b1.1 (by decide)) (inI_of b1.2.1 (by decide)) (inI_of b1.2.2 (by decide))
  have h1 := b1.1
  have h2 := b1.2.1
  have h3 := b1.2.2
  rwa [sms_small2 (a := rszO (oz z)) h1.1 h2.1 (by decide) (by omega), sms_small1 (a := rszD (oz z)) h2.1 (by decide) (by omega), sms_small1 (a := rszB (oz z)) h3.1 (by decide) (by omega)] at this
theorem rterm_at {N : Nat} {l : List (List Int)} {i : Int} (k : Lies (EOr D E N) lo X w l h) (kw : WA (EM 24) w p n nc rs zs) (b1 : SzB l) (hb : Below w.heap.size w v) (hD : D ≤ 1000000) (hE : E ≤ 1000000) (hN : N ≤ 1000) (hn : n ≤ 1000000) (hz : ∀ j, j < n → qb (gq zs j) ≤ 1000000) (hi : i ≤ 9223372036854775807) :
    Calls Tryz.prog 10 #[.slice h.p h.n h.c, .slice p n nc, .int .i64 i] v fun e w' => e = .returned (.int .i64 (vTerm l (wbt zs) (max i 0))) ∧ Below v.heap.size v w' := by
  obtain ⟨B, T, h1, h2, -, -⟩ := k.below (lOr _ _ _) hb
  rcases Int.lt_or_le i 0 with h0 | h0
  · have := rTerm9_neg h1 h2 (kw.below (lasts_EM 24) hb) hD hE hN (by decide) hn hz b1 h0
    rwa [show (0 : Int) = max i 0 by omega] at this
  · have := rTerm9_pos h1 h2 (kw.below (lasts_EM 24) hb) hD hE hN (by decide) hn hz b1 ⟨h0, hi⟩
    rw [show max i 0 = i by omega]
    exact this
theorem rclose_at {N : Nat} {l l2 : List (List Int)} (k : Lies (EOr D E N) lo X w l h) (k2 : Lies (EOr D E N) lo' Y w l2 g) (kw : WA (EM 24) w p n nc rs zs) (kv : WA (EM 24) w q m mc qs ys) (b1 : SzB l) (b2 : SzB l2) (hb : Below w.heap.size w v) (hD : D ≤ 1000000) (hE : E ≤ 1000000) (hN : N ≤ 1000) (hn : n ≤ 1000000) (hm : m ≤ 1000000) (hz : ∀ j, j < n → qb (gq zs j) ≤ 1000000) (hy : ∀ j, j < m → qb (gq ys j) ≤ 1000000) :
    Calls Tryz.prog 12 #[.slice h.p h.n h.c, .slice g.p g.n g.c, .slice p n nc, .slice q m mc] v fun e w' => e = .returned (.int .i64 (vClose l l2 n m (wbt zs) (wbt ys))) ∧ Below v.heap.size v w' := by
  obtain ⟨B, T, h1, h2, -, -⟩ := k.below (lOr _ _ _) hb
  obtain ⟨B2, T2, h3, h4, -, -⟩ := k2.below (lOr _ _ _) hb
  exact rClose9_any h1 h3 h2 h4 (kw.below (lasts_EM 24) hb) (kv.below (lasts_EM 24) hb) hD hE hN hN (by decide) hn hm hz hy b1 b2
theorem rcauchy_at {N : Nat} {l l2 : List (List Int)} (k : Lies (EOr D E N) lo X w l h) (k2 : Lies (EOr D E N) lo' Y w l2 g) (kw : WA (EM 24) w p n nc rs zs) (kv : WA (EM 24) w q m mc qs ys) (b1 : SzB l) (b2 : SzB l2) (hb : Below w.heap.size w v) (hD : D ≤ 1000000) (hE : E ≤ 1000000) (hN : N ≤ 1000) (hn : n ≤ 1000000) (hm : m ≤ 1000000) (hz : ∀ j, j < n → qb (gq zs j) ≤ 1000000) (hy : ∀ j, j < m → qb (gq ys j) ≤ 1000000) :
    Calls Tryz.prog 16 #[.slice h.p h.n h.c, .slice g.p g.n g.c, .slice p n nc, .slice q m mc] v fun e w' => e = .returned (.int .i64 (vCauchy l l2 n m (wbt zs) (wbt ys))) ∧ Below v.heap.size v w' := by
  obtain ⟨B, T, h1, h2, -, -⟩ := k.below (lOr _ _ _) hb
  obtain ⟨B2, T2, h3, h4, -, -⟩ := k2.below (lOr _ _ _) hb
  exact rCauchy9_any h1 h3 h2 h4 (kw.below (lasts_EM 24) hb) (kv.below (lasts_EM 24) hb) hD hE hN hN (by decide) hn hm hz hy b1 b2
theorem rturn_at {N : Nat} {l : List (List Int)} (k : Lies (EOr D E N) lo X w l h) (b1 : SzB l) (hb : Below w.heap.size w v) (hD : D ≤ 1000000) (hE : E ≤ 1000000) (hN : N ≤ 1000) :
    Calls Tryz.prog 14 #[.slice h.p h.n h.c] v fun e w' => e = .returned (.int .i64 (vTurn l)) ∧ Below v.heap.size v w' := by
  obtain ⟨B, T, h1, h2, -, -⟩ := k.below (lOr _ _ _) hb
  exact rTurn9_any h1 h2 hD hE hN b1
end
end Go.Proofs.YtcdfckjlmifjiaaGreat
