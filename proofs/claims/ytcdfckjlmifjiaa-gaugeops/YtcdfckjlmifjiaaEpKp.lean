/-
  What walks of laws share: answers that lie in memory of their own (operators, polynomials, numbers that are cut, and what the reference makes of them).
-/
import Derived.Test.YtcdfckjlmifjiaaEq
import Derived.Test.YtcdfckjlmifjiaaAaWhNjUb
import Derived.Test.YtcdfckjlmifjiaaUmVsUoDmVtAf
import Derived.Test.YtcdfckjlmifjiaaBnBoBsBrVvJpRzCwVkJoBp
import Derived.Test.YtcdfckjlmifjiaaBqDuAkAlAp
import Derived.Test.YtcdfckjlmifjiaaMm
namespace Go.Proofs.Ytcdfckjlmifjiaa
open Go.RowKit
set_option linter.unusedVariables false
set_option linter.unusedSimpArgs false

/-- LastsB, in one piece. -/
structure LB {α : Type} (E : World → Nat → Nat → α → Hdr → Prop) : Prop where
  go : ∀ (w w' : World) (B T : Nat) (z : α) (h : Hdr), E w B T z h → T ≤ w.heap.size → (∀ b, B ≤ b → b < T → w'.heap[b]? = w.heap[b]?) → E w' B T z h
/-- It lies in memory of its own: from block lo on, off the blocks of X. -/
def Lies {α : Type} (E : World → Nat → Nat → α → Hdr → Prop) (lo : Nat) (X : Nat → Prop) (w : World) (z : α) (h : Hdr) : Prop := ∃ B T, E w B T z h ∧ T ≤ w.heap.size ∧ lo ≤ B ∧ ∀ b, X b → b < B ∨ T ≤ b
section
variable {α : Type} {E : World → Nat → Nat → α → Hdr → Prop} {lo : Nat} {X Y : Nat → Prop} {w w' : World} {z : α} {h : Hdr}
theorem Lies.below (k : Lies E lo X w z h) (L : LB E) (hb : Below w.heap.size w w') : Lies E lo X w' z h := by
  obtain ⟨B, T, h1, h2, h3, h4⟩ := k
  exact ⟨B, T, L.go _ _ _ _ _ _ h1 h2 fun b _ hb' => hb.block b (by omega), Nat.le_trans h2 hb.size, h3, h4⟩
theorem Lies.add (k : Lies E lo X w z h) {c : Nat} (hc : w.heap.size ≤ c) : Lies E lo (fun b => X b ∨ b = c) w z h := by
  obtain ⟨B, T, h1, h2, h3, h4⟩ := k
  refine ⟨B, T, h1, h2, h3, fun b hb => ?_⟩
  rcases hb with hb | hb
  · exact h4 b hb
  · right; omega
theorem Lies.sub (k : Lies E lo X w z h) (hs : ∀ b, Y b → X b) : Lies E lo Y w z h := by
  obtain ⟨B, T, h1, h2, h3, h4⟩ := k
  exact ⟨B, T, h1, h2, h3, fun b hb => h4 b (hs b hb)⟩
theorem Lies.put (k : Lies E lo X w z h) (L : LB E) {g o : Nat} (hg : g < lo ∨ X g) (v : Value) : Lies E lo X (w.setCell ⟨g, o, none⟩ v) z h := by
  obtain ⟨B, T, h1, h2, h3, h4⟩ := k
  refine ⟨B, T, L.go _ _ _ _ _ _ h1 h2 fun b hB hT => heap_setCell_other w ⟨g, o, none⟩ b v fun e => ?_, by simpa [World.setCell] using h2, h3, h4⟩
  simp only at e
  subst e
  rcases hg with hg | hg
  · omega
  · have := h4 b hg; omega
theorem Lies.down {lo' : Nat} (k : Lies E lo X w z h) (hl : lo' ≤ lo) : Lies E lo' X w z h := by
  obtain ⟨B, T, h1, h2, h3, h4⟩ := k
  exact ⟨B, T, h1, h2, by omega, h4⟩
end
/-- A number that is handed in, in memory of its own. -/
def NumX (K lo : Nat) (X : Nat → Prop) (w : World) (y : Int) (u : Ent) : Prop := EV w K y u ∧ (0 < u.n → ∀ a, u.p = some a → lo ≤ a.block ∧ ¬ X a.block)
/-- A number of the reference. -/
def RnX (N lo : Nat) (X : Nat → Prop) (w : World) (y : Int) (u : Ent) : Prop := RE w N y u ∧ (0 < u.n → ∀ a, u.p = some a → lo ≤ a.block ∧ ¬ X a.block)
section
variable {K lo : Nat} {X Y : Nat → Prop} {w w' : World} {y : Int} {u : Ent}
theorem NumX.below (k : NumX K lo X w y u) (hb : Below w.heap.size w w') : NumX K lo X w' y u := ⟨k.1.below hb, k.2⟩
theorem NumX.add (k : NumX K lo X w y u) {c : Nat} (hc : w.heap.size ≤ c) : NumX K lo (fun b => X b ∨ b = c) w y u := ⟨k.1, fun hn a ha => ⟨(k.2 hn a ha).1, fun h => by
  rcases h with h | h
  · exact (k.2 hn a ha).2 h
  · have := (lasts_EV K).lt k.1 hn a ha
    omega⟩⟩
theorem NumX.sub (k : NumX K lo X w y u) (hs : ∀ b, Y b → X b) : NumX K lo Y w y u := ⟨k.1, fun hn a ha => ⟨(k.2 hn a ha).1, fun h => (k.2 hn a ha).2 (hs _ h)⟩⟩
theorem NumX.put (k : NumX K lo X w y u) {g o : Nat} (hg : g < lo ∨ X g) (v : Value) : NumX K lo X (w.setCell ⟨g, o, none⟩ v) y u := ⟨k.1.same fun hn a ha => heap_setCell_other w ⟨g, o, none⟩ a.block v fun e => by
  simp only at e
  have h1 := k.2 hn a ha
  rcases hg with hg | hg
  · omega
  · rw [e] at h1; exact h1.2 hg, k.2⟩
theorem RnX.below (k : RnX K lo X w y u) (hb : Below w.heap.size w w') : RnX K lo X w' y u := ⟨k.1.below hb, k.2⟩
theorem RnX.add (k : RnX K lo X w y u) {c : Nat} (hc : w.heap.size ≤ c) : RnX K lo (fun b => X b ∨ b = c) w y u := ⟨k.1, fun hn a ha => ⟨(k.2 hn a ha).1, fun h => by
  rcases h with h | h
  · exact (k.2 hn a ha).2 h
  · have := (lasts_RE K).lt k.1 hn a ha
    omega⟩⟩
theorem RnX.sub (k : RnX K lo X w y u) (hs : ∀ b, Y b → X b) : RnX K lo Y w y u := ⟨k.1, fun hn a ha => ⟨(k.2 hn a ha).1, fun h => (k.2 hn a ha).2 (hs _ h)⟩⟩
theorem RnX.put (k : RnX K lo X w y u) {g o : Nat} (hg : g < lo ∨ X g) (v : Value) : RnX K lo X (w.setCell ⟨g, o, none⟩ v) y u := ⟨k.1.same fun hn a ha => heap_setCell_other w ⟨g, o, none⟩ a.block v fun e => by
  simp only at e
  have h1 := k.2 hn a ha
  rcases hg with hg | hg
  · omega
  · rw [e] at h1; exact h1.2 hg, k.2⟩
end
/-- Some value of a kind that lies in memory of its own. -/
def Ax.lies {α : Type} (E : World → Nat → Nat → α → Hdr → Prop) (L : LB E) (lo : Nat) : Ax := ⟨fun X v w => ∃ (h : Hdr) (z : α), v = .slice h.p h.n h.c ∧ Lies E lo X w z h, fun ⟨h, z, a, b⟩ hb => ⟨h, z, a, b.below L hb⟩, fun ⟨h, z, a, b⟩ hc => ⟨h, z, a, b.add hc⟩, fun ⟨h, z, a, b⟩ hs => ⟨h, z, a, b.sub hs⟩⟩
/-- This value of a kind. -/
def Ax.told {α : Type} (E : World → Nat → Nat → α → Hdr → Prop) (L : LB E) (lo : Nat) (z : α) : Ax := ⟨fun X v w => ∃ h : Hdr, v = .slice h.p h.n h.c ∧ Lies E lo X w z h, fun ⟨h, a, b⟩ hb => ⟨h, a, b.below L hb⟩, fun ⟨h, a, b⟩ hc => ⟨h, a, b.add hc⟩, fun ⟨h, a, b⟩ hs => ⟨h, a, b.sub hs⟩⟩
/-- A list of one entry that is built. -/
def Ax.lit (e : Ent) : Ax := ⟨fun _ v w => ∃ b, v = .slice (some ⟨b, 0, none⟩) 1 1 ∧ w.cell? ⟨b, 0, none⟩ = some (.bool e.s) ∧ w.cell? ⟨b, 1, none⟩ = some (.slice e.p e.n e.c), fun ⟨b, a, c, d⟩ hb => ⟨b, a, cell_later hb c, cell_later hb d⟩, fun h _ => h, fun h _ => h⟩
/-- A list of one number, its first entry's address, the entry. -/
def One (w : World) (b o : Nat) (u : Ent) : Prop := w.cell? ⟨b, o, none⟩ = some (.bool u.s) ∧ w.cell? ⟨b, o + 1, none⟩ = some (.slice u.p u.n u.c)
theorem One.below {w w' : World} {b o : Nat} {u : Ent} (h : One w b o u) (hb : Below w.heap.size w w') : One w' b o u := ⟨cell_later hb h.1, cell_later hb h.2⟩
def Ax.one (K lo : Nat) : Ax := ⟨fun X v w => ∃ b o c u y, v = .slice (some ⟨b, o, none⟩) 1 c ∧ One w b o u ∧ NumX K lo X w y u, fun ⟨b, o, c, u, y, a, h, k⟩ hb => ⟨b, o, c, u, y, a, h.below hb, k.below hb⟩, fun ⟨b, o, c, u, y, a, h, k⟩ hc => ⟨b, o, c, u, y, a, h, k.add hc⟩, fun ⟨b, o, c, u, y, a, h, k⟩ hs => ⟨b, o, c, u, y, a, h, k.sub hs⟩⟩
def Ax.oneAt (K lo : Nat) : Ax := ⟨fun X v w => ∃ b o u y, v = .pointer (some ⟨b, o, none⟩) ∧ One w b o u ∧ NumX K lo X w y u, fun ⟨b, o, u, y, a, h, k⟩ hb => ⟨b, o, u, y, a, h.below hb, k.below hb⟩, fun ⟨b, o, u, y, a, h, k⟩ hc => ⟨b, o, u, y, a, h, k.add hc⟩, fun ⟨b, o, u, y, a, h, k⟩ hs => ⟨b, o, u, y, a, h, k.sub hs⟩⟩
def Ax.num (K lo : Nat) : Ax := ⟨fun X v w => ∃ u y, v = .agg #[.bool (Ent.s u), .slice u.p u.n u.c] ∧ NumX K lo X w y u, fun ⟨u, y, a, h⟩ hb => ⟨u, y, a, h.below hb⟩, fun ⟨u, y, a, h⟩ hc => ⟨u, y, a, h.add hc⟩, fun ⟨u, y, a, h⟩ hs => ⟨u, y, a, h.sub hs⟩⟩
/-- The reference's number. -/
def Ax.rnum (N lo : Nat) (y : Int) : Ax := ⟨fun X v w => ∃ u, v = .agg #[.bool (Ent.s u), .slice u.p u.n u.c] ∧ RnX N lo X w y u, fun ⟨u, a, h⟩ hb => ⟨u, a, h.below hb⟩, fun ⟨u, a, h⟩ hc => ⟨u, a, h.add hc⟩, fun ⟨u, a, h⟩ hs => ⟨u, a, h.sub hs⟩⟩
/-- The kinds: operators and polynomials, of the program and of the reference. -/
abbrev EOp (D E K : Nat) := HR D (EZ K E)
abbrev EOr (D E N : Nat) := HR D (EY N E)
theorem lEZ (K E : Nat) : LB (EZ K E) := ⟨fun _ _ _ _ _ _ a b c => lastsB_EZ K E a b c⟩
theorem lEY (K E : Nat) : LB (EY K E) := ⟨fun _ _ _ _ _ _ a b c => lastsB_EY K E a b c⟩
theorem lOp (D E K : Nat) : LB (EOp D E K) := ⟨fun _ _ _ _ _ _ a b c => lastsB_HR (E := EZ K E) (fun a b c => lastsB_EZ K E a b c) a b c⟩
theorem lOr (D E N : Nat) : LB (EOr D E N) := ⟨fun _ _ _ _ _ _ a b c => lastsB_HR (E := EY N E) (fun a b c => lastsB_EY N E a b c) a b c⟩
section
variable {w v : World} {lo : Nat} {X : Nat → Prop}
theorem cut8_ax {p : Option Addr} {n nc : Nat} {hs0 : List Hdr} (h : RZ w p n nc hs0) (hb : Below w.heap.size w v) (hX : ∀ c, X c → c < v.heap.size) (hlo : lo ≤ v.heap.size) (R E L : Nat) (hR : R ≤ 1000) (hE : E ≤ 1000) (hL : L ≤ 24) :
    Calls Try.prog 6 #[.slice p n nc, .int .i64 R, .int .i64 E, .int .i64 L] v fun e w' => ∃ u, e = .returned u ∧ (Ax.lies (EOp (R + 1) E L) (lOp _ _ _) lo).is X u w' ∧ Below v.heap.size v w' := by
  refine (Cut8_any (h.below hb) R E L hR hE hL).mono ?_
  rintro e w' ⟨k, z, rfl, -, h2, h3⟩
  exact ⟨_, rfl, ⟨k, z, rfl, _, _, h2, Nat.le_refl _, hlo, fun b hb' => .inl (hX b hb')⟩, h3⟩
theorem cut3_ax {p : Option Addr} {n nc : Nat} {es0 : List Ent} (h : PZ w p n nc es0) (hb : Below w.heap.size w v) (hX : ∀ c, X c → c < v.heap.size) (hlo : lo ≤ v.heap.size) (E L : Nat) (hE : E ≤ 1000) (hL : L ≤ 24) :
    Calls Try.prog 7 #[.slice p n nc, .int .i64 E, .int .i64 L] v fun e w' => ∃ u, e = .returned u ∧ (Ax.lies (EZ L E) (lEZ _ _) lo).is X u w' ∧ Below v.heap.size v w' := by
  refine (Cut3_any (h.below hb) E L hE hL).mono ?_
  rintro e w' ⟨q, m, mc, fs, zs, rfl, h2, h3, h4, h5, h6⟩
  exact ⟨_, rfl, ⟨⟨q, m, mc⟩, zs, rfl, _, _, ez_cut h2 h3 h4 h5, Nat.le_refl _, hlo, fun b hb' => .inl (hX b hb')⟩, h6⟩
theorem cut1_ax {b : Nat} {e : Ent} (hr : RawE w e) (hb : Below w.heap.size w v) (c0 : v.cell? ⟨b, 0, none⟩ = some (.bool e.s)) (c1 : v.cell? ⟨b, 1, none⟩ = some (.slice e.p e.n e.c)) (hX : ∀ c, X c → c < v.heap.size) (hlo : lo ≤ v.heap.size) (L : Nat) (hL : L ≤ 24) :
    Calls Try.prog 7 #[.slice (some ⟨b, 0, none⟩) 1 1, .int .i64 1, .int .i64 L] v fun e w' => ∃ u, e = .returned u ∧ (Ax.one L lo).is X u w' ∧ Below v.heap.size v w' := by
  refine (Cut3_any (pz_lit c0 c1 (hr.below hb)) 1 L (by decide) hL).mono ?_
  rintro r w' ⟨q2, n2, mc2, fs2, zs2, rfl, hP2, hm2, hF4, hG4, hb2⟩
  obtain rfl : n2 = 1 := hm2
  obtain ⟨b2, c2, hq2, hc2⟩ := hP2.pl (by rw [hP2.el]; decide)
  subst hq2
  obtain ⟨i0, i1⟩ := hc2 0 (by rw [hP2.el]; decide)
  rw [Nat.zero_mul, Nat.add_zero] at i0 i1
  exact ⟨_, rfl, ⟨b2, c2, mc2, _, _, rfl, ⟨i0, i1⟩, hP2.ev 0 (by decide), fun hn a ha => by
    have h1 := hG4 0 (by decide) hn a ha
    exact ⟨by omega, fun h => by have := hX _ h; omega⟩⟩, hb2⟩
theorem from8_ax {D E K lo' : Nat} {Y : Nat → Prop} {z : List (List Int)} {h : Hdr} (k : Lies (EOp D E K) lo' Y w z h) (hb : Below w.heap.size w v) (hX : ∀ c, X c → c < v.heap.size) (hlo : lo ≤ v.heap.size) (hD : D ≤ 1000) (hE : E ≤ 1000) (hK : K ≤ 400) :
    Calls Try.prog 8 #[.slice h.p h.n h.c] v fun e w' => ∃ u, e = .returned u ∧ (Ax.told (EOr D E (2 * K)) (lOr _ _ _) lo (oz z)).is X u w' ∧ Below v.heap.size v w' := by
  obtain ⟨B, T, a, b, -, -⟩ := k.below (lOp _ _ _) hb
  refine (rFrom8_any a b hD hE hK).mono ?_
  rintro e w' ⟨u, rfl, h1, h2⟩
  rw [olen_mapt] at h1 ⊢
  rw [otr_mapt] at h1
  exact ⟨_, rfl, ⟨⟨u, olen z, olen z⟩, rfl, _, _, h1, Nat.le_refl _, hlo, fun b hb' => .inl (hX b hb')⟩, h2⟩
theorem from3_ax {K D lo' : Nat} {Y : Nat → Prop} {zs : List Int} {h : Hdr} (k : Lies (EZ K D) lo' Y w zs h) (hb : Below w.heap.size w v) (hX : ∀ c, X c → c < v.heap.size) (hlo : lo ≤ v.heap.size) (hD : D ≤ 100000) (hK : K ≤ 400) :
    Calls Try.prog 9 #[.slice h.p h.n h.c] v fun e w' => ∃ u, e = .returned u ∧ (Ax.told (EY (2 * K) D) (lEY _ _) lo (tr zs)).is X u w' ∧ Below v.heap.size v w' := by
  obtain ⟨B, T, ⟨fs, a, hn, -, -⟩, b, -, -⟩ := k.below (lEZ _ _) hb
  refine (rpFrom_new a (by omega) hK).mono ?_
  rintro r w2 ⟨px, nx, ex, rfl, hRx, hFx, htx, hGx, hb2⟩
  have hl : nx ≤ D := by
    have h1 := tlen_le zs
    have h2 := a.zl
    rw [tlen_tr] at htx
    omega
  exact ⟨_, rfl, ⟨⟨px, nx, nx⟩, rfl, _, _, ey_of_from hRx hFx htx hGx hl, Nat.le_refl _, hlo, fun b hb' => .inl (hX b hb')⟩, hb2⟩
theorem from1_ax {K lo' : Nat} {Y : Nat → Prop} {y : Int} {u : Ent} (h : NumX K lo' Y w y u) (hb : Below w.heap.size w v) (hX : ∀ c, X c → c < v.heap.size) (hlo : lo ≤ v.heap.size) :
    Calls Try.prog 10 #[.agg #[.bool u.s, .slice u.p u.n u.c]] v fun e w' => ∃ u, e = .returned u ∧ (Ax.rnum (2 * K) lo y).is X u w' ∧ Below v.heap.size v w' := by
  refine (rFrom_e (h.1.below hb)).mono ?_
  rintro r x2 ⟨u2, rfl, hR2, hF2, hx2⟩
  exact ⟨_, rfl, ⟨u2, rfl, hR2, fun _ a ha => by
    have h1 := hF2 a ha
    exact ⟨by omega, fun h => by have := hX _ h; omega⟩⟩, hx2⟩
end
end Go.Proofs.Ytcdfckjlmifjiaa
/-
  What a function leaves that writes into two rows.
-/
namespace Go.Proofs.Ytcdfckjlmifjiaa
open Go.RowKit
set_option linter.unusedVariables false
set_option linter.unusedSimpArgs false

/-- All but the blocks g and h is as it was. -/
structure Kp (g h : Nat) (w w' : World) : Prop where
  block : ∀ k, k < w.heap.size → k ≠ g → k ≠ h → w'.heap[k]? = w.heap[k]?
  os : w'.os = w.os
  tape : w'.tape = w.tape
  output : w'.output = w.output
  size : w.heap.size ≤ w'.heap.size
theorem Kp.refl (g h : Nat) (w : World) : Kp g h w w := ⟨fun _ _ _ _ => rfl, rfl, rfl, rfl, Nat.le_refl _⟩
theorem Kp.grown {g h x : Nat} {w w1 w2 : World} (k : Kp g h w w1) (hg : w1.grownBy w2 (some x)) (hx : x = g ∨ x = h) : Kp g h w w2 :=
  ⟨fun i hi a b => (hg.block i (Nat.lt_of_lt_of_le hi k.size) (fun e => by cases e; rcases hx with rfl | rfl <;> contradiction)).trans (k.block i hi a b), hg.os.trans k.os, hg.tape.trans k.tape, hg.output.trans k.output, Nat.le_trans k.size hg.size⟩
end Go.Proofs.Ytcdfckjlmifjiaa
