/-
  Plain facts on division without fractions, step by step.
-/
import Derived.Test.YtakfimhpnpapdaaGreatDoorDcPm
import Derived.Test.YtakfimhpnpapdaaGreatDoorUy
import Derived.Test.YtakfimhpnpapdaaGreatDoorVgRo
import Derived.Test.YtakfimhpnpapdaaGreatDoorUbUcUdOwRa
import Derived.Test.YtakfimhpnpapdaaGreatDoorUtReRxRf
import Derived.Deep.DeepFit
namespace Go.Proofs.YtakfimhpnpapdaaGreatDoor
open Go.RowKit
set_option linter.unusedVariables false
set_option linter.unusedSimpArgs false

/-- What is left behind s steps. -/
def RS (L : Int) (b : List Int) (m K0 : Nat) (a : Nat → Int) : Nat → Nat → Int
  | 0, t => a t
  | s + 1, t => L * RS L b m K0 a s t - RS L b m K0 a s (K0 - s + m) * (if K0 - s ≤ t then gx b (t - (K0 - s)) else 0)
/-- The quotient behind s steps. -/
def QS (L : Int) (b : List Int) (m K0 : Nat) (a : Nat → Int) : Nat → Nat → Int
  | 0, _ => 0
  | s + 1, i => L * QS L b m K0 a s i + (if i = K0 - s then RS L b m K0 a s (K0 - s + m) else 0)
/-- The first rows of a product with a function. -/
def cvf (Q : Nat → Int) (b : List Int) : Nat → Nat → Int
  | 0, _ => 0
  | i + 1, t => cvf Q b i t + (if i ≤ t then Q i * gx b (t - i) else 0)
theorem cvf_lin (L c : Int) (Q : Nat → Int) (b : List Int) (k t : Nat) : ∀ n, cvf (fun i => L * Q i + (if i = k then c else 0)) b n t = L * cvf Q b n t + (if k < n ∧ k ≤ t then c * gx b (t - k) else 0)
  | 0 => by simp [cvf]
  | n + 1 => by
    rw [cvf, cvf_lin L c Q b k t n, cvf]
    by_cases h1 : n = k
    · subst h1
      by_cases h2 : n ≤ t
      · rw [if_neg (by omega), if_pos h2, if_pos rfl, if_pos h2, if_pos (by omega)]
        grind
      · rw [if_neg (by omega), if_neg h2, if_neg h2, if_neg (by omega)]
        grind
    · by_cases h2 : n ≤ t
      · rw [if_pos h2, if_neg h1, if_pos h2]
        by_cases h3 : k < n ∧ k ≤ t
        · rw [if_pos h3, if_pos (by omega)]; grind
        · rw [if_neg h3, if_neg (by omega)]; grind
      · rw [if_neg h2, if_neg h2]
        by_cases h3 : k < n ∧ k ≤ t
        · rw [if_pos h3, if_pos (by omega)]; grind
        · rw [if_neg h3, if_neg (by omega)]; grind
theorem cvf_zero (b : List Int) (t : Nat) : ∀ n, cvf (fun _ => 0) b n t = 0
  | 0 => rfl
  | n + 1 => by rw [cvf, cvf_zero b t n]; simp
/-- Behind each step: L^s a = q b + r. -/
theorem pseudo_inv (L : Int) (b : List Int) (m K0 : Nat) (a : Nat → Int) (t : Nat) : ∀ s, s ≤ K0 + 1 → L ^ s * a t = cvf (QS L b m K0 a s) b (K0 + 1) t + RS L b m K0 a s t
  | 0, _ => by
    show L ^ 0 * a t = cvf (fun _ => 0) b (K0 + 1) t + a t
    rw [cvf_zero, Int.pow_zero]
    omega
  | s + 1, h => by
    have ih := pseudo_inv L b m K0 a t s (by omega)
    have e : cvf (QS L b m K0 a (s + 1)) b (K0 + 1) t = L * cvf (QS L b m K0 a s) b (K0 + 1) t + (if K0 - s < K0 + 1 ∧ K0 - s ≤ t then RS L b m K0 a s (K0 - s + m) * gx b (t - (K0 - s)) else 0) := cvf_lin L (RS L b m K0 a s (K0 - s + m)) (QS L b m K0 a s) b (K0 - s) t (K0 + 1)
    rw [e, RS, Int.pow_succ]
    generalize RS L b m K0 a s (K0 - s + m) = c at *
    by_cases h2 : K0 - s ≤ t
    · rw [if_pos (by omega), if_pos h2]
      grind
    · rw [if_neg (by omega), if_neg h2]
      grind
/-- What is left grows shorter by each step. -/
theorem rs_zero {L : Int} {b : List Int} {m K0 : Nat} {a : Nat → Int} (hb : gx b m = L) (hl : b.length ≤ m + 1) (ha : ∀ t, K0 + m + 1 ≤ t → a t = 0) : ∀ s, s ≤ K0 + 1 → ∀ t, K0 + m + 1 ≤ t + s → RS L b m K0 a s t = 0
  | 0, _, t, h => ha t (by omega)
  | s + 1, hs, t, h => by
    have ih := rs_zero hb hl ha s (by omega)
    rw [RS]
    rcases Nat.lt_or_ge (K0 - s + m) t with h1 | h1
    · rw [ih t (by omega), if_pos (by omega), gx_past b (m + 1) hl (t - (K0 - s)) (by omega)]
      simp
    · obtain rfl : t = K0 - s + m := by omega
      rw [if_pos (by omega), show K0 - s + m - (K0 - s) = m by omega, hb]
      grind
/-- Entries that no step has reached. -/
theorem rs_low {L : Int} {b : List Int} {m K0 : Nat} {a : Nat → Int} : ∀ s, s ≤ K0 + 1 → ∀ t, t + s ≤ K0 → RS L b m K0 a s t = L ^ s * a t
  | 0, _, t, _ => by rw [RS, Int.pow_zero]; omega
  | s + 1, hs, t, h => by
    rw [RS, rs_low s (by omega) t (by omega), if_neg (by omega), Int.pow_succ]
    grind
/-- A quotient's entry, all steps done: its own step's lead, and the steps behind it. -/
theorem qs_at {L : Int} {b : List Int} {m K0 : Nat} {a : Nat → Int} (i : Nat) (hi : i ≤ K0) : ∀ s, s ≤ K0 + 1 → QS L b m K0 a s i = if K0 - i < s then RS L b m K0 a (K0 - i) (i + m) * L ^ (s - (K0 - i) - 1) else 0
  | 0, _ => by rw [QS, if_neg (by omega)]
  | s + 1, hs => by
    rw [QS, qs_at i hi s (by omega)]
    by_cases h1 : K0 - i < s
    · rw [if_pos h1, if_neg (by omega), if_pos (by omega), show s + 1 - (K0 - i) - 1 = (s - (K0 - i) - 1) + 1 by omega, Int.pow_succ]
      grind
    · rw [if_neg h1]
      by_cases h2 : K0 - i = s
      · subst h2
        rw [if_pos (by omega), if_pos (by omega), show K0 - (K0 - i) = i by omega, show K0 - i + 1 - (K0 - i) - 1 = 0 by omega, Int.pow_zero]
        grind
      · rw [if_neg (by omega), if_neg (by omega)]
        grind
theorem cvf_congr {Q R : Nat → Int} (b : List Int) (t : Nat) : ∀ n, (∀ i, i < n → Q i = R i) → cvf Q b n t = cvf R b n t
  | 0, _ => rfl
  | n + 1, h => by rw [cvf, cvf, cvf_congr b t n (fun i hi => h i (by omega)), h n (by omega)]
theorem ps_cvf (q b : List Int) (t : Nat) : ∀ n, ps q b n t = cvf (gx q) b n t
  | 0 => rfl
  | n + 1 => by rw [ps, cvf, ps_cvf q b t n]
theorem ps_more (q b : List Int) (t n : Nat) (h : ∀ i, n ≤ i → gx q i = 0) : ∀ m, ps q b (n + m) t = ps q b n t
  | 0 => rfl
  | m + 1 => by rw [← Nat.add_assoc, ps_none q b _ t (h _ (by omega)), ps_more q b t n h m]
/-- Division without fractions: L^(K0 + 1) x = q y + r. -/
theorem pseudo_law {xs ys q r : List Int} {L : Int} {m K0 : Nat} (hq : ∀ i, gx q i = if i ≤ K0 then QS L ys m K0 (gx xs) (K0 + 1) i else 0) (hr : ∀ t, gx r t = RS L ys m K0 (gx xs) (K0 + 1) t) :
    tr (xs.map (L ^ (K0 + 1) * ·)) = tr (pz (· + ·) (mulp q ys) r) := by
  refine tr_same fun t => ?_
  rw [gx_map0 (L ^ (K0 + 1) * ·) (by simp), gx_pz0 _ rfl, gx_mulp, hr, pseudo_inv L ys m K0 (gx xs) t (K0 + 1) (Nat.le_refl _)]
  congr 1
  have h1 := ps_late q ys t (K0 + 1)
  have h2 := ps_more q ys t (K0 + 1) (fun i hi => by rw [hq, if_neg (by omega)]) (t + 1)
  rw [← h1, Nat.add_comm (t + 1), h2, ps_cvf]
  exact cvf_congr ys t _ (fun i hi => by rw [hq, if_pos (by omega)])
end Go.Proofs.YtakfimhpnpapdaaGreatDoor
/-
  Plain: sizes of powers and products.
-/
namespace Go.Proofs.YtakfimhpnpapdaaGreatDoor
open Go.RowKit
set_option linter.unusedVariables false
set_option linter.unusedSimpArgs false

/-- The entries of k^d p(x / k). -/
def widz (k : Int) (zs : List Int) : List Int := (List.range zs.length).map fun i => gx zs i * k ^ (zs.length - 1 - i)
theorem length_widz (k : Int) (zs : List Int) : (widz k zs).length = zs.length := by simp [widz]
theorem gx_widz (k : Int) (zs : List Int) (i : Nat) (h : i < zs.length) : gx (widz k zs) i = gx zs i * k ^ (zs.length - 1 - i) := by
  rw [gx_mem _ _ (by rw [length_widz]; exact h)]
  simp [widz]
theorem term_lt {a b : Int} {i j : Nat} (h : (a.natAbs : Int) < pw i) (k : (b.natAbs : Int) < pw j) : ((a * b).natAbs : Int) < pw (i + j) := by
  rw [Int.natAbs_mul, pw_add]
  push_cast
  have h1 := pw_pos i
  have h2 := pw_pos j
  have h3 : (a.natAbs : Int) * (b.natAbs : Int) ≤ (a.natAbs : Int) * pw j := Int.mul_le_mul_of_nonneg_left (by omega) (by omega)
  have h4 : (a.natAbs : Int) * pw j < pw i * pw j := Int.mul_lt_mul_of_pos_right h h2
  omega
theorem pow_lt {k : Int} {L : Nat} (hk : (k.natAbs : Int) < pw L) (hL : 1 ≤ L) : ∀ m, ((k ^ m).natAbs : Int) < pw (m * L + 1)
  | 0 => by
    rw [Nat.zero_mul, Int.pow_zero]
    decide
  | m + 1 => by
    rw [Int.pow_succ, show (m + 1) * L + 1 = (m * L + 1) + L by rw [Nat.succ_mul]; omega]
    exact term_lt (pow_lt hk hL m) hk
end Go.Proofs.YtakfimhpnpapdaaGreatDoor
/-
  Plain facts on pseudoQuotient's list, entry by entry.
-/
namespace Go.Proofs.YtakfimhpnpapdaaGreatDoor
open Go.RowKit
set_option linter.unusedVariables false
set_option linter.unusedSimpArgs false

/-- The entries of rest behind s steps; K0 - s is next. -/
def prf (L : Int) (b : List Int) (m K0 : Nat) (a : Nat → Int) (s t : Nat) : Int :=
  if t + s ≤ K0 then a t else if t + s ≤ K0 + m then RS L b m K0 a s t else RS L b m K0 a (K0 + m - t) t
/-- Entry K0 - s has caught up. -/
def psf (L : Int) (b : List Int) (m K0 : Nat) (a : Nat → Int) (s t : Nat) : Int :=
  if t = K0 - s then RS L b m K0 a s t else prf L b m K0 a s t
/-- And j entries of the next step are made. -/
def pjf (L : Int) (b : List Int) (m K0 : Nat) (a : Nat → Int) (s j t : Nat) : Int :=
  if K0 - s ≤ t ∧ t < K0 - s + j then RS L b m K0 a (s + 1) t else psf L b m K0 a s t
section
variable (L : Int) (b : List Int) (m K0 : Nat) (a : Nat → Int)
theorem prf_start (t : Nat) (ht : t ≤ K0 + m) : prf L b m K0 a 0 t = a t := by
  rw [prf]
  split
  · rfl
  · rw [if_pos (by omega)]
    rfl
theorem psf_same (s : Nat) (hs : s ≤ K0) : psf L b m K0 a s (K0 - s) = prf L b m K0 a s (K0 - s) * L ^ s := by
  rw [psf, if_pos rfl, prf, if_pos (by omega), rs_low s (by omega) (K0 - s) (by omega), Int.mul_comm]
theorem psf_other (s t : Nat) (h : t ≠ K0 - s) : psf L b m K0 a s t = prf L b m K0 a s t := by rw [psf, if_neg h]
theorem pjf_zero (s t : Nat) : pjf L b m K0 a s 0 t = psf L b m K0 a s t := by rw [pjf, if_neg (by omega)]
theorem pjf_lead (s j : Nat) (hs : s ≤ K0) (hj : j ≤ m) : pjf L b m K0 a s j (K0 - s + m) = RS L b m K0 a s (K0 - s + m) := by
  rw [pjf, if_neg (by omega), psf]
  by_cases h : K0 - s + m = K0 - s
  · rw [if_pos h]
  · rw [if_neg h, prf, if_neg (by omega), if_pos (by omega)]
theorem pjf_at (s j : Nat) (hs : s ≤ K0) (hj : j < m) : pjf L b m K0 a s j (K0 - s + j) = RS L b m K0 a s (K0 - s + j) := by
  rw [pjf, if_neg (by omega), psf]
  by_cases h : K0 - s + j = K0 - s
  · rw [if_pos h]
  · rw [if_neg h, prf, if_neg (by omega), if_pos (by omega)]
theorem pjf_same (s j : Nat) (hs : s ≤ K0) (hj : j < m) : pjf L b m K0 a s (j + 1) (K0 - s + j) = L * pjf L b m K0 a s j (K0 - s + j) - pjf L b m K0 a s j (K0 - s + m) * gx b j := by
  rw [pjf_at L b m K0 a s j hs hj, pjf_lead L b m K0 a s j hs (by omega), pjf, if_pos (by omega), RS, if_pos (by omega), Nat.add_sub_cancel_left]
theorem pjf_other (s j t : Nat) (h : t ≠ K0 - s + j) : pjf L b m K0 a s (j + 1) t = pjf L b m K0 a s j t := by
  rw [pjf, pjf]
  by_cases h1 : K0 - s ≤ t ∧ t < K0 - s + j
  · rw [if_pos (by omega), if_pos h1]
  · rw [if_neg (by omega), if_neg h1]
/-- A step is done. -/
theorem pjf_all (s t : Nat) (hs : s ≤ K0) (ht : t ≤ K0 + m) : pjf L b m K0 a s m t = prf L b m K0 a (s + 1) t := by
  rw [pjf]
  by_cases h1 : K0 - s ≤ t ∧ t < K0 - s + m
  · rw [if_pos h1, prf, if_neg (by omega), if_pos (by omega)]
  · rw [if_neg h1, psf]
    by_cases h2 : t = K0 - s
    · subst h2
      obtain rfl : m = 0 := by omega
      rw [if_pos rfl, prf, if_neg (by omega), if_neg (by omega), show K0 + 0 - (K0 - s) = s by omega]
    · rw [if_neg h2, prf, prf]
      by_cases h3 : t + s ≤ K0
      · rw [if_pos h3, if_pos (by omega)]
      · by_cases h4 : t + s ≤ K0 + m
        · rw [if_neg h3, if_pos h4, if_neg (by omega), if_neg (by omega), show K0 + m - t = s by omega]
        · rw [if_neg h3, if_neg h4, if_neg (by omega), if_neg (by omega)]
/-- All steps done: the quotient's entries, ahead of their powers. -/
theorem prf_quo (i : Nat) (hi : i ≤ K0) : prf L b m K0 a (K0 + 1) (i + m) * L ^ i = QS L b m K0 a (K0 + 1) i := by
  rw [qs_at i hi (K0 + 1) (Nat.le_refl _), if_pos (by omega), prf, if_neg (by omega), if_neg (by omega), show K0 + m - (i + m) = K0 - i by omega, show K0 + 1 - (K0 - i) - 1 = i by omega]
/-- And what is left. -/
theorem prf_rest (t : Nat) (ht : t < m) : prf L b m K0 a (K0 + 1) t = RS L b m K0 a (K0 + 1) t := by
  rw [prf, if_neg (by omega), if_pos (by omega)]
end
theorem rs_lt {L : Int} {b : List Int} {m K0 : Nat} {a : Nat → Int} {A D : Nat} (hL : (L.natAbs : Int) < pw D) (hb : ∀ t, ((gx b t).natAbs : Int) < pw D) (ha : ∀ t, ((a t).natAbs : Int) < pw A) : ∀ s t, ((RS L b m K0 a s t).natAbs : Int) < pw (A + s * (D + 1))
  | 0, t => by rw [Nat.zero_mul]; exact ha t
  | s + 1, t => by
    have ih := rs_lt (m := m) (K0 := K0) hL hb ha s
    rw [show A + (s + 1) * (D + 1) = A + s * (D + 1) + D + 1 by rw [Nat.succ_mul]; omega]
    generalize A + s * (D + 1) = B at *
    have h1 := term_lt hL (ih t)
    rw [Nat.add_comm] at h1
    have h2 : ((RS L b m K0 a s (K0 - s + m) * (if K0 - s ≤ t then gx b (t - (K0 - s)) else 0)).natAbs : Int) < pw (B + D) := by
      split
      · exact term_lt (ih _) (hb _)
      · rw [Int.mul_zero]; exact pw_pos _
    have h3 := pw_pos (B + D)
    rw [RS, pw_succ]
    omega
end Go.Proofs.YtakfimhpnpapdaaGreatDoor
/-
  Entries that are answered last; limbs.Of for entries.
-/
namespace Go.Proofs.YtakfimhpnpapdaaGreatDoor
open Go.RowKit
set_option linter.unusedVariables false
set_option linter.unusedSimpArgs false

theorem lasts_NV (B K : Nat) : Lasts (fun w z e => NV B w K z e) := ⟨fun h hg hne => by
    obtain ⟨xs, h1, h2⟩ := h
    exact ⟨xs, ⟨h1.len, rd_grown h1.rd hg (by rw [h1.len]; exact hne), h1.u, h1.nrm, h1.sg, h1.pn, h1.v, h1.fr⟩, h2⟩, fun h hn => by
    obtain ⟨xs, h1, h2⟩ := h
    exact rd_lt h1.rd (by rw [h1.len]; exact hn)⟩
theorem Of_e (a : Int) (w : World) (h0 : -9223372036854775808 ≤ a) (h1 : a ≤ 9223372036854775807) : Calls Tryz.prog 50 #[.int .i64 a] w fun r w' => ∃ u : Ent, r = .returned (.agg #[.bool u.s, .slice u.p u.n u.c]) ∧ NV w.heap.size w' 2 a u ∧ Below w.heap.size w w' := by
  refine (Of_any a w h0 h1).mono ?_
  rintro e w' ⟨s', p', n', zs, rfl, g1, g2, g3⟩
  exact ⟨⟨s', p', n', n'⟩, rfl, ⟨zs, g1, rfl, g2⟩, g3⟩
end Go.Proofs.YtakfimhpnpapdaaGreatDoor
/-
  An entry does not lie in a block that is newer.
-/
namespace Go.Proofs.YtakfimhpnpapdaaGreatDoor
open Go.RowKit
set_option linter.unusedVariables false
set_option linter.unusedSimpArgs false

theorem EV.offm {w : World} {K : Nat} {z : Int} {e : Ent} (h : EV w K z e) {g : Nat} (hg : w.heap.size ≤ g) : 0 < e.n → Off g e.p := fun h0 a ha k => by
  obtain ⟨xs, h1, h2, h3⟩ := h
  obtain ⟨b, o, hp, hlt⟩ := h1.rd.lt (by rw [h1.len]; exact h0)
  rw [hp] at ha
  cases ha
  dsimp only at k
  omega
end Go.Proofs.YtakfimhpnpapdaaGreatDoor
/-
  upoly.pseudoQuotient: what holds between its lines.
-/
namespace Go.Proofs.YtakfimhpnpapdaaGreatDoor
open Go.RowKit
set_option linter.unusedVariables false
set_option linter.unusedSimpArgs false

/-- Behind some part of pseudoQuotient's first loop. -/
structure PQ (w wr : World) (g gp M n KL s : Nat) (us : List Ent) (F : Nat → Int) (L : Int) (l f : Ent) (N : Nat → Prop) : Prop where
  row : RW wr g 29 us
  len : us.length = n
  ev : ∀ t, t < n → EV wr M (F t) (ge us t) ∧ (0 < (ge us t).n → Off g (ge us t).p ∧ Off gp (ge us t).p)
  nv : ∀ t, t < n → N t → NV w.heap.size wr M (F t) (ge us t)
  lb : Bx wr w.heap.size (.bool l.s) (.slice l.p l.n l.c)
  le : EV wr KL L l
  lo : 0 < l.n → Off g l.p ∧ Off gp l.p
  pb : Bx wr gp (.bool f.s) (.slice f.p f.n f.c)
  pe : EV wr M (L ^ s) f
  po : 0 < f.n → Off g f.p
  bw : Below w.heap.size w wr
  lt : w.heap.size < g ∧ g < gp
section
variable {w wr w' : World} {g gp M n KL s : Nat} {us : List Ent} {F G : Nat → Int} {L : Int} {l f u : Ent} {N N' : Nat → Prop}
theorem PQ.below (h : PQ w wr g gp M n KL s us F L l f N) (hb : Below wr.heap.size wr w') : PQ w w' g gp M n KL s us F L l f N :=
  ⟨h.row.below hb h.row.lt, h.len, fun t ht => ⟨(h.ev t ht).1.below hb, (h.ev t ht).2⟩, fun t ht hN => (h.nv t ht hN).below hb, h.lb.later hb, h.le.below hb, h.lo, h.pb.later hb, h.pe.below hb, h.po, bnext' h.bw hb, h.lt⟩
theorem PQ.same (h : PQ w wr g gp M n KL s us F L l f N) (hG : ∀ t, t < n → G t = F t) (hN : ∀ t, t < n → N' t → N t) : PQ w wr g gp M n KL s us G L l f N' :=
  ⟨h.row, h.len, fun t ht => by rw [hG t ht]; exact h.ev t ht, fun t ht hq => by rw [hG t ht]; exact h.nv t ht (hN t ht hq), h.lb, h.le, h.lo, h.pb, h.pe, h.po, h.bw, h.lt⟩
theorem PQ.set (h : PQ w wr g gp M n KL s us F L l f N) (t : Nat) (e : Ent) (ht : t < n) (hv : EV wr M (G t) e) (hnv : N' t → NV w.heap.size wr M (G t) e) (ho : 0 < e.n → Off g e.p ∧ Off gp e.p) (hG : ∀ r, r < n → r ≠ t → G r = F r) (hN : ∀ r, r < n → r ≠ t → N' r → N r) :
    PQ w ((wr.setCell ⟨g, t * 2, none⟩ (.bool e.s)).setCell ⟨g, t * 2 + 1, none⟩ (.slice e.p e.n e.c)) g gp M n KL s (us.set t e) G L l f N' := by
  have hl := h.len
  have hlt := h.lt
  refine ⟨h.row.set t e (by omega), by simpa using hl, fun r hr => ?_, fun r hr hq => ?_, Bx_any h.lb (by omega), h.le.set2 fun h0 => (h.lo h0).1, h.lo, Bx_any h.pb (by omega), h.pe.set2 h.po, h.po, Bel_st (Bel_st h.bw (by show w.heap.size ≤ g; omega)) (by show w.heap.size ≤ g; omega), hlt⟩
  · by_cases he : r = t
    · subst he
      rw [ge_set_same _ _ _ (by omega)]
      exact ⟨hv.set2 fun h0 => (ho h0).1, ho⟩
    · rw [ge_set_other _ _ _ _ he, hG r hr he]
      exact ⟨(h.ev r hr).1.set2 fun h0 => ((h.ev r hr).2 h0).1, (h.ev r hr).2⟩
  · by_cases he : r = t
    · subst he
      rw [ge_set_same _ _ _ (by omega)]
      exact (hnv hq).set2o fun h0 => (ho h0).1
    · rw [ge_set_other _ _ _ _ he, hG r hr he]
      exact (h.nv r hr (hN r hr he hq)).set2o fun h0 => ((h.ev r hr).2 h0).1
theorem PQ.power {z : Nat} (h : PQ w wr g gp M n KL s us F L l f N) (hu : EV wr M (L ^ z) u) (ho : 0 < u.n → Off g u.p ∧ Off gp u.p) :
    PQ w ((wr.setCell ⟨gp, 0, none⟩ (.bool u.s)).setCell ⟨gp, 1, none⟩ (.slice u.p u.n u.c)) g gp M n KL z us F L l u N := by
  have hlt := h.lt
  exact ⟨(h.row.set_other _ _ (by show g ≠ gp; omega)).set_other _ _ (by show g ≠ gp; omega), h.len, fun r hr => ⟨(h.ev r hr).1.set2 (o := 0) fun h0 => ((h.ev r hr).2 h0).2, (h.ev r hr).2⟩, fun r hr hN => (h.nv r hr hN).set2o (o := 0) fun h0 => ((h.ev r hr).2 h0).2, Bx_oth h.lb (by omega), h.le.set2 (o := 0) fun h0 => (h.lo h0).2, h.lo, Bx_set h.pb, hu.set2 (o := 0) fun h0 => (ho h0).2, fun h0 => (ho h0).1, bset2 h.bw (by omega) _ _, hlt⟩
end
/-- Behind some part of its second loop. -/
structure Q3 (w wr : World) (g gp g2 M m R KL k k1 : Nat) (us vs : List Ent) (F G : Nat → Int) (L : Int) (l f : Ent) : Prop where
  row : RW wr g 29 us
  len : m ≤ us.length
  nv : ∀ t, t < m → NV w.heap.size wr M (F t) (ge us t) ∧ (0 < (ge us t).n → Off g2 (ge us t).p ∧ Off gp (ge us t).p)
  row2 : RW wr g2 29 vs
  len2 : vs.length = R
  ev2 : ∀ i, i < R → EV wr M (G i) (ge vs i) ∧ (0 < (ge vs i).n → Off g2 (ge vs i).p ∧ Off gp (ge vs i).p)
  nv2 : ∀ i, i < k → i < R → NV w.heap.size wr M (G i) (ge vs i)
  lb : Bx wr w.heap.size (.bool l.s) (.slice l.p l.n l.c)
  le : EV wr KL L l
  lo : 0 < l.n → Off g2 l.p ∧ Off gp l.p
  pb : Bx wr gp (.bool f.s) (.slice f.p f.n f.c)
  pe : EV wr M (L ^ k1) f
  po : 0 < f.n → Off g2 f.p
  bw : Below w.heap.size w wr
  lt : w.heap.size < g ∧ g < gp ∧ gp < g2
section
variable {w wr w' : World} {g gp g2 M m R KL k k1 : Nat} {us vs : List Ent} {F G H : Nat → Int} {L : Int} {l f u : Ent}
theorem Q3.below (h : Q3 w wr g gp g2 M m R KL k k1 us vs F G L l f) (hb : Below wr.heap.size wr w') : Q3 w w' g gp g2 M m R KL k k1 us vs F G L l f :=
  ⟨h.row.below hb h.row.lt, h.len, fun t ht => ⟨(h.nv t ht).1.below hb, (h.nv t ht).2⟩, h.row2.below hb h.row2.lt, h.len2, fun t ht => ⟨(h.ev2 t ht).1.below hb, (h.ev2 t ht).2⟩, fun t hk ht => (h.nv2 t hk ht).below hb, h.lb.later hb, h.le.below hb, h.lo, h.pb.later hb, h.pe.below hb, h.po, bnext' h.bw hb, h.lt⟩
theorem Q3.set (h : Q3 w wr g gp g2 M m R KL k k1 us vs F G L l f) (e : Ent) (hk : k < R) (hv : NV w.heap.size wr M (H k) e) (hM : M ≤ 1000) (ho : 0 < e.n → Off g2 e.p ∧ Off gp e.p) (hG : ∀ r, r ≠ k → H r = G r) :
    Q3 w ((wr.setCell ⟨g2, k * 2, none⟩ (.bool e.s)).setCell ⟨g2, k * 2 + 1, none⟩ (.slice e.p e.n e.c)) g gp g2 M m R KL (k + 1) k1 us (vs.set k e) F H L l f := by
  have hl := h.len2
  have hlt := h.lt
  refine ⟨(h.row.set_other _ _ (by show g ≠ g2; omega)).set_other _ _ (by show g ≠ g2; omega), h.len, fun t ht => ⟨(h.nv t ht).1.set2o fun h0 => ((h.nv t ht).2 h0).1, (h.nv t ht).2⟩, h.row2.set k e (by omega), by simpa using hl, fun r hr => ?_, fun r hr1 hr => ?_, Bx_any h.lb (by omega), h.le.set2 fun h0 => (h.lo h0).1, h.lo, Bx_any h.pb (by omega), h.pe.set2 h.po, h.po, Bel_st (Bel_st h.bw (by show w.heap.size ≤ g2; omega)) (by show w.heap.size ≤ g2; omega), hlt⟩
  · by_cases he : r = k
    · subst he
      rw [ge_set_same _ _ _ (by omega)]
      exact ⟨(hv.ev hM).set2 fun h0 => (ho h0).1, ho⟩
    · rw [ge_set_other _ _ _ _ he, hG r he]
      exact ⟨(h.ev2 r hr).1.set2 fun h0 => ((h.ev2 r hr).2 h0).1, (h.ev2 r hr).2⟩
  · by_cases he : r = k
    · subst he
      rw [ge_set_same _ _ _ (by omega)]
      exact hv.set2o fun h0 => (ho h0).1
    · rw [ge_set_other _ _ _ _ he, hG r he]
      exact (h.nv2 r (by omega) hr).set2o fun h0 => ((h.ev2 r hr).2 h0).1
theorem Q3.power {z : Nat} (h : Q3 w wr g gp g2 M m R KL k k1 us vs F G L l f) (hu : EV wr M (L ^ z) u) (ho : 0 < u.n → Off g2 u.p ∧ Off gp u.p) :
    Q3 w ((wr.setCell ⟨gp, 0, none⟩ (.bool u.s)).setCell ⟨gp, 1, none⟩ (.slice u.p u.n u.c)) g gp g2 M m R KL k z us vs F G L l u := by
  have hlt := h.lt
  exact ⟨(h.row.set_other _ _ (by show g ≠ gp; omega)).set_other _ _ (by show g ≠ gp; omega), h.len, fun r hr => ⟨(h.nv r hr).1.set2o (o := 0) fun h0 => ((h.nv r hr).2 h0).2, (h.nv r hr).2⟩, (h.row2.set_other _ _ (by show g2 ≠ gp; omega)).set_other _ _ (by show g2 ≠ gp; omega), h.len2, fun r hr => ⟨(h.ev2 r hr).1.set2 (o := 0) fun h0 => ((h.ev2 r hr).2 h0).2, (h.ev2 r hr).2⟩, fun r hk hr => (h.nv2 r hk hr).set2o (o := 0) fun h0 => ((h.ev2 r hr).2 h0).2, Bx_oth h.lb (by omega), h.le.set2 (o := 0) fun h0 => (h.lo h0).2, h.lo, Bx_set h.pb, hu.set2 (o := 0) fun h0 => (ho h0).2, fun h0 => (ho h0).1, bset2 h.bw (by omega) _ _, hlt⟩
end
/-- The quotient's entries behind k rounds of the second loop. -/
def qkf (L : Int) (b : List Int) (m K0 : Nat) (a : Nat → Int) (k i : Nat) : Int :=
  if i < k then QS L b m K0 a (K0 + 1) i else prf L b m K0 a (K0 + 1) (i + m)
theorem qkf_zero (L : Int) (b : List Int) (m K0 : Nat) (a : Nat → Int) (i : Nat) : qkf L b m K0 a 0 i = prf L b m K0 a (K0 + 1) (i + m) := by rw [qkf, if_neg (by omega)]
theorem qkf_same (L : Int) (b : List Int) (m K0 : Nat) (a : Nat → Int) (k : Nat) (hk : k ≤ K0) : qkf L b m K0 a (k + 1) k = qkf L b m K0 a k k * L ^ k := by
  rw [qkf, if_pos (by omega), qkf, if_neg (by omega), prf_quo L b m K0 a k hk]
theorem qkf_other (L : Int) (b : List Int) (m K0 : Nat) (a : Nat → Int) (k i : Nat) (h : i ≠ k) : qkf L b m K0 a (k + 1) i = qkf L b m K0 a k i := by
  rw [qkf, qkf]
  by_cases h1 : i < k
  · rw [if_pos (by omega), if_pos h1]
  · rw [if_neg (by omega), if_neg h1]
/-- Sizes of the quotient's entries. -/
theorem qs_lt {L : Int} {b : List Int} {m K0 : Nat} {a : Nat → Int} {K : Nat} (hK : 1 ≤ K) (hL : (L.natAbs : Int) < pw K) (hb : ∀ t, ((gx b t).natAbs : Int) < pw K) (ha : ∀ t, ((a t).natAbs : Int) < pw K) (i : Nat) (hi : i ≤ K0) : ((QS L b m K0 a (K0 + 1) i).natAbs : Int) < pw (K + (K0 + 1) * (K + 1)) := by
  rw [qs_at i hi (K0 + 1) (Nat.le_refl _), if_pos (by omega), show K0 + 1 - (K0 - i) - 1 = i by omega]
  have h1 := term_lt (rs_lt (m := m) (K0 := K0) hL hb ha (K0 - i) (i + m)) (pow_lt hL hK i)
  refine Int.lt_of_lt_of_le h1 (pw_mono ?_)
  have h2 : (K0 - i) * (K + 1) + i * (K + 1) = K0 * (K + 1) := by rw [← Nat.add_mul, Nat.sub_add_cancel hi]
  have h3 : i * K ≤ i * (K + 1) := Nat.mul_le_mul_left _ (by omega)
  have h4 : (K0 + 1) * (K + 1) = K0 * (K + 1) + (K + 1) := by rw [Nat.add_mul, Nat.one_mul]
  omega
end Go.Proofs.YtakfimhpnpapdaaGreatDoor
