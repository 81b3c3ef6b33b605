/-
  Plain facts on rationals: lowest terms.
-/
import Derived.Test.YtongkalfdgleaaaGreatDoorPl
import Derived.Deep.QuietTactic
import Derived.BigQuiet
import Derived.Laws.CopyOwn
import Derived.Deep.AppendLies
import Derived.Deep.RegionHeld3
import Derived.Deep.MidRow
import Derived.Deep.WholeRow
namespace Go.Proofs.YtongkalfdgleaaaGreatDoor
open Go.RowKit
set_option linter.unusedVariables false
set_option linter.unusedSimpArgs false

theorem rat_low (a b : Int) (hb : b ≠ 0) : ∃ g : Int, g = (if b < 0 then -(Int.gcd a b : Int) else (Int.gcd a b : Int)) ∧ g ≠ 0 ∧ a = (Rat.divInt a b).num * g ∧ b = (Rat.divInt a b).den * g := by
  refine ⟨_, rfl, ?_, ?_, ?_⟩
  · have : Int.gcd a b ≠ 0 := by intro h; rw [Int.gcd_eq_zero_iff] at h; exact hb h.2
    split <;> omega
  · rw [Rat.num_divInt, Int.gcd_comm b a]
    have hd : ((Int.gcd a b : Nat) : Int) ∣ a := Int.gcd_dvd_left ..
    have h1 : b.sign * a / (Int.gcd a b : Int) * (Int.gcd a b : Int) = b.sign * a := Int.ediv_mul_cancel (Int.dvd_trans hd (Int.dvd_mul_left ..))
    split
    · rename_i h
      rw [Int.mul_neg, h1, Int.sign_eq_neg_one_of_neg h]
      omega
    · rename_i h
      rw [h1, Int.sign_eq_one_of_pos (by omega)]
      omega
  · rw [Rat.den_divInt, if_neg hb, Int.gcd_comm b a]
    have hd : Int.gcd a b ∣ b.natAbs := Int.natAbs_dvd_natAbs.2 (Int.gcd_dvd_right a b)
    have h1 : (b.natAbs / Int.gcd a b) * Int.gcd a b = b.natAbs := Nat.div_mul_cancel hd
    have h2 : ((b.natAbs / Int.gcd a b : Nat) : Int) * (Int.gcd a b : Int) = (b.natAbs : Int) := by exact_mod_cast h1
    split
    · rw [Int.mul_neg, h2]; omega
    · rw [h2]; omega
theorem rat_num_le (a b : Int) : (Rat.divInt a b).num.natAbs ≤ a.natAbs := by
  by_cases hb : b = 0
  · subst hb; simp
  · obtain ⟨g, -, hg, h1, h2⟩ := rat_low a b hb
    have := congrArg Int.natAbs h1
    rw [Int.natAbs_mul] at this
    rw [this]
    exact Nat.le_mul_of_pos_right _ (by omega)
theorem rat_den_le (a b : Int) (hb : b ≠ 0) : (Rat.divInt a b).den ≤ b.natAbs := by
    obtain ⟨g, -, hg, h1, h2⟩ := rat_low a b hb
    have := congrArg Int.natAbs h2
    rw [Int.natAbs_mul] at this
    rw [this]
    exact Nat.le_mul_of_pos_right _ (by omega)
/-- Euclid's division has one answer. -/
theorem ediv_one (a q g r : Int) (n : Int) (h : a = q * g + r) (h0 : 0 ≤ r) (h1 : r < g.natAbs) (hn : a = n * g) : q = n ∧ r = 0 := by
  have hg : g ≠ 0 := by omega
  have h2 : (n - q) * g = r := by rw [Int.sub_mul]; omega
  by_cases h3 : n - q = 0
  · rw [h3] at h2
    omega
  · exfalso
    have h4 := congrArg Int.natAbs h2
    rw [Int.natAbs_mul] at h4
    have h5 : g.natAbs ≤ (n - q).natAbs * g.natAbs := Nat.le_mul_of_pos_left _ (by omega)
    omega
end Go.Proofs.YtongkalfdgleaaaGreatDoor
/-
  Lehmer's steps, stopped by Collins's condition: plain facts.
-/
namespace Go.Proofs.YtongkalfdgleaaaGreatDoor
open Go.RowKit
set_option linter.unusedVariables false
set_option linter.unusedSimpArgs false

/-- What is left of a and b behind so many steps. -/
def rem0 (sg s t a b : Int) : Int := -sg * (s * a - t * b)
def rem1 (sg s t a b : Int) : Int := sg * (s * a - t * b)

/-- A state of the steps: p0 and q0 are a and b over F, without their rests. -/
structure La (a b F p0 q0 sg p q s0 s1 s2 t0 t1 t2 : Int) : Prop where
  hs : sg = 1 ∨ sg = -1
  ep : p = sg * (s1 * p0 - t1 * q0)
  eq : q = -sg * (s2 * p0 - t2 * q0)
  idn : t2 * p + t1 * q = p0
  s1n : 0 ≤ s1
  s2n : 0 ≤ s2
  t1n : 0 ≤ t1
  t2n : 1 ≤ t2
  t12 : t1 ≤ t2
  st2 : s2 ≤ t2
  st12 : s1 + s2 ≤ t1 + t2
  qn : 0 ≤ q
  pq : q ≤ p
  pp : p ≤ p0
  g : Int.gcd (rem1 sg s1 t1 a b) (rem0 sg s2 t2 a b) = Int.gcd a b
  prev : (s0 = 0 ∧ t0 = 0 ∧ s1 = 1 ∧ t1 = 0 ∧ s2 = 0 ∧ t2 = 1 ∧ sg = 1) ∨
    (0 ≤ s0 ∧ 0 ≤ t0 ∧ t0 ≤ t1 ∧ t1 < 1073741824 ∧ s0 < 1073741824 ∧ s1 ≤ t1 ∧ 1 ≤ t1 ∧ 0 ≤ rem1 sg s1 t1 a b ∧ rem1 sg s1 t1 a b < rem0 sg s0 t0 a b ∧ rem1 sg s1 t1 a b ≤ b ∧ (t0 = 0 ∨ rem0 sg s0 t0 a b ≤ b) ∧ Int.gcd (rem0 sg s0 t0 a b) (rem1 sg s1 t1 a b) = Int.gcd a b)

theorem La.start {a b F p0 q0 : Int} (hq : 0 ≤ q0) (hp : q0 ≤ p0) : La a b F p0 q0 1 p0 q0 0 1 0 0 0 1 := by
  refine ⟨.inl rfl, by omega, by omega, by omega, by decide, by decide, by decide, by decide, by decide, by decide, by decide, hq, hp, Int.le_refl _, ?_, .inl ⟨rfl, rfl, rfl, rfl, rfl, rfl, rfl⟩⟩
  rw [rem1, rem0, show (1 : Int) * (1 * a - 0 * b) = a by omega, show -(1 : Int) * (0 * a - 1 * b) = b by omega]

/-- Rests are small: what is left has the sign that the highest bits say. -/
theorem rest_lo {F al be s t : Int} (hF : 0 < F) (ha0 : 0 ≤ al) (ha1 : al < F) (hb0 : 0 ≤ be) (hb1 : be < F) (hs0 : 0 ≤ s) (ht0 : 0 ≤ t) (hst : s ≤ t) :
    -(t * (F - 1)) ≤ s * al - t * be ∧ s * al - t * be ≤ t * (F - 1) := by
  have h1 : s * al ≤ s * (F - 1) := Int.mul_le_mul_of_nonneg_left (by omega) hs0
  have h2 : s * (F - 1) ≤ t * (F - 1) := Int.mul_le_mul_of_nonneg_right hst (by omega)
  have h3 : t * be ≤ t * (F - 1) := Int.mul_le_mul_of_nonneg_left (by omega) ht0
  have h4 : 0 ≤ s * al := Int.mul_nonneg hs0 ha0
  have h5 : 0 ≤ t * be := Int.mul_nonneg ht0 hb0
  constructor <;> omega
theorem sg_bd {sg x M : Int} (hs : sg = 1 ∨ sg = -1) (h : -M ≤ x ∧ x ≤ M) : -M ≤ sg * x ∧ sg * x ≤ M := by
  rcases hs with rfl | rfl <;> omega
theorem sq_lt {t p p0 : Int} (ht : 1 ≤ t) (hp : t ≤ p) (h : t * p ≤ p0) (h0 : p0 < 1152921504606846976) : t < 1073741824 := by
  rcases (show t < 1073741824 ∨ 1073741824 ≤ t by omega) with h1 | h1
  · exact h1
  · exfalso
    have h2 : t * 1073741824 ≤ t * p := Int.mul_le_mul_of_nonneg_left (by omega) (by omega)
    have h3 : 1073741824 * 1073741824 ≤ t * 1073741824 := Int.mul_le_mul_of_nonneg_right h1 (by decide)
    omega

theorem La.step {a b F p0 q0 sg p q s0 s1 s2 t0 t1 t2 al be : Int} (h : La a b F p0 q0 sg p q s0 s1 s2 t0 t1 t2) (hF : 0 < F) (hp0 : p0 < 1152921504606846976)
    (ea : a = p0 * F + al) (eb : b = q0 * F + be) (ha0 : 0 ≤ al) (ha1 : al < F) (hb0 : 0 ≤ be) (hb1 : be < F)
    (c1 : t2 ≤ q) (c2 : t1 + t2 ≤ p - q) : La a b F p0 q0 (-sg) q (p % q) s1 s2 (s1 + p / q * s2) t1 t2 (t1 + p / q * t2) := by
  have t2n := h.t2n
  have t1n := h.t1n
  have hq : 0 < q := by omega
  have hd : 1 ≤ p / q := (Int.le_ediv_iff_mul_le hq).2 (by have := h.pq; omega)
  have hm : p % q = p - p / q * q := by have := Int.emod_add_mul_ediv p q; rw [Int.mul_comm q] at this; omega
  have hm0 := Int.emod_nonneg p (show q ≠ 0 by omega)
  have hm1 := Int.emod_lt_of_pos p hq
  generalize p / q = d at *
  have hs2 := Int.mul_nonneg (show 0 ≤ d by omega) h.s2n
  have ht2 : t2 ≤ d * t2 := by have := Int.mul_le_mul_of_nonneg_right hd (show 0 ≤ t2 by omega); omega
  have hds : (d - 1) * s2 ≤ (d - 1) * t2 := Int.mul_le_mul_of_nonneg_left h.st2 (by omega)
  rw [Int.sub_mul, Int.sub_mul, Int.one_mul, Int.one_mul] at hds
  have hst12 := h.st12
  have hst2 := h.st2
  have hs1n := h.s1n
  have hs2n := h.s2n
  -- what is left
  have e2 : rem0 sg s2 t2 a b = F * q - sg * (s2 * al - t2 * be) := by rw [rem0, ea, eb, h.eq]; grind
  have e1 : rem1 sg s1 t1 a b - rem0 sg s2 t2 a b = F * (p - q) + sg * ((s1 + s2) * al - (t1 + t2) * be) := by rw [rem0, rem1, ea, eb, h.eq, h.ep]; grind
  have b2 := sg_bd h.hs (rest_lo hF ha0 ha1 hb0 hb1 h.s2n (by omega) h.st2)
  have b1 := sg_bd h.hs (rest_lo hF ha0 ha1 hb0 hb1 (s := s1 + s2) (t := t1 + t2) (by omega) (by omega) h.st12)
  have k2 : F * t2 ≤ F * q := Int.mul_le_mul_of_nonneg_left c1 (by omega)
  have k1 : F * (t1 + t2) ≤ F * (p - q) := Int.mul_le_mul_of_nonneg_left c2 (by omega)
  have m2 : t2 * (F - 1) = F * t2 - t2 := by rw [Int.mul_sub, Int.mul_comm F]; omega
  have m1 : (t1 + t2) * (F - 1) = F * (t1 + t2) - (t1 + t2) := by rw [Int.mul_sub, Int.mul_comm F]; omega
  have x2 : 0 ≤ rem0 sg s2 t2 a b := by omega
  have x1 : rem0 sg s2 t2 a b < rem1 sg s1 t1 a b := by omega
  have f1 : rem1 (-sg) s2 t2 a b = rem0 sg s2 t2 a b := rfl
  have f0 : rem0 (-sg) s1 t1 a b = rem1 sg s1 t1 a b := by rw [rem0, rem1, Int.neg_neg]
  have f2 : rem0 (-sg) (s1 + d * s2) (t1 + d * t2) a b = rem1 sg s1 t1 a b - d * rem0 sg s2 t2 a b := by rw [rem0, rem1, rem0]; grind
  have hid := h.idn
  have htq := Int.mul_nonneg t1n h.qn
  refine ⟨by rcases h.hs with e | e <;> omega, h.eq, ?_, ?_, h.s2n, by omega, by omega, by omega, by omega, by omega, by omega, hm0, by omega, by have := h.pp; have := h.pq; omega, ?_, .inr ⟨h.s1n, h.t1n, h.t12, ?_, ?_, h.st2, h.t2n, by rw [f1]; exact x2, by rw [f1, f0]; exact x1, ?_, ?_, ?_⟩⟩
  · rw [hm, h.ep, h.eq]; grind
  · rw [hm]
    have : (t1 + d * t2) * q + t2 * (p - d * q) = t2 * p + t1 * q := by grind
    omega
  · rw [f1, f2, Int.gcd_sub_mul_right_right, Int.gcd_comm]; exact h.g
  · exact sq_lt (p := p) h.t2n (by have := h.qn; omega) (by omega) hp0
  · rcases h.prev with ⟨_, _, e, _⟩ | ⟨_, _, _, e, _, e', _⟩
    · omega
    · omega
  · rw [f1]
    rcases h.prev with ⟨_, _, _, _, e3, e4, e5⟩ | ⟨_, _, _, _, _, _, _, _, _, e, _⟩
    · rw [e3, e4, e5, rem0]; omega
    · omega
  · rw [f0]
    rcases h.prev with ⟨_, _, _, e, _⟩ | ⟨_, _, _, _, _, _, _, _, _, e, _⟩
    · exact .inl e
    · exact .inr e
  · rw [f0, f1]; exact h.g

/-- What the steps leave. -/
theorem La.done {a b F p0 q0 sg p q s0 s1 s2 t0 t1 t2 : Int} (h : La a b F p0 q0 sg p q s0 s1 s2 t0 t1 t2) (ht : 0 < t0) :
    0 ≤ s0 ∧ s0 < 1073741824 ∧ t0 < 1073741824 ∧ 0 ≤ s1 ∧ s1 < 1073741824 ∧ 0 ≤ t1 ∧ t1 < 1073741824 ∧ 0 ≤ rem1 sg s1 t1 a b ∧ rem1 sg s1 t1 a b < rem0 sg s0 t0 a b ∧ rem0 sg s0 t0 a b ≤ b ∧ Int.gcd (rem0 sg s0 t0 a b) (rem1 sg s1 t1 a b) = Int.gcd a b := by
  rcases h.prev with ⟨_, e, _⟩ | ⟨h1, h2, h3, h4, h5, h6, h7, h8, h9, h10, h11, h12⟩
  · omega
  · exact ⟨h1, h5, by omega, h.s1n, by omega, h.t1n, h4, h8, h9, by rcases h11 with e | e; omega; exact e, h12⟩
/-- What is reckoned with fits. -/
theorem La.bd {a b F p0 q0 sg p q s0 s1 s2 t0 t1 t2 : Int} (h : La a b F p0 q0 sg p q s0 s1 s2 t0 t1 t2) (hq : 0 < p) (hp0 : p0 < 1152921504606846976) :
    0 ≤ s0 ∧ s0 < 1073741824 ∧ 0 ≤ t0 ∧ t0 < 1073741824 ∧ s1 ≤ 1073741824 ∧ t1 < 1073741824 ∧ t2 ≤ p0 ∧ s2 ≤ p0 := by
  have h1 : t2 * 1 ≤ t2 * p := Int.mul_le_mul_of_nonneg_left (by omega) (by have := h.t2n; omega)
  have h2 := Int.mul_nonneg h.t1n h.qn
  have h3 := h.idn
  have h4 := h.st2
  rcases h.prev with ⟨e1, e2, e3, e4, _⟩ | ⟨h1, h2, h3, h4, h5, h6, h7, h8, h9, h10, h11, h12⟩ <;> refine ⟨by omega, by omega, by omega, by omega, by omega, by omega, by omega, by omega⟩
end Go.Proofs.YtongkalfdgleaaaGreatDoor
/-
  How slices of integers lie in memory: what is read, what is owned whole.
-/
namespace Go.Proofs.YtongkalfdgleaaaGreatDoor
open Go.RowKit
set_option linter.unusedVariables false
set_option linter.unusedSimpArgs false

/-- The integers xs (of kind k) lie at p. -/
def Rd (w : World) (p : Option Addr) (k : IntKind) (xs : List Int) : Prop :=
  0 < xs.length → ∃ b off, p = some ⟨b, off, none⟩ ∧ ∀ j, j < xs.length → w.cell? ⟨b, off + j, none⟩ = some (.int k (gx xs j))

/-- The cells of integers. (A name of its own: the walk leaves it standing.) -/
def ca (k : IntKind) (xs : List Int) : Array Value := (xs.map (Value.int k)).toArray

/-- Block g is a row of integers, known whole. -/
def Row (w : World) (g : Nat) (e : TypeId) (k : IntKind) (xs : List Int) : Prop := w.heap[g]? = some (.cells (ca k xs) e (0, 0))

/-- p lies from block B on, if anywhere. -/
def From (B : Nat) (p : Option Addr) : Prop := ∀ a, p = some a → B ≤ a.block

/-- p doesn't lie in block g. -/
def Off (g : Nat) (p : Option Addr) : Prop := ∀ a, p = some a → a.block ≠ g

section
variable {w w' : World} {g : Nat} {e : TypeId} {k : IntKind} {xs : List Int} {p : Option Addr}

theorem Row.lt (h : Row w g e k xs) : g < w.heap.size := (Array.getElem?_eq_some_iff.1 h).1
theorem Row.cell (h : Row w g e k xs) (j : Nat) (hj : j < xs.length) : w.cell? ⟨g, j, none⟩ = some (.int k (gx xs j)) := by
  rw [cell_of_row w g j _ e (0, 0) h, gx_mem xs j hj]; simp [ca, hj]
theorem Row.frozen (h : Row w g e k xs) (j : Nat) : w.frozen? ⟨g, j, none⟩ = false := frozen_of_row w g j _ e h
theorem Row.set (h : Row w g e k xs) (j : Nat) (v : Int) : Row (w.setCell ⟨g, j, none⟩ (.int k v)) g e k (xs.set j v) := by
  unfold Row
  rw [heap_setCell_same w g j _ e _ h]
  simp [ca, List.map_set]
theorem Row.kept {row : Option Nat} (h : Row w g e k xs) (hg : w.grownBy w' row) (hne : some g ≠ row) : Row w' g e k xs := (hg.block g h.lt hne).trans h
theorem Row.below {B : Nat} (h : Row w g e k xs) (hb : Below B w w') (hg : g < B) : Row w' g e k xs := (hb.block g hg).trans h
theorem Row.drew (h : Row w g e k xs) : Row w.drew g e k xs := h
theorem Row.alloc (h : Row w g e k xs) (o : Obj) : Row (w.alloc o) g e k xs := (Below.heap_alloc w o g h.lt).trans h
theorem Row.new (w : World) (e : TypeId) (k : IntKind) (xs : List Int) : Row (w.alloc (.cells (ca k xs) e)) w.heap.size e k xs := heap_alloc_new w _
theorem Row.set_other (h : Row w g e k xs) (a : Addr) (v : Value) (hne : g ≠ a.block) : Row (w.setCell a v) g e k xs := (heap_setCell_other w a g v hne).trans h
theorem Row.rd (h : Row w g e k xs) (o n : Nat) (hn : o + n ≤ xs.length) : Rd w (some ⟨g, o, none⟩) k ((xs.drop o).take n) := fun _ =>
  ⟨g, o, rfl, fun j hj => by
    have hj' : j < n := by simp at hj; omega
    rw [gx_take _ _ _ hj', gx_drop]
    exact h.cell (o + j) (by omega)⟩
theorem Row.rd_all (h : Row w g e k xs) : Rd w (some ⟨g, 0, none⟩) k xs := fun _ => ⟨g, 0, rfl, fun j hj => by rw [Nat.zero_add]; exact h.cell j hj⟩
theorem Row.rd_take (h : Row w g e k xs) (n : Nat) : Rd w (some ⟨g, 0, none⟩) k (xs.take n) := fun _ => ⟨g, 0, rfl, fun j hj => by
  have : j < n ∧ j < xs.length := by simp at hj; omega
  rw [Nat.zero_add, gx_take _ _ _ this.1]; exact h.cell j this.2⟩

theorem Row.step {Z new : List Int} {o : Nat} (h : Row w g e k (Z.take o ++ new ++ Z.drop (o + new.length))) (hl : o + new.length < Z.length) (v : Int) :
    Row (w.setCell ⟨g, o + new.length, none⟩ (.int k v)) g e k (Z.take o ++ (new ++ [v]) ++ Z.drop (o + (new ++ [v]).length)) := by
  have := h.set (o + new.length) v
  rw [row_set Z new o _ hl] at this
  simpa using this
theorem Row.at {Z new : List Int} {o j : Nat} (h : Row w g e k (Z.take o ++ new ++ Z.drop (o + new.length))) (hl : o + new.length ≤ Z.length) (hj : o + new.length ≤ j) (hj' : j < Z.length) :
    w.cell? ⟨g, j, none⟩ = some (.int k (gx Z j)) := by
  have := h.cell j (by rw [row_length Z new o hl]; exact hj')
  rwa [row_gx Z new o j hl hj] at this

theorem Rd.nil : Rd w p k [] := fun h => by simp at h
theorem Rd.lt (h : Rd w p k xs) (hx : 0 < xs.length) : ∃ b off, p = some ⟨b, off, none⟩ ∧ b < w.heap.size := by
  obtain ⟨b, off, hp, hc⟩ := h hx
  exact ⟨b, off, hp, block_lt_of_cell (hc 0 hx)⟩
theorem Rd.same (h : Rd w p k xs) (hs : ∀ a, p = some a → a.block < w.heap.size → w'.heap[a.block]? = w.heap[a.block]?) : Rd w' p k xs := fun hx => by
  obtain ⟨b, off, hp, hc⟩ := h hx
  refine ⟨b, off, hp, fun j hj => ?_⟩
  have hlt : b < w.heap.size := block_lt_of_cell (hc 0 hx)
  rw [← hc j hj]
  exact World.cell?_of_block (a := ⟨b, off + j, none⟩) (hs ⟨b, off, none⟩ hp hlt)
theorem Rd.kept {row : Option Nat} (h : Rd w p k xs) (hg : w.grownBy w' row) (hne : ∀ a, p = some a → some a.block ≠ row) : Rd w' p k xs :=
  h.same fun a ha hlt => hg.block a.block hlt (hne a ha)
theorem Rd.keptOff (h : Rd w p k xs) (hg : w.grownBy w' (some g)) (hne : Off g p) : Rd w' p k xs :=
  h.kept hg fun a ha e => hne a ha (Option.some.inj e)
theorem Rd.below (h : Rd w p k xs) (hb : Below w.heap.size w w') : Rd w' p k xs := h.same fun a _ hlt => hb.block a.block hlt
theorem Rd.off (h : Rd w p k xs) (hg : w.heap.size ≤ g) (hx : 0 < xs.length) : Off g p := fun a ha e => by
  obtain ⟨b, off, hp, hlt⟩ := h.lt hx
  rw [hp] at ha
  cases ha
  simp at e; omega
theorem Rd.drew (h : Rd w p k xs) : Rd w.drew p k xs := h
theorem Rd.alloc (h : Rd w p k xs) (o : Obj) : Rd (w.alloc o) p k xs := h.same fun a _ hlt => Below.heap_alloc w o a.block hlt
theorem Rd.set_other (h : Rd w p k xs) (a : Addr) (v : Value) (hne : Off a.block p) : Rd (w.setCell a v) p k xs := h.same fun b hb _ => heap_setCell_other w a b.block v (hne b hb)
theorem Rd.take (h : Rd w p k xs) (n : Nat) : Rd w p k (xs.take n) := fun hx => by
  obtain ⟨b, off, hp, hc⟩ := h (by simp at hx; omega)
  refine ⟨b, off, hp, fun j hj => ?_⟩
  have : j < n ∧ j < xs.length := by simp at hj; omega
  rw [gx_take _ _ _ this.1]; exact hc j this.2
theorem Rd.tr (h : Rd w p k xs) : Rd w p k (tr xs) := h.take _
end

theorem grownBy_refl (w : World) (row : Option Nat) : w.grownBy w row := ⟨rfl, rfl, rfl, Nat.le_refl _, fun _ _ _ => rfl⟩
theorem grownBy_trans {a b c : World} {row : Option Nat} (h : a.grownBy b row) (k : b.grownBy c row) : a.grownBy c row :=
  ⟨k.os.trans h.os, k.tape.trans h.tape, k.output.trans h.output, Nat.le_trans h.size k.size, fun i hi hne => (k.block i (Nat.lt_of_lt_of_le hi h.size) hne).trans (h.block i hi hne)⟩
theorem grownBy_setCell {a w : World} {g : Nat} (h : a.grownBy w (some g)) (j : Nat) (v : Value) : a.grownBy (w.setCell ⟨g, j, none⟩ v) (some g) :=
  grownBy_trans h ⟨rfl, rfl, rfl, by simp [World.setCell], fun i _ hne => heap_setCell_other w _ i v (fun e => hne (by rw [e]))⟩
theorem grownBy_drew {a w : World} {row : Option Nat} (h : a.grownBy w row) : a.grownBy w.drew row := ⟨h.os, h.tape, h.output, h.size, h.block⟩
theorem grownBy_drewN {a w : World} {row : Option Nat} (h : a.grownBy w row) (n : Nat) : a.grownBy (w.drewN n) row := ⟨h.os, h.tape, h.output, h.size, h.block⟩
theorem grownBy_alloc' {a w : World} {row : Option Nat} (h : a.grownBy w row) (o : Obj) : a.grownBy (w.alloc o) row := grownBy_trans h (World.grownBy_alloc w o row)
theorem grownBy_below {a w : World} (h : Below a.heap.size a w) (row : Option Nat) : a.grownBy w row := ⟨h.os, h.tape, h.output, h.size, fun k hk _ => h.block k hk⟩
theorem below_of_grown {w w' : World} (h : w.grownBy w' none) : Below w.heap.size w w' := ⟨h.os, h.tape, h.output, h.size, fun k hk => h.block k hk (by simp)⟩
/-- The one row that was written is newer than B. -/
theorem below_grown {B : Nat} {a w w' : World} {g : Nat} (h : Below B a w) (hg : w.grownBy w' (some g)) (hB : B ≤ w.heap.size) (hr : B ≤ g) : Below B a w' :=
  h.grown hg hB (fun k e => by cases e; exact hr)

/-- What make lays: noughts. -/
def zeros (n : Nat) : List Int := List.replicate n 0
theorem length_zeros (n : Nat) : (zeros n).length = n := by simp [zeros]
theorem gx_zeros (n j : Nat) : gx (zeros n) j = 0 := by
  by_cases h : j < n
  · simp [gx, zeros, h]
  · exact gx_past _ n (by simp [zeros]) j (by omega)
theorem val_zero (n : Nat) : val (zeros n) = 0 := val_zeros _ (gx_zeros n)
theorem u32_zeros (n : Nat) : U32 (zeros n) := fun j => by rw [gx_zeros]; decide
theorem made_zeros (k : IntKind) (n : Nat) : madeCells #[.int k 0] (n * 1) = ca k (zeros n) := by
  apply Array.ext
  · simp [size_madeCells, zeros, ca]
  · intro i h1 h2
    simp [madeCells, zeros, ca, Nat.mod_one]
theorem size_ca (k : IntKind) (xs : List Int) : (ca k xs).size = xs.length := by simp [ca]
theorem oneCell_ca (k : IntKind) (xs : List Int) : ∀ v ∈ xs.map (Value.int k), v.oneCell' = true := fun v hv => by
  obtain ⟨x, _, rfl⟩ := List.mem_map.1 hv
  rfl
/-- The cells that are read, as the laws of copy and append ask for them. -/
theorem Rd.src {w : World} {k : IntKind} {xs : List Int} {b off : Nat} (h : ∀ j, j < xs.length → w.cell? ⟨b, off + j, none⟩ = some (.int k (gx xs j))) :
    ∀ j v, (xs.map (Value.int k))[j]? = some v → w.cell? ((⟨b, off, none⟩ : Addr).add j) = some v := fun j v hv => by
  rw [Addr.add_mid]
  rw [List.getElem?_map] at hv
  cases hx : xs[j]? with
  | none => rw [hx] at hv; cases hv
  | some x =>
    rw [hx] at hv
    have hj := (List.getElem?_eq_some_iff.1 hx)
    rw [h j hj.1, gx_mem xs j hj.1, hj.2]
    exact hv
end Go.Proofs.YtongkalfdgleaaaGreatDoor
