/-
  limbs.quotient by a size that is greater or has one limb; limbs.Quo out of a contract of quotient.
-/
import Derived.Test.YtkbgeggflhfleaaGreatDoorUaWhPnWk
import Derived.Deep.DeepCutAuto
import Derived.Test.YtkbgeggflhfleaaGreatDoorMmWa
namespace Go.Proofs.YtkbgeggflhfleaaGreatDoor
open Go.RowKit
set_option linter.unusedVariables false
set_option linter.unusedSimpArgs false
set_option maxHeartbeats 8000000
structure QR (B : Nat) (w : World) (qa : Option Addr) (qn : Nat) (qs : List Int) (ra : Option Addr) (rn : Nat) (rs : List Int) (x y : Int) (n : Nat) : Prop where
  ql : qs.length = qn
  qrd : Rd w qa .u32 qs
  qu : U32 qs
  qf : From B qa
  rl : rs.length = rn
  rrd : Rd w ra .u32 rs
  ru : U32 rs
  rf : From B ra
  eq : val qs * y + val rs = x
  lt : val rs < y
  qb : qn ≤ n + 1
  rb : rn ≤ n + 1
  row : ∃ g Z, ra = some ⟨g, 0, none⟩ ∧ Row w g 134 .u32 Z ∧ Z.take rn = rs ∧ U32 Z
  qz : Fz w qa
  rz : Fz w ra
theorem quotient_lt (p q : Option Addr) (n nc m mc : Nat) (xs ys : List Int) (w : World) (hA : AI w p n nc xs) (hB : AI w q m mc ys) (hlt : val xs < val ys) :
    Calls Tryz.prog 170 #[.slice p n nc, .slice q m mc] w fun e w' => ∃ qa qn qs ra rn rs, e = .returned (.tuple #[.slice qa qn qn, .slice ra rn rn]) ∧ QR w.heap.size w' qa qn qs ra rn rs (val xs) (val ys) n ∧ Below w.heap.size w w' := by
  have hs := hA.sml
  go_enter Tryz.func170, Tryz.ntmps170
  go_wp2_with fail
  refine (compare_any p q n nc m mc xs ys _ hA.len hB.len hA.cap hA.bnd hB.cap hB.bnd hA.rd hA.u hB.rd hB.u).mono ?_
  rw [icmp_lt hlt]
  rintro e w1 ⟨rfl, hb1⟩
  go_wp2_with fail
  refine (clone_any p n nc xs _ hA.len (by omega) (hA.rd.below hb1)).mono ?_
  rintro e w2 ⟨rfl, rfl⟩
  go_wp2
  go_ret2
  refine ⟨none, 0, [], some ⟨w1.heap.size, 0, none⟩, n, xs, rfl, ⟨rfl, Rd.nil, u32_nil, from_none, hA.len, (Row.new w1 _ _ _).rd_all, hA.u, from_new hb1.size, by simp [val], hlt, by omega, by omega, ⟨w1.heap.size, xs, rfl, Row.new w1 _ _ _, List.take_of_length_le (by rw [hA.len]; omega), hA.u⟩, Fz.nil _, (Row.new w1 _ _ _).fz 0⟩, hb1.alloc hb1.size _⟩
theorem quotient_one (p q : Option Addr) (n nc mc : Nat) (xs : List Int) (d : Int) (w : World) (hA : AI w p n nc xs) (hB : AI w q 1 mc [d]) (hd : 0 < d) (hle : d ≤ val xs) :
    Calls Tryz.prog 170 #[.slice p n nc, .slice q 1 mc] w fun e w' => ∃ qa qn qs ra rn rs, e = .returned (.tuple #[.slice qa qn qn, .slice ra rn rn]) ∧ QR w.heap.size w' qa qn qs ra rn rs (val xs) (val [d]) n ∧ Below w.heap.size w w' := by
  have hs := hA.sml
  have hd' : d < 4294967296 := by have := hB.u 0; rw [gx_zero] at this; omega
  have hic : ¬ icmp (val xs) (val [d]) < 0 := by
    rw [val_one, icmp, if_neg (by omega)]; split <;> decide
  go_enter Tryz.func170, Tryz.ntmps170
  go_wp2_with fail
  refine (compare_any p q n nc 1 mc xs [d] _ hA.len hB.len hA.cap hA.bnd hB.cap hB.bnd hA.rd hA.u hB.rd hB.u).mono ?_
  rintro e w1 ⟨rfl, hb1⟩
  go_wp2_with fail
  refine (clone_any p n nc xs _ hA.len (by omega) (hA.rd.below hb1)).mono ?_
  rintro e w2 ⟨rfl, rfl⟩
  obtain ⟨b, off, hq, hc⟩ := ((hB.rd.below hb1).alloc (.cells (ca .u32 xs) 134)) (by simp)
  have hc0 := hc 0 (by simp)
  rw [gx_zero, Nat.add_zero] at hc0
  subst hq
  clear hc
  go_wp2_with fail
  refine (divideByLimb_any w1.heap.size n n xs d _ (by rw [hA.len]; omega) (Nat.le_refl _) (by omega) (Row.new w1 _ _ _) hA.u hd hd').mono ?_
  rintro e w3 ⟨R, r, rfl, r1, r2, r3, r4, r5, r6, r7⟩
  go_wp2
  go_ret2
  have hl := hA.len
  rw [List.take_of_length_le (by omega), List.take_of_length_le (by omega)] at r5
  have hb3 : Below w.heap.size w w3 := below_grown (hb1.alloc hb1.size _) r7 (by simp; have := hb1.size; omega) hb1.size
  refine ⟨some ⟨w1.heap.size, 0, none⟩, n, R, some ⟨w3.heap.size, 0, none⟩, 1, [r], rfl, ⟨by omega, r6.rd_all.alloc _, r2, from_new hb1.size, rfl, (Row.new w3 134 .u32 [r]).rd_all, u32_one (by omega), from_new hb3.size, by rw [val_one, val_one]; exact r5, by rw [val_one, val_one]; exact r4, by omega, by omega, ⟨w3.heap.size, [r], rfl, Row.new w3 134 .u32 [r], rfl, u32_one (by omega)⟩, (r6.alloc _).fz 0, (Row.new w3 134 .u32 [r]).fz 0⟩, hb3.alloc hb3.size _⟩
structure Box4 (w W : World) (a0 a1 b0 b1 : Value) : Prop where
  size : w.heap.size + 1 + 1 + 1 + 1 ≤ W.heap.size
  below : Below w.heap.size w W
  ca0 : W.cell? ⟨w.heap.size, 0, none⟩ = some a0
  ca1 : W.cell? ⟨w.heap.size, 1, none⟩ = some a1
  cb0 : W.cell? ⟨w.heap.size + 1, 0, none⟩ = some b0
  cb1 : W.cell? ⟨w.heap.size + 1, 1, none⟩ = some b1
  cr0 : W.cell? ⟨w.heap.size + 1 + 1, 0, none⟩ = some (.bool false)
  cr1 : W.cell? ⟨w.heap.size + 1 + 1, 1, none⟩ = some (.slice none 0 0)
  cs0 : W.cell? ⟨w.heap.size + 1 + 1 + 1, 0, none⟩ = some (.bool false)
  cs1 : W.cell? ⟨w.heap.size + 1 + 1 + 1, 1, none⟩ = some (.slice none 0 0)
  fr0 : W.frozen? ⟨w.heap.size + 1 + 1, 0, none⟩ = false
  fr1 : W.frozen? ⟨w.heap.size + 1 + 1, 1, none⟩ = false
  fs0 : W.frozen? ⟨w.heap.size + 1 + 1 + 1, 0, none⟩ = false
  fs1 : W.frozen? ⟨w.heap.size + 1 + 1 + 1, 1, none⟩ = false
structure Bx (w : World) (r : Nat) (a0 a1 : Value) : Prop where
  c0 : w.cell? ⟨r, 0, none⟩ = some a0
  c1 : w.cell? ⟨r, 1, none⟩ = some a1
  f0 : w.frozen? ⟨r, 0, none⟩ = false
  f1 : w.frozen? ⟨r, 1, none⟩ = false
theorem Bx.later {w w' : World} {r : Nat} {a0 a1 : Value} (h : Bx w r a0 a1) (hb : Below w.heap.size w w') : Bx w' r a0 a1 := by
  obtain ⟨a, b, c, d⟩ := resbox hb h.c0 h.c1 h.f0 h.f1
  exact ⟨a, b, c, d⟩
theorem Bx.alloc {w : World} {r : Nat} {a0 a1 : Value} (h : Bx w r a0 a1) (o : Obj) : Bx (w.alloc o) r a0 a1 := h.later ((Below.refl _ _).alloc (Nat.le_refl _) o)
theorem Bx.drewN {w : World} {r : Nat} {a0 a1 : Value} (h : Bx w r a0 a1) (k : Nat) : Bx (w.drewN k) r a0 a1 := ⟨h.c0, h.c1, h.f0, h.f1⟩
theorem Bx.new {w : World} {r : Nat} (a0 a1 : Value) (t : Nat) (hr : r = w.heap.size) : Bx (w.alloc (.cells #[a0, a1] t)) r a0 a1 := by
  subst hr
  refine ⟨?_, ?_, ?_, ?_⟩ <;> simp [go_sem]
theorem boxes4 (w : World) (a0 a1 b0 b1 : Value) (t k : Nat) : Box4 w (((((w.alloc (.cells #[a0, a1] t)).alloc (.cells #[b0, b1] t)).alloc (.cells #[.bool false, .slice none 0 0] t)).alloc (.cells #[.bool false, .slice none 0 0] t)).drewN k) a0 a1 b0 b1 := by
  have h1 := ((((Bx.new (w := w) a0 a1 t rfl).alloc (.cells #[b0, b1] t)).alloc (.cells #[.bool false, .slice none 0 0] t)).alloc (.cells #[.bool false, .slice none 0 0] t)).drewN k
  have h2 := (((Bx.new (w := w.alloc (.cells #[a0, a1] t)) b0 b1 t (r := w.heap.size + 1) (World.size_alloc ..).symm).alloc (.cells #[.bool false, .slice none 0 0] t)).alloc (.cells #[.bool false, .slice none 0 0] t)).drewN k
  have h3 := ((Bx.new (w := (w.alloc (.cells #[a0, a1] t)).alloc (.cells #[b0, b1] t)) (.bool false) (.slice none 0 0) t (r := w.heap.size + 1 + 1) (by rw [World.size_alloc, World.size_alloc])).alloc (.cells #[.bool false, .slice none 0 0] t)).drewN k
  have h4 := (Bx.new (w := ((w.alloc (.cells #[a0, a1] t)).alloc (.cells #[b0, b1] t)).alloc (.cells #[.bool false, .slice none 0 0] t)) (.bool false) (.slice none 0 0) t (r := w.heap.size + 1 + 1 + 1) (by rw [World.size_alloc, World.size_alloc, World.size_alloc])).drewN k
  exact ⟨by simp, below_drewN (((((Below.refl _ _).alloc (Nat.le_refl _) _).alloc (by simp) _).alloc (by simp; omega) _).alloc (by simp; omega) _) k, h1.c0, h1.c1, h2.c0, h2.c1, h3.c0, h3.c1, h4.c0, h4.c1, h3.f0, h3.f1, h4.f0, h4.f1⟩
theorem Box4.later {w W W' : World} {a0 a1 b0 b1 : Value} (h : Box4 w W a0 a1 b0 b1) (hb : Below W.heap.size W W') : Box4 w W' a0 a1 b0 b1 := by
  obtain ⟨c0, c1, f0, f1⟩ := resbox hb h.cr0 h.cr1 h.fr0 h.fr1
  obtain ⟨d0, d1, g0, g1⟩ := resbox hb h.cs0 h.cs1 h.fs0 h.fs1
  exact ⟨Nat.le_trans h.size hb.size, h.below.trans (hb.mono (by have := h.size; omega)), cell_later hb h.ca0, cell_later hb h.ca1, cell_later hb h.cb0, cell_later hb h.cb1, c0, c1, d0, d1, f0, f1, g0, g1⟩
theorem bcell {W w1 : World} (hb : Below W.heap.size W w1) : (∀ b o, b < W.heap.size → w1.cell? ⟨b, o, none⟩ = W.cell? ⟨b, o, none⟩) ∧ (∀ b o, b < W.heap.size → w1.frozen? ⟨b, o, none⟩ = W.frozen? ⟨b, o, none⟩) :=
  ⟨fun b o h => hb.cell (p := ⟨b, o, none⟩) h, fun b o h => hb.frozen (p := ⟨b, o, none⟩) h⟩
theorem brules {X w3 : World} (hb : Below X.heap.size X w3) : (∀ b o, b < X.heap.size → w3.cell? ⟨b, o, none⟩ = X.cell? ⟨b, o, none⟩) ∧ (∀ b o, b < X.heap.size → w3.frozen? ⟨b, o, none⟩ = X.frozen? ⟨b, o, none⟩) ∧
    (∀ r, r < X.heap.size → r < w3.heap.size) ∧ (∀ r, r < X.heap.size → r ≤ w3.heap.size) ∧ (∀ r, r < X.heap.size → r ≤ w3.heap.size + 1) :=
  ⟨(bcell hb).1, (bcell hb).2, fun r h => Nat.lt_of_lt_of_le h hb.size, fun r h => Nat.le_of_lt (Nat.lt_of_lt_of_le h hb.size), fun r h => by have := hb.size; omega⟩
theorem bne {X w3 : World} (hb : Below X.heap.size X w3) : (∀ r, r < X.heap.size → r ≠ w3.heap.size) ∧ (∀ r, r < X.heap.size → w3.heap.size ≠ r) ∧ (∀ r, r < X.heap.size → r ≠ w3.heap.size + 1) ∧ (∀ r, r < X.heap.size → w3.heap.size + 1 ≠ r) := by
  have := hb.size
  exact ⟨fun r h => by omega, fun r h => by omega, fun r h => by omega, fun r h => by omega⟩
theorem bel_al {w x : World} {o : Obj} (h : Below w.heap.size w x) : Below w.heap.size w (x.alloc o) := h.alloc h.size o
theorem comp {X2 w2 X3 w3 : World} (h2 : Below X2.heap.size X2 w2) (hX : Below w2.heap.size w2 X3) (h3 : Below X3.heap.size X3 w3) : Below X2.heap.size X2 w3 :=
  (h2.trans (hX.mono h2.size)).trans (h3.mono (Nat.le_trans h2.size hX.size))
theorem NI_al {B : Nat} {w : World} {s : Bool} {p : Option Addr} {n : Nat} {xs : List Int} {z : Int} {o : Obj} (h : NI B w s p n xs z) : NI B (w.alloc o) s p n xs z := h.below ((Below.refl _ _).alloc (Nat.le_refl _) o)
theorem Bx_al {w : World} {r : Nat} {u v : Value} {o : Obj} (h : Bx w r u v) : Bx (w.alloc o) r u v := h.alloc o
theorem Bx_new {w : World} {r t : Nat} {u v : Value} (h : r = w.heap.size) : Bx (w.alloc (.cells #[u, v] t)) r u v := Bx.new u v t h
theorem Bx_set {w : World} {g : Nat} {u v x y : Value} (h : Bx w g u v) : Bx ((w.setCell ⟨g, 0, none⟩ x).setCell ⟨g, 1, none⟩ y) g x y := by
  have h1 : (w.setCell ⟨g, 0, none⟩ x).cell? ⟨g, 1, none⟩ = some v := by rw [World.cell?_setCell_other _ _ _ _ (by simp)]; exact h.c1
  refine ⟨?_, World.cell?_setCell_same _ _ _ h1, ?_, ?_⟩
  · rw [World.cell?_setCell_other _ _ _ _ (by simp)]; exact World.cell?_setCell_same _ _ _ h.c0
  · rw [World.frozen?_setCell, World.frozen?_setCell]; exact h.f0
  · rw [World.frozen?_setCell, World.frozen?_setCell]; exact h.f1
theorem Bx_oth {w : World} {r g : Nat} {u v x y : Value} (h : Bx w r u v) (hne : r ≠ g) : Bx ((w.setCell ⟨g, 0, none⟩ x).setCell ⟨g, 1, none⟩ y) r u v := by
  have e : ((w.setCell ⟨g, 0, none⟩ x).setCell ⟨g, 1, none⟩ y).heap[r]? = w.heap[r]? := (heap_setCell_other _ _ r y hne).trans (heap_setCell_other _ _ r x hne)
  exact ⟨(World.cell?_of_block (a := ⟨r, 0, none⟩) e).trans h.c0, (World.cell?_of_block (a := ⟨r, 1, none⟩) e).trans h.c1, (World.frozen?_of_block (a := ⟨r, 0, none⟩) e).trans h.f0, (World.frozen?_of_block (a := ⟨r, 1, none⟩) e).trans h.f1⟩
theorem Bel_al {B : Nat} {w x : World} {o : Obj} (h : Below B w x) (hB : B ≤ w.heap.size) : Below B w (x.alloc o) := h.alloc (Nat.le_trans hB h.size) o
theorem Bel_st {B : Nat} {w x : World} {a : Addr} {v : Value} (h : Below B w x) (ha : B ≤ a.block) : Below B w (x.setCell a v) := h.setCell ha v
theorem bnext {B : Nat} {a b c : World} (h : Below B a b) (hB : B ≤ a.heap.size) (k : Below b.heap.size b c) : Below B a c := h.trans (k.mono (Nat.le_trans hB h.size))
theorem bnext' {a b c : World} (h : Below a.heap.size a b) (k : Below b.heap.size b c) : Below a.heap.size a c := bnext h (Nat.le_refl _) k
theorem bset2 {B g : Nat} {a b : World} (h : Below B a b) (hg : B ≤ g) (u v : Value) : Below B a ((b.setCell ⟨g, 0, none⟩ u).setCell ⟨g, 1, none⟩ v) := (h.setCell (p := ⟨g, 0, none⟩) hg u).setCell (p := ⟨g, 1, none⟩) hg v
theorem NI.le {B : Nat} {w : World} {s : Bool} {p : Option Addr} {n : Nat} {xs : List Int} {z : Int} (h : NI B w s p n xs z) {k : Nat} (hz : (z.natAbs : Int) < pw k) : n ≤ k := by
  have hv : (z.natAbs : Int) = val xs := by
    have := val_nonneg h.u
    rw [← h.v, ival]
    split <;> omega
  rcases Nat.eq_zero_or_pos n with h0 | h0
  · omega
  · have h1 := val_pos_of_top h.u (by rw [h.nrm]; exact h0)
    rw [h.nrm] at h1
    have h2 : n - 1 < k := by
      rcases Nat.lt_or_ge (n - 1) k with h3 | h3
      · exact h3
      · have := pw_mono h3; omega
    omega
theorem AI.lt {w : World} {p : Option Addr} {n nc : Nat} {xs : List Int} (h : AI w p n nc xs) (s : Bool) : ((ival s xs).natAbs : Int) < pw n := by
  have h1 := val_nonneg h.u
  have h2 := val_lt_tlen h.u
  have h3 := pw_mono (tlen_le xs)
  rw [h.len] at h3
  rw [ival]
  split <;> omega
theorem off_from {B g : Nat} {p : Option Addr} (h : Go.Proofs.YtkbgeggflhfleaaGreatDoor.From B p) (hg : g < B) : Off g p := fun a ha e => by have := h a ha; omega
theorem AI.off {w : World} {p : Option Addr} {n nc : Nat} {xs : List Int} (h : AI w p n nc xs) {g : Nat} (hg : w.heap.size ≤ g) : 0 < n → Off g p := fun hn => h.rd.off hg (by rw [h.len]; exact hn)
theorem isgn_pos {z : Int} (h : 0 < z) : isgn z = 1 := by unfold isgn; rw [if_neg (by omega), if_neg (by omega)]
theorem isgn_neg {z : Int} (h : z < 0) : isgn z = -1 := by unfold isgn; rw [if_neg (by omega), if_pos h]
theorem isgn_zero {z : Int} (h : z = 0) : isgn z = 0 := by unfold isgn; rw [if_pos h]
def NV (B : Nat) (w : World) (K : Nat) (z : Int) (e : Ent) : Prop := ∃ xs, NI B w e.s e.p e.n xs z ∧ e.c = e.n ∧ e.n ≤ K
section
variable {B : Nat} {w w' : World} {K : Nat} {z : Int} {e : Ent} {p : Option Addr} {n : Nat} {es : List Ent} {zs : List Int}
theorem NV.ev (h : NV B w K z e) (hK : K ≤ 1000) : EV w K z e := by
  obtain ⟨xs, h1, h2, h3⟩ := h
  exact ⟨xs, by rw [h2]; exact h1.ai (by omega), h1.v, h3⟩
end
theorem rd_owns {w : World} {base g n cap : Nat} {e : TypeId} {xs : List Int} {k : IntKind} (h : w.ownsRow base e 1 (.slice (some ⟨g, 0, none⟩) n cap) n (xs.map (Value.int k))) : Rd w (some ⟨g, 0, none⟩) k xs := fun hx =>
  ⟨g, 0, rfl, fun j hj => by
    have := h.cells (g := g) rfl j (.int k (gx xs j)) (by rw [List.getElem?_map, List.getElem?_eq_getElem hj, gx_mem xs j hj]; rfl)
    rw [Addr.add_mid] at this
    exact this⟩
def vd : List Int → Int
  | [] => 0
  | x :: r => x + 65536 * vd r
def U16 (xs : List Int) : Prop := ∀ j, 0 ≤ gx xs j ∧ gx xs j < 65536
def spl : List Int → List Int
  | [] => []
  | x :: r => x % 65536 :: x / 65536 :: spl r
theorem vd_spl (xs : List Int) : vd (spl xs) = val xs := by
  induction xs with
  | nil => rfl
  | cons x r ih => simp only [spl, vd, val, ih]; omega
theorem length_spl (xs : List Int) : (spl xs).length = 2 * xs.length := by
  induction xs with
  | nil => rfl
  | cons x r ih => simp only [spl, List.length_cons, ih]; omega
theorem u16_cons {x : Int} {r : List Int} (h0 : 0 ≤ x ∧ x < 65536) (h : U16 r) : U16 (x :: r) := fun j => by
  cases j with
  | zero => rw [gx_zero]; exact h0
  | succ j => rw [gx_succ]; exact h j
theorem u16_spl {xs : List Int} (h : U32 xs) : U16 (spl xs) := by
  induction xs with
  | nil => intro j; rw [spl, gx_nil]; decide
  | cons x r ih =>
    obtain ⟨h1, h2⟩ := u32_cons h
    exact u16_cons (by omega) (u16_cons (by omega) (ih h2))
theorem spl_append (a b : List Int) : spl (a ++ b) = spl a ++ spl b := by
  induction a with
  | nil => rfl
  | cons x r ih => simp only [List.cons_append, spl, ih]
theorem vd_append_zeros (a b : List Int) (h : ∀ j, gx b j = 0) : vd (a ++ b) = vd a := by
  induction a with
  | nil =>
    rw [List.nil_append]
    induction b with
    | nil => rfl
    | cons x r ih =>
      have h0 := h 0
      rw [gx_zero] at h0
      simp only [vd, h0, ih (fun j => by have := h (j + 1); rwa [gx_succ] at this)]
      rfl
  | cons x r ih => simp only [List.cons_append, vd, ih]
theorem vd_tr (xs : List Int) : vd (tr xs) = vd xs := by
  have h := vd_append_zeros (tr xs) (xs.drop (tlen xs)) (fun j => by rw [gx_drop]; exact tlen_zero xs _ (by omega))
  rw [tr, List.take_append_drop] at h
  exact h.symm
theorem u16_tr {xs : List Int} (h : U16 xs) : U16 (tr xs) := fun j => by rw [gx_tr]; exact h j
structure RN (w : World) (s : Bool) (p : Option Addr) (n : Nat) (ds : List Int) : Prop where
  len : ds.length = n
  rd : Rd w p .i64 ds
  u : U16 ds
  nrm : tlen ds = n
  sg : n = 0 → s = false
  sml : n ≤ 1000000000
theorem RN.below {w w' : World} {s : Bool} {p : Option Addr} {n : Nat} {ds : List Int} (h : RN w s p n ds) (hb : Below w.heap.size w w') : RN w' s p n ds := ⟨h.len, h.rd.below hb, h.u, h.nrm, h.sg, h.sml⟩
def rval (s : Bool) (ds : List Int) : Int := if s then - vd ds else vd ds
theorem rtrim_any (neg : Bool) (p : Option Addr) (len cap : Nat) (xs : List Int) (w : World) (hl : xs.length = len) (hc : len ≤ cap) (hm : cap ≤ maxLen) (hx : Rd w p .i64 xs) :
    Calls Tryz.prog 61 #[.bool neg, .slice p len cap] w fun e w' => e = .returned (.agg #[.bool (nsg neg xs), .slice p (tlen xs) (tlen xs)]) ∧ Below w.heap.size w w' := by
  unfold maxLen at hm
  have ht := tlen_le xs
  go_enter Tryz.func61, Tryz.ntmps61
  go_wp2
  have hx' := hx.alloc (.cells #[.bool false, .slice none 0 0] 38)
  have hBx : Bx (w.alloc (.cells #[.bool false, .slice none 0 0] 38)) w.heap.size (.bool false) (.slice none 0 0) := Bx.new _ _ _ rfl
  have hbw : Below w.heap.size w (w.alloc (.cells #[.bool false, .slice none 0 0] 38)) := (Below.refl _ _).alloc (Nat.le_refl _) _
  generalize w.alloc (.cells #[.bool false, .slice none 0 0] 38) = W at *
  have c0 := hBx.c0
  have c1 := hBx.c1
  have f0 := hBx.f0
  have f1 := hBx.f1
  go_loop [5] (fun n => ∃ k : Nat, k ≤ len ∧ n = .int .i64 k ∧ Hid (∀ j, k ≤ j → gx xs j = 0)) (fun n => (intOf n).toNat)
  case atStart => exact ⟨len, Nat.le_refl _, rfl, gx_past xs len (by omega)⟩
  case round =>
    obtain ⟨k, hk, rfl, hz⟩ := hrel
    by_cases h0 : k = 0
    · subst h0
      have ht0 := tlen_eq xs 0 hz.out (.inl rfl)
      have hns : nsg neg xs = false := by rw [nsg, if_pos ht0]
      have HN : Hid (nsg neg xs = false ∧ tlen xs = 0) := ⟨hns, ht0⟩
      clear hns ht0
      cases neg
      all_goals
        go_wp2
        refine bodyPost_ret (v := .agg #[.bool false, .slice p 0 0]) (by simp [results, Tryz.results61, go_sem, c0, c1]) rfl ⟨by rw [HN.out.1, HN.out.2], ?_⟩
        exact (hbw.setCell (by simp) _).setCell (by simp) _
    · obtain ⟨m, rfl⟩ : ∃ m, k = m + 1 := ⟨k - 1, by omega⟩
      obtain ⟨b, off, rfl, hcell⟩ := hx' (by omega)
      have hcm := hcell m (by omega)
      clear hcell
      by_cases h1 : gx xs m = 0
      · have h2 : (gx xs m == 0) = true := by simp only [h1]; rfl
        go_wp2
        go_round
        case rel => exact ⟨m, by omega, by go_num, fun j hj => by
          rcases Nat.lt_or_ge m j with h | h
          · exact hz.out j h
          · have : j = m := by omega
            subst this; exact h1⟩
        case measure => simp [intOf]
      · have h2 : (gx xs m == 0) = false := by simpa using h1
        have ht1 := tlen_eq xs (m + 1) hz.out (.inr h1)
        have hns : nsg neg xs = neg := by rw [nsg, if_neg (by omega)]
        have HN : Hid (nsg neg xs = neg ∧ tlen xs = m + 1) := ⟨hns, ht1⟩
        clear hns ht1
        cases neg
        · go_wp2
          refine bodyPost_ret (v := .agg #[.bool false, .slice (some ⟨b, off, none⟩) (m + 1) (m + 1)]) (by simp [results, Tryz.results61, go_sem, c0, c1]) rfl ⟨by rw [HN.out.1, HN.out.2], ?_⟩
          exact (hbw.setCell (by simp) _).setCell (by simp) _
        · go_wp2
          refine bodyPost_ret (v := .agg #[.bool true, .slice (some ⟨b, off, none⟩) (m + 1) (m + 1)]) (by simp [results, Tryz.results61, go_sem, c0, c1]) rfl ⟨by rw [HN.out.1, HN.out.2], ?_⟩
          exact (hbw.setCell (by simp) _).setCell (by simp) _
def QuoPost (w : World) (a b : Int) (n m : Nat) (e : Ending) (w' : World) : Prop :=
  ∃ s1 p1 n1 qs s2 p2 n2 rs Q R, e = .returned (.tuple #[.agg #[.bool s1, .slice p1 n1 n1], .agg #[.bool s2, .slice p2 n2 n2], .int .i64 0]) ∧ NI w.heap.size w' s1 p1 n1 qs Q ∧ NI w.heap.size w' s2 p2 n2 rs R ∧
    Q * b + R = a ∧ 0 ≤ R ∧ R < (b.natAbs : Int) ∧ n1 ≤ n + 3 ∧ n2 ≤ n + m + 1 ∧ Below w.heap.size w w'
theorem quo_plus (s t : Bool) (xs ys qs rs : List Int) (h : val qs * val ys + val rs = val xs) (hs : s = false ∨ val rs = 0) : ival (s != t) qs * ival t ys + ival false rs = ival s xs := by
  rcases hs with rfl | hr
  · cases t <;> simp [ival, Int.neg_mul, Int.mul_neg] <;> omega
  · rw [hr] at h
    cases s <;> cases t <;> simp [ival, Int.neg_mul, Int.mul_neg, hr] <;> omega
theorem quo_minus (t : Bool) (xs ys qs rs qs' rs' : List Int) (h : val qs * val ys + val rs = val xs) (h1 : val qs' = val qs + 1) (h2 : val rs' = val ys - val rs) : ival (!t) qs' * ival t ys + ival false rs' = ival true xs := by
  cases t <;> simp [ival, Int.neg_mul, Int.mul_neg, h1, h2, Int.add_mul] <;> omega
theorem abs_ival (t : Bool) {ys : List Int} (h : U32 ys) : ((ival t ys).natAbs : Int) = val ys := by
  have := val_nonneg h
  cases t <;> simp [ival] <;> omega
theorem quo_plus_f (t : Bool) (xs ys qs rs : List Int) (h : val qs * val ys + val rs = val xs) : ival t qs * ival t ys + ival false rs = ival false xs := by
  simpa using quo_plus false t xs ys qs rs h (.inl rfl)
theorem quo_plus_t (t : Bool) (xs ys qs rs : List Int) (h : val qs * val ys + val rs = val xs) (hr : val rs = 0) : ival (!t) qs * ival t ys + ival false rs = ival true xs := by
  simpa using quo_plus true t xs ys qs rs h (.inr hr)
theorem tr_one {ys : List Int} (hU : U32 ys) (h : tlen ys = 1) : tr ys = [val ys] := by
  have hl := length_tr ys
  rw [h] at hl
  match he : tr ys, hl with
  | [d], _ =>
    have := val_tr ys
    rw [he, val_one] at this
    rw [this]
end Go.Proofs.YtkbgeggflhfleaaGreatDoor
