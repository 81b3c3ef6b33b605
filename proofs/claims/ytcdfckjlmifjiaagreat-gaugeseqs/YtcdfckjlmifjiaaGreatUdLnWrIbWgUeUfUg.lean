/-
  upoly.Of.
-/
import Derived.Test.YtcdfckjlmifjiaaGreatRoUcVbDaVcDuOi
import Derived.Test.YtcdfckjlmifjiaaGreatProg
import Derived.Shelf.Small.Bits
import Derived.Test.YtcdfckjlmifjiaaGreatWdWeNi
import Derived.Test.YtcdfckjlmifjiaaGreatRdReRxBbCvRfRhCqRr
import Derived.StillTailTactics
namespace Go.Proofs.YtcdfckjlmifjiaaGreat
open Go.RowKit
set_option linter.unusedVariables false
set_option linter.unusedSimpArgs false

/-- The number of an element that is answered. -/
def NV (B : Nat) (w : World) (K : Nat) (z : Int) (e : Ent) : Prop := ∃ xs, NI B w e.s e.p e.n xs z ∧ e.c = e.n ∧ e.n ≤ K
/-- A polynomial that is answered: in normal form, in memory from block B on. -/
structure PN (B : Nat) (w : World) (K : Nat) (p : Option Addr) (n : Nat) (es : List Ent) (zs : List Int) : Prop where
  el : es.length = n
  zl : zs.length = n
  nrm : tlen zs = n
  pl : PL w p es
  fr : Go.Proofs.YtcdfckjlmifjiaaGreat.From B p
  ev : ∀ j, j < n → NV B w K (gx zs j) (ge es j)
section
variable {B : Nat} {w w' : World} {K : Nat} {z : Int} {e : Ent} {p : Option Addr} {n : Nat} {es : List Ent} {zs : List Int}
theorem NV.below (h : NV B w K z e) (hb : Below w.heap.size w w') : NV B w' K z e := by
  obtain ⟨xs, h1, h2⟩ := h
  exact ⟨xs, h1.below hb, h2⟩
theorem NV.mono {B' : Nat} (h : NV B w K z e) (hB : B' ≤ B) : NV B' w K z e := by
  obtain ⟨xs, h1, h2⟩ := h
  exact ⟨xs, h1.mono hB, h2⟩
theorem NV.ez (B : Nat) (w : World) (K : Nat) : NV B w K 0 ez := ⟨[], ⟨rfl, Rd.nil, fun j => by simp [gx], by decide, fun _ => rfl, fun _ => rfl, by decide, (fun a ha => by cases ha), Fz.nil _⟩, rfl, Nat.zero_le _⟩
theorem NV.set2 (h : NV B w K z e) {g o : Nat} (hg : g < B) (u v : Value) : NV B ((w.setCell ⟨g, o, none⟩ u).setCell ⟨g, o + 1, none⟩ v) K z e := by
  obtain ⟨xs, h1, h2⟩ := h
  exact ⟨xs, (h1.set (a := ⟨g, o, none⟩) hg u).set (a := ⟨g, o + 1, none⟩) hg v, h2⟩
theorem NV.ev (h : NV B w K z e) (hK : K ≤ 1000) : EV w K z e := by
  obtain ⟨xs, h1, h2, h3⟩ := h
  exact ⟨xs, by rw [h2]; exact h1.ai (by omega), h1.v, h3⟩
theorem PN.below (h : PN B w K p n es zs) (hb : Below w.heap.size w w') : PN B w' K p n es zs := ⟨h.el, h.zl, h.nrm, h.pl.below hb, h.fr, fun j hj => (h.ev j hj).below hb⟩
theorem PN.mono {B' : Nat} (h : PN B w K p n es zs) (hB : B' ≤ B) : PN B' w K p n es zs := ⟨h.el, h.zl, h.nrm, h.pl, fun a ha => Nat.le_trans hB (h.fr a ha), fun j hj => (h.ev j hj).mono hB⟩
theorem PN.pa (h : PN B w K p n es zs) (hK : K ≤ 1000) (hn : n ≤ 1000000) : PA w K p n n es zs :=
  ⟨h.el, h.zl, Nat.le_refl _, by unfold maxLen; omega, fun e => by
    rcases Nat.eq_zero_or_pos n with h0 | h0
    · exact h0
    · obtain ⟨b, o, hp, -⟩ := h.pl (by rw [h.el]; exact h0)
      rw [hp] at e
      exact absurd e (by simp), h.pl, fun j hj => (h.ev j hj).ev hK⟩
end
/-- What a function answers that gives a polynomial. -/
def PnP (zs : List Int) (K : Nat) (w : World) (e : Ending) (w' : World) : Prop :=
  ∃ p n es, e = .returned (.slice p n n) ∧ PN w.heap.size w' K p n es zs ∧ Below w.heap.size w w'
end Go.Proofs.YtcdfckjlmifjiaaGreat
/-
  math/bits.Len32, off the shelf.
-/
namespace Go.Proofs.YtcdfckjlmifjiaaGreat
open Go.Shelf

def renLen32 : Go.Shelf.Ren := ⟨fun | 128 => 69 | n => n, fun | 3 => 3 | 4 => 4 | 5 => 5 | 9 => 9 | 46 => 90 | 51 => 100 | n => n, fun n => n⟩
theorem laysLen32 : Lays.n128 Tryz.prog renLen32 :=
  { mixed := by kernel_rfl
    f128 := by kernel_rfl
    t3 := by kernel_rfl
    a3 := fun _ => by kernel_rfl
    z3 := fun _ => by kernel_rfl
    v3 := fun _ => by kernel_rfl
    t4 := by kernel_rfl
    a4 := fun _ => by kernel_rfl
    z4 := fun _ => by kernel_rfl
    v4 := fun _ => by kernel_rfl
    t5 := by kernel_rfl
    a5 := fun _ => by kernel_rfl
    z5 := fun _ => by kernel_rfl
    v5 := fun _ => by kernel_rfl
    t9 := by kernel_rfl
    a9 := fun _ => by kernel_rfl
    z9 := fun _ => by kernel_rfl
    v9 := fun _ => by kernel_rfl
    t46 := by kernel_rfl
    a46 := fun _ => by kernel_rfl
    z46 := fun _ => by kernel_rfl
    v46 := fun _ => by kernel_rfl
    t51 := by kernel_rfl
    a51 := fun _ => by kernel_rfl
    z51 := fun _ => by kernel_rfl
    v51 := fun _ => by kernel_rfl }
theorem Len32_any (x : Int) (w : World) (h0 : 0 ≤ x) (h1 : x ≤ 4294967295) :
    Calls Tryz.prog 69 #[.int .u32 x] w fun e w' => e = .returned (.int .i64 (Lib.bitLen x.toNat)) ∧ w' = w := Any.bits_Len32 laysLen32 x w h0 h1
end Go.Proofs.YtcdfckjlmifjiaaGreat
/-
  limbs.Bits.
-/
namespace Go.Proofs.YtcdfckjlmifjiaaGreat
open Go.RowKit
set_option linter.unusedVariables false
set_option linter.unusedSimpArgs false

/-- How many bits a size has, by its limbs. -/
def nbits (xs : List Int) : Int := if tlen xs = 0 then 0 else 32 * ((tlen xs : Int) - 1) + (Lib.bitLen (gx xs (tlen xs - 1)).toNat : Int)

theorem bitLenAux_le (f x : Nat) : Lib.bitLenAux f x ≤ f := by
  induction f generalizing x with
  | zero => simp [Lib.bitLenAux]
  | succ f ih => simp only [Lib.bitLenAux]; split <;> (have := ih (x / 2); omega)

set_option maxHeartbeats 1000000 in
/-- limbs.Bits. -/
theorem Bits_any (s : Bool) (p : Option Addr) (n nc : Nat) (xs : List Int) (w : World) (hA : AI w p n nc xs) :
    Calls Tryz.prog 48 #[.agg #[.bool s, .slice p n nc]] w fun e w' => e = .returned (.int .i64 (nbits xs)) ∧ Below w.heap.size w w' := by
  have tx := tlen_le xs
  have lx := hA.len
  have hs := hA.sml
  by_cases h0 : tlen xs = 0
  · rw [nbits, if_pos h0]
    go_enter Tryz.func48, Tryz.ntmps48
    go_wp2_with (go_at_call 68; refine (trim_any p n nc xs _ hA.len hA.cap hA.bnd (hA.rd.alloc _)).mono ?_; rintro e w' ⟨rfl, rfl⟩)
    go_ret
    exact ⟨rfl, (Below.refl _ _).alloc (Nat.le_refl _) _⟩
  · rw [nbits, if_neg h0]
    have h1 : (((tlen xs : Nat) : Int) == 0) = false := beq_eq_false_iff_ne.2 (by omega)
    obtain ⟨j, hj⟩ : ∃ j, tlen xs = j + 1 := ⟨tlen xs - 1, by omega⟩
    obtain ⟨b, off, rfl, hc⟩ := (hA.rd.alloc (.cells #[.bool s, .slice p n nc] 50)) (by omega)
    have hcj := hc j (by omega)
    obtain ⟨b0, b1⟩ := hA.u j
    have hbl : Lib.bitLen (gx xs j).toNat ≤ 64 := by
      exact bitLenAux_le 64 _
    clear hc
    have htr := trim_any (some ⟨b, off, none⟩) n nc xs (w.alloc (.cells #[.bool s, .slice (some ⟨b, off, none⟩) n nc] 50)) hA.len hA.cap hA.bnd (hA.rd.alloc _)
    rw [hj] at htr h1 ⊢
    have HT := htr
    go_enter Tryz.func48, Tryz.ntmps48
    go_wp2_with fail
    refine HT.mono ?_
    rintro e w' ⟨rfl, rfl⟩
    go_wp2_with fail
    refine (Len32_any _ _ b0 (by omega)).mono ?_
    rintro e w' ⟨rfl, rfl⟩
    go_wp2
    go_ret
    refine ⟨ret_int ?_, (Below.refl _ _).alloc (Nat.le_refl _) _⟩
    rw [Nat.add_sub_cancel]
    omega
end Go.Proofs.YtcdfckjlmifjiaaGreat
/-
  How many bits a number has: plain facts.
-/
namespace Go.Proofs.YtcdfckjlmifjiaaGreat
open Go.RowKit
set_option linter.unusedVariables false
set_option linter.unusedSimpArgs false

/-- x has b bits. -/
def IB (b : Nat) (x : Int) : Prop := 0 ≤ x ∧ x < 2 ^ b ∧ (b = 0 ∨ (2 : Int) ^ (b - 1) ≤ x)
theorem p2_mono {a b : Nat} (h : a ≤ b) : (2 : Int) ^ a ≤ 2 ^ b := by
  obtain ⟨c, rfl⟩ := Nat.exists_eq_add_of_le h
  rw [Int.pow_add]
  have h1 : (0 : Int) < 2 ^ a := Int.pow_pos (by decide)
  have h2 : (0 : Int) < 2 ^ c := Int.pow_pos (by decide)
  have : (2 : Int) ^ a * 1 ≤ 2 ^ a * 2 ^ c := Int.mul_le_mul_of_nonneg_left (by omega) (by omega)
  omega
theorem IB.uniq {b c : Nat} {x : Int} (h : IB b x) (k : IB c x) : b = c := by
  obtain ⟨h0, h1, h2⟩ := h
  obtain ⟨k0, k1, k2⟩ := k
  rcases Nat.lt_trichotomy b c with hb | hb | hb
  · rcases k2 with k2 | k2
    · omega
    · have := p2_mono (show b ≤ c - 1 by omega); omega
  · exact hb
  · rcases h2 with h2 | h2
    · omega
    · have := p2_mono (show c ≤ b - 1 by omega); omega
/-- The highest digit decides how many bits there are. -/
theorem IB.join {b m : Nat} {x l : Int} (h : IB b x) (hb : 0 < b) (hl0 : 0 ≤ l) (hl1 : l < 2 ^ m) : IB (m + b) (l + 2 ^ m * x) := by
  obtain ⟨h0, h1, h2⟩ := h
  have hm : (0 : Int) < 2 ^ m := Int.pow_pos (by decide)
  refine ⟨by have := Int.mul_nonneg (Int.le_of_lt hm) h0; omega, ?_, .inr ?_⟩
  · rw [Int.pow_add]
    have : (2 : Int) ^ m * x ≤ 2 ^ m * (2 ^ b - 1) := Int.mul_le_mul_of_nonneg_left (by omega) (by omega)
    rw [Int.mul_sub, Int.mul_one] at this
    omega
  · rcases h2 with h2 | h2
    · omega
    · rw [show m + b - 1 = m + (b - 1) by omega, Int.pow_add]
      have : (2 : Int) ^ m * 2 ^ (b - 1) ≤ 2 ^ m * x := Int.mul_le_mul_of_nonneg_left h2 (by omega)
      omega
theorem bitLenAux_ib (f x : Nat) (h : x < 2 ^ f) : IB (Lib.bitLenAux f x) x := by
  induction f generalizing x with
  | zero =>
    have : x = 0 := by simpa using h
    subst this
    exact ⟨by decide, by decide, .inl rfl⟩
  | succ f ih =>
    simp only [Lib.bitLenAux]
    split
    · rename_i h0; subst h0; exact ⟨by decide, by decide, .inl rfl⟩
    · rename_i h0
      have hx : x / 2 < 2 ^ f := by rw [Nat.pow_succ] at h; omega
      obtain ⟨a0, a1, a2⟩ := ih (x / 2) hx
      refine ⟨by omega, ?_, .inr ?_⟩
      · rw [Nat.add_comm, Int.pow_succ]; omega
      · rw [Nat.add_sub_cancel_left]
        rcases a2 with a2 | a2
        · rw [a2] at a1 ⊢
          have e : (2 : Int) ^ 0 = 1 := rfl
          rw [e]; omega
        · have e : (2 : Int) ^ Lib.bitLenAux f (x / 2) = 2 * 2 ^ (Lib.bitLenAux f (x / 2) - 1) := by
            rcases Nat.eq_zero_or_pos (Lib.bitLenAux f (x / 2)) with hz | hz
            · exfalso
              rw [hz] at a1 a2
              have e0 : (2 : Int) ^ 0 = 1 := rfl
              have e1 : (2 : Int) ^ (0 - 1) = 1 := rfl
              rw [e0] at a1; rw [e1] at a2; omega
            · obtain ⟨c, hc⟩ : ∃ c, Lib.bitLenAux f (x / 2) = c + 1 := ⟨Lib.bitLenAux f (x / 2) - 1, by omega⟩
              rw [hc, Int.pow_succ, Nat.add_sub_cancel]; omega
          rw [e]; omega
theorem pw_p2 (k : Nat) : pw k = 2 ^ (32 * k) := by
  unfold pw
  rw [show (4294967296 : Int) = 2 ^ 32 by decide, ← Int.pow_mul]
theorem pd_p2 (k : Nat) : pd k = 2 ^ (16 * k) := by
  unfold pd
  rw [show (65536 : Int) = 2 ^ 16 by decide, ← Int.pow_mul]
/-- limbs.Bits tells the number's bits. -/
theorem nbits_ib {xs : List Int} (h : U32 xs) : ∃ b : Nat, nbits xs = (b : Int) ∧ IB b (val xs) := by
  unfold nbits
  split
  · rename_i h0
    refine ⟨0, rfl, ?_⟩
    rw [(tlen_zero_iff h).1 h0]
    exact ⟨by decide, by decide, .inl rfl⟩
  · rename_i h0
    have ht := tlen_top xs (by omega)
    have hg := h (tlen xs - 1)
    have hl := tlen_le xs
    refine ⟨32 * (tlen xs - 1) + Lib.bitLen (gx xs (tlen xs - 1)).toNat, by omega, ?_⟩
    have hb := bitLenAux_ib 64 (gx xs (tlen xs - 1)).toNat (by omega)
    have e : ((gx xs (tlen xs - 1)).toNat : Int) = gx xs (tlen xs - 1) := by omega
    rw [e] at hb
    have hb0 : 0 < Lib.bitLen (gx xs (tlen xs - 1)).toNat := by
      rcases Nat.eq_zero_or_pos (Lib.bitLen (gx xs (tlen xs - 1)).toNat) with hz | hz
      · exfalso
        have h2 := hb.2.1
        have hz' : Lib.bitLenAux 64 (gx xs (tlen xs - 1)).toNat = 0 := hz
        rw [hz'] at h2
        have e0 : (2 : Int) ^ 0 = 1 := rfl
        rw [e0] at h2; omega
      · exact hz
    have hj := IB.join (m := 32 * (tlen xs - 1)) (l := val (xs.take (tlen xs - 1))) hb hb0 (val_nonneg (u32_take h _)) (by
      have := val_lt (u32_take h (tlen xs - 1))
      rw [List.length_take, Nat.min_eq_left (by omega), pw_p2] at this
      exact this)
    have ev : val xs = val (xs.take (tlen xs - 1)) + 2 ^ (32 * (tlen xs - 1)) * gx xs (tlen xs - 1) := by
      rw [← pw_p2, ← val_take_succ xs (tlen xs - 1) (by omega), show tlen xs - 1 + 1 = tlen xs by omega]
      exact (val_tr xs).symm
    rw [ev]
    exact hj
/-- So do the digits. -/
theorem digits_ib {ds : List Int} {k : Nat} (h : U16 ds) (hn : tlen ds = ds.length) (h0 : 0 < ds.length) (hk : IB k (gx ds (ds.length - 1))) : IB (16 * (ds.length - 1) + k) (vd ds) := by
  have ht := tlen_top ds (by omega)
  rw [hn] at ht
  have hk0 : 0 < k := by
    rcases Nat.eq_zero_or_pos k with hz | hz
    · exfalso
      have h2 := hk.2.1
      have h1 := hk.1
      rw [hz] at h2
      have e0 : (2 : Int) ^ 0 = 1 := rfl
      rw [e0] at h2; omega
    · exact hz
  have hj := IB.join (m := 16 * (ds.length - 1)) (l := vd (ds.take (ds.length - 1))) hk hk0 (vd_nonneg (u16_take h _)) (by
    have := vd_lt (u16_take h (ds.length - 1))
    rw [List.length_take, Nat.min_eq_left (by omega), pd_p2] at this
    exact this)
  have ev : vd ds = vd (ds.take (ds.length - 1)) + 2 ^ (16 * (ds.length - 1)) * gx ds (ds.length - 1) := by
    rw [← pd_p2, ← vd_take_succ ds (ds.length - 1), show ds.length - 1 + 1 = ds.length by omega, List.take_length]
  rw [ev]
  exact hj

end Go.Proofs.YtcdfckjlmifjiaaGreat
/-
  limbs.Add, Sub.
-/
namespace Go.Proofs.YtcdfckjlmifjiaaGreat
open Go.RowKit
set_option linter.unusedVariables false
set_option linter.unusedSimpArgs false

end Go.Proofs.YtcdfckjlmifjiaaGreat
/-
  upoly.bare, own.
-/
namespace Go.Proofs.YtcdfckjlmifjiaaGreat
open Go.RowKit
set_option linter.unusedVariables false
set_option linter.unusedSimpArgs false

/-- The number of an element in normal form, in whatever memory. -/
def EN (w : World) (K : Nat) (z : Int) (e : Ent) : Prop := ∃ xs, AI w e.p e.n e.c xs ∧ ival e.s xs = z ∧ tlen xs = e.n ∧ (e.n = 0 → e.s = false) ∧ e.n ≤ K
theorem EN.ev {w : World} {K : Nat} {z : Int} {e : Ent} (h : EN w K z e) : EV w K z e := by
  obtain ⟨xs, h1, h2, h3, h4, h5⟩ := h
  exact ⟨xs, h1, h2, h5⟩
theorem EN.below {w w' : World} {K : Nat} {z : Int} {e : Ent} (h : EN w K z e) (hb : Below w.heap.size w w') : EN w' K z e := by
  obtain ⟨xs, h1, h2⟩ := h
  exact ⟨xs, h1.below hb, h2⟩
theorem nbits_len {xs : List Int} (hU : U32 xs) : (nbits xs + 31) / 32 = (tlen xs : Int) ∧ 0 ≤ nbits xs ∧ nbits xs ≤ 32 * (tlen xs : Int) := by
  unfold nbits
  split
  · rename_i h; rw [h]; decide
  · rename_i h
    have h1 := tlen_top xs (by omega)
    obtain ⟨x0, x1⟩ := hU (tlen xs - 1)
    have hb := bitLenAux_ib 64 (gx xs (tlen xs - 1)).toNat (by omega)
    have e : Lib.bitLen (gx xs (tlen xs - 1)).toNat = Lib.bitLenAux 64 (gx xs (tlen xs - 1)).toNat := rfl
    rw [e]
    generalize Lib.bitLenAux 64 (gx xs (tlen xs - 1)).toNat = b at *
    obtain ⟨b0, b1, b2⟩ := hb
    have hb0 : b ≠ 0 := fun e => by subst e; simp at b1; omega
    have hb32 : b ≤ 32 := by
      rcases b2 with h | h
      · omega
      · rcases Nat.lt_or_ge 32 b with h' | h'
        · have := p2_mono (show 32 ≤ b - 1 by omega)
          have e2 : (2 : Int) ^ 32 = 4294967296 := by decide
          omega
        · exact h'
    omega
end Go.Proofs.YtcdfckjlmifjiaaGreat
/-
  upoly.each.
-/
namespace Go.Proofs.YtcdfckjlmifjiaaGreat
open Go.RowKit
set_option linter.unusedVariables false
set_option linter.unusedSimpArgs false

end Go.Proofs.YtcdfckjlmifjiaaGreat
/-
  upoly.read, Norm, Deg.
-/
namespace Go.Proofs.YtcdfckjlmifjiaaGreat
open Go.RowKit
set_option linter.unusedVariables false
set_option linter.unusedSimpArgs false

/-- A polynomial as read gives it. -/
structure PB (B : Nat) (w : World) (K : Nat) (p : Option Addr) (n : Nat) (es : List Ent) (zs : List Int) : Prop where
  el : es.length = n
  zl : zs.length = n
  nrm : tlen zs = n
  pl : PL w p es
  fr : Go.Proofs.YtcdfckjlmifjiaaGreat.From B p
  ev : ∀ j, j < n → EN w K (gx zs j) (ge es j)
theorem EN.set2 {w : World} {K : Nat} {z : Int} {e : Ent} {g o : Nat} {u v : Value} (h : EN w K z e) (ho : 0 < e.n → Off g e.p) : EN ((w.setCell ⟨g, o, none⟩ u).setCell ⟨g, o + 1, none⟩ v) K z e := by
  obtain ⟨xs, h1, h2⟩ := h
  refine ⟨xs, ⟨h1.len, h1.cap, h1.bnd, h1.sml, fun hx => ?_, h1.u⟩, h2⟩
  have := ho (by rw [h1.len] at hx; exact hx)
  exact ((h1.rd.set_other ⟨g, o, none⟩ u this).set_other ⟨g, o + 1, none⟩ v this) hx
theorem PB.below {B : Nat} {w w' : World} {K : Nat} {p : Option Addr} {n : Nat} {es : List Ent} {zs : List Int} (h : PB B w K p n es zs) (hb : Below w.heap.size w w') : PB B w' K p n es zs := ⟨h.el, h.zl, h.nrm, h.pl.below hb, h.fr, fun j hj => (h.ev j hj).below hb⟩
theorem PB.pa {B : Nat} {w : World} {K : Nat} {p : Option Addr} {n : Nat} {es : List Ent} {zs : List Int} (h : PB B w K p n es zs) (hn : n ≤ 1000000) : PA w K p n n es zs :=
  ⟨h.el, h.zl, Nat.le_refl _, by unfold maxLen; omega, fun e => by
    rcases Nat.eq_zero_or_pos n with h0 | h0
    · exact h0
    · obtain ⟨b, o, hp, -⟩ := h.pl (by rw [h.el]; exact h0)
      rw [hp] at e
      exact absurd e (by simp), h.pl, fun j hj => (h.ev j hj).ev⟩
theorem PA.trim {w : World} {K : Nat} {p : Option Addr} {n nc : Nat} {es : List Ent} {zs : List Int} (h : PA w K p n nc es zs) : PA w K p (tlen zs) (tlen zs) (es.take (tlen zs)) (tr zs) := by
  have htl := tlen_le zs
  have hz := h.zl
  have hc := h.cap
  exact (h.take (tlen zs) (by omega)).clip fun e => by have := h.pn e; omega
set_option maxHeartbeats 2000000 in
/-- upoly.Deg. -/
theorem uDeg_any (K : Nat) (p : Option Addr) (n nc : Nat) (es : List Ent) (zs : List Int) (w : World) (h : PA w K p n nc es zs) (hn : n ≤ 1000000) :
    Calls Tryz.prog 66 #[.slice p n nc] w fun e w' => e = .returned (.int .i64 ((tlen zs : Int) - 1)) ∧ Below w.heap.size w w' := by
  have htl := tlen_le zs
  have hzl := h.zl
  have v : IntKind.i64.wrap ((tlen zs : Int) - 1) = (tlen zs : Int) - 1 := by rw [IntKind.wrap_i64]; omega
  go_enter Tryz.func66, Tryz.ntmps66
  go_wp2_with fail
  refine (utrim_any K p n nc es zs _ h hn).mono ?_
  rintro e w1 ⟨rfl, hb1⟩
  go_wp2
  go_ret
  exact ⟨rfl, hb1⟩
end Go.Proofs.YtcdfckjlmifjiaaGreat
