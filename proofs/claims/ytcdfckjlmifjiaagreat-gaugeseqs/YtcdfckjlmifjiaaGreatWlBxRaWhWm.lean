/-
  limbs.quotient by a size that is greater or has one limb; limbs.Quo out of a contract of quotient.
-/
import Derived.Test.YtcdfckjlmifjiaaGreatNiUaOwPnWk
namespace Go.Proofs.YtcdfckjlmifjiaaGreat
open Go.RowKit
set_option linter.unusedVariables false
set_option linter.unusedSimpArgs false

/-- A quotient and what is left, in memory from block B on. -/
structure QR (B : Nat) (w : World) (qa : Option Addr) (qn : Nat) (qs : List Int) (ra : Option Addr) (rn : Nat) (rs : List Int) (x y : Int) (n : Nat) : Prop where
  ql : qs.length = qn
  qrd : Rd w qa .u32 qs
  qu : U32 qs
  qf : From B qa
  rl : rs.length = rn
  rrd : Rd w ra .u32 rs
  ru : U32 rs
  rf : From B ra
  eq : val qs * y + val rs = x
  lt : val rs < y
  qb : qn ≤ n + 1
  rb : rn ≤ n + 1
  row : ∃ g Z, ra = some ⟨g, 0, none⟩ ∧ Row w g 100 .u32 Z ∧ Z.take rn = rs ∧ U32 Z
  qz : Fz w qa
  rz : Fz w ra
theorem QR.below {B : Nat} {w w' : World} {qa : Option Addr} {qn : Nat} {qs : List Int} {ra : Option Addr} {rn : Nat} {rs : List Int} {x y : Int} {n : Nat} (h : QR B w qa qn qs ra rn rs x y n) (hb : Below w.heap.size w w') : QR B w' qa qn qs ra rn rs x y n :=
  ⟨h.ql, h.qrd.below hb, h.qu, h.qf, h.rl, h.rrd.below hb, h.ru, h.rf, h.eq, h.lt, h.qb, h.rb, by obtain ⟨g, Z, h1, h2, h3⟩ := h.row; exact ⟨g, Z, h1, h2.below hb h2.lt, h3⟩, h.qz.below hb, h.rz.below hb⟩

set_option maxHeartbeats 1000000 in
/-- limbs.quotient: the size is below the other. -/
theorem quotient_lt (p q : Option Addr) (n nc m mc : Nat) (xs ys : List Int) (w : World) (hA : AI w p n nc xs) (hB : AI w q m mc ys) (hlt : val xs < val ys) :
    Calls Tryz.prog 106 #[.slice p n nc, .slice q m mc] w fun e w' => ∃ qa qn qs ra rn rs, e = .returned (.tuple #[.slice qa qn qn, .slice ra rn rn]) ∧ QR w.heap.size w' qa qn qs ra rn rs (val xs) (val ys) n ∧ Below w.heap.size w w' := by
  have hs := hA.sml
  go_enter Tryz.func106, Tryz.ntmps106
  go_wp2_with fail
  refine (compare_any p q n nc m mc xs ys _ hA.len hB.len hA.cap hA.bnd hB.cap hB.bnd hA.rd hA.u hB.rd hB.u).mono ?_
  rw [icmp_lt hlt]
  rintro e w1 ⟨rfl, hb1⟩
  go_wp2_with fail
  refine (clone_any p n nc xs _ hA.len (by omega) (hA.rd.below hb1)).mono ?_
  rintro e w2 ⟨rfl, rfl⟩
  go_wp2
  go_ret2
  refine ⟨none, 0, [], some ⟨w1.heap.size, 0, none⟩, n, xs, rfl, ⟨rfl, Rd.nil, u32_nil, from_none, hA.len, (Row.new w1 _ _ _).rd_all, hA.u, from_new hb1.size, by simp [val], hlt, by omega, by omega, ⟨w1.heap.size, xs, rfl, Row.new w1 _ _ _, List.take_of_length_le (by rw [hA.len]; omega), hA.u⟩, Fz.nil _, (Row.new w1 _ _ _).fz 0⟩, hb1.alloc hb1.size _⟩

set_option maxHeartbeats 1000000 in
/-- limbs.quotient: by one limb. -/
theorem quotient_one (p q : Option Addr) (n nc mc : Nat) (xs : List Int) (d : Int) (w : World) (hA : AI w p n nc xs) (hB : AI w q 1 mc [d]) (hd : 0 < d) (hle : d ≤ val xs) :
    Calls Tryz.prog 106 #[.slice p n nc, .slice q 1 mc] w fun e w' => ∃ qa qn qs ra rn rs, e = .returned (.tuple #[.slice qa qn qn, .slice ra rn rn]) ∧ QR w.heap.size w' qa qn qs ra rn rs (val xs) (val [d]) n ∧ Below w.heap.size w w' := by
  have hs := hA.sml
  have hd' : d < 4294967296 := by have := hB.u 0; rw [gx_zero] at this; omega
  have hic : ¬ icmp (val xs) (val [d]) < 0 := by
    rw [val_one, icmp, if_neg (by omega)]; split <;> decide
  go_enter Tryz.func106, Tryz.ntmps106
  go_wp2_with fail
  refine (compare_any p q n nc 1 mc xs [d] _ hA.len hB.len hA.cap hA.bnd hB.cap hB.bnd hA.rd hA.u hB.rd hB.u).mono ?_
  rintro e w1 ⟨rfl, hb1⟩
  go_wp2_with fail
  refine (clone_any p n nc xs _ hA.len (by omega) (hA.rd.below hb1)).mono ?_
  rintro e w2 ⟨rfl, rfl⟩
  obtain ⟨b, off, hq, hc⟩ := ((hB.rd.below hb1).alloc (.cells (ca .u32 xs) 100)) (by simp)
  have hc0 := hc 0 (by simp)
  rw [gx_zero, Nat.add_zero] at hc0
  subst hq
  clear hc
  go_wp2_with fail
  refine (divideByLimb_any w1.heap.size n n xs d _ (by rw [hA.len]; omega) (Nat.le_refl _) (by omega) (Row.new w1 _ _ _) hA.u hd hd').mono ?_
  rintro e w3 ⟨R, r, rfl, r1, r2, r3, r4, r5, r6, r7⟩
  go_wp2
  go_ret2
  have hl := hA.len
  rw [List.take_of_length_le (by omega), List.take_of_length_le (by omega)] at r5
  have hb3 : Below w.heap.size w w3 := below_grown (hb1.alloc hb1.size _) r7 (by simp; have := hb1.size; omega) hb1.size
  refine ⟨some ⟨w1.heap.size, 0, none⟩, n, R, some ⟨w3.heap.size, 0, none⟩, 1, [r], rfl, ⟨by omega, r6.rd_all.alloc _, r2, from_new hb1.size, rfl, (Row.new w3 100 .u32 [r]).rd_all, u32_one (by omega), from_new hb3.size, by rw [val_one, val_one]; exact r5, by rw [val_one, val_one]; exact r4, by omega, by omega, ⟨w3.heap.size, [r], rfl, Row.new w3 100 .u32 [r], rfl, u32_one (by omega)⟩, (r6.alloc _).fz 0, (Row.new w3 100 .u32 [r]).fz 0⟩, hb3.alloc hb3.size _⟩

end Go.Proofs.YtcdfckjlmifjiaaGreat
/-
  Variables of two cells.
-/
namespace Go.Proofs.YtcdfckjlmifjiaaGreat
open Go.RowKit
set_option linter.unusedVariables false
set_option linter.unusedSimpArgs false

/-- Two boxed arguments and two results' variables, in a world that is a letter. -/
structure Box4 (w W : World) (a0 a1 b0 b1 : Value) : Prop where
  size : w.heap.size + 1 + 1 + 1 + 1 ≤ W.heap.size
  below : Below w.heap.size w W
  ca0 : W.cell? ⟨w.heap.size, 0, none⟩ = some a0
  ca1 : W.cell? ⟨w.heap.size, 1, none⟩ = some a1
  cb0 : W.cell? ⟨w.heap.size + 1, 0, none⟩ = some b0
  cb1 : W.cell? ⟨w.heap.size + 1, 1, none⟩ = some b1
  cr0 : W.cell? ⟨w.heap.size + 1 + 1, 0, none⟩ = some (.bool false)
  cr1 : W.cell? ⟨w.heap.size + 1 + 1, 1, none⟩ = some (.slice none 0 0)
  cs0 : W.cell? ⟨w.heap.size + 1 + 1 + 1, 0, none⟩ = some (.bool false)
  cs1 : W.cell? ⟨w.heap.size + 1 + 1 + 1, 1, none⟩ = some (.slice none 0 0)
  fr0 : W.frozen? ⟨w.heap.size + 1 + 1, 0, none⟩ = false
  fr1 : W.frozen? ⟨w.heap.size + 1 + 1, 1, none⟩ = false
  fs0 : W.frozen? ⟨w.heap.size + 1 + 1 + 1, 0, none⟩ = false
  fs1 : W.frozen? ⟨w.heap.size + 1 + 1 + 1, 1, none⟩ = false
/-- A variable of two cells. -/
structure Bx (w : World) (r : Nat) (a0 a1 : Value) : Prop where
  c0 : w.cell? ⟨r, 0, none⟩ = some a0
  c1 : w.cell? ⟨r, 1, none⟩ = some a1
  f0 : w.frozen? ⟨r, 0, none⟩ = false
  f1 : w.frozen? ⟨r, 1, none⟩ = false
theorem Bx.later {w w' : World} {r : Nat} {a0 a1 : Value} (h : Bx w r a0 a1) (hb : Below w.heap.size w w') : Bx w' r a0 a1 := by
  obtain ⟨a, b, c, d⟩ := resbox hb h.c0 h.c1 h.f0 h.f1
  exact ⟨a, b, c, d⟩
theorem Bx.alloc {w : World} {r : Nat} {a0 a1 : Value} (h : Bx w r a0 a1) (o : Obj) : Bx (w.alloc o) r a0 a1 := h.later ((Below.refl _ _).alloc (Nat.le_refl _) o)
theorem Bx.drewN {w : World} {r : Nat} {a0 a1 : Value} (h : Bx w r a0 a1) (k : Nat) : Bx (w.drewN k) r a0 a1 := ⟨h.c0, h.c1, h.f0, h.f1⟩
theorem Bx.new {w : World} {r : Nat} (a0 a1 : Value) (t : Nat) (hr : r = w.heap.size) : Bx (w.alloc (.cells #[a0, a1] t)) r a0 a1 := by
  subst hr
  refine ⟨?_, ?_, ?_, ?_⟩ <;> simp [go_sem]
theorem boxes4 (w : World) (a0 a1 b0 b1 : Value) (t k : Nat) : Box4 w (((((w.alloc (.cells #[a0, a1] t)).alloc (.cells #[b0, b1] t)).alloc (.cells #[.bool false, .slice none 0 0] t)).alloc (.cells #[.bool false, .slice none 0 0] t)).drewN k) a0 a1 b0 b1 := by
  have h1 := ((((Bx.new (w := w) a0 a1 t rfl).alloc (.cells #[b0, b1] t)).alloc (.cells #[.bool false, .slice none 0 0] t)).alloc (.cells #[.bool false, .slice none 0 0] t)).drewN k
  have h2 := (((Bx.new (w := w.alloc (.cells #[a0, a1] t)) b0 b1 t (r := w.heap.size + 1) (World.size_alloc ..).symm).alloc (.cells #[.bool false, .slice none 0 0] t)).alloc (.cells #[.bool false, .slice none 0 0] t)).drewN k
  have h3 := ((Bx.new (w := (w.alloc (.cells #[a0, a1] t)).alloc (.cells #[b0, b1] t)) (.bool false) (.slice none 0 0) t (r := w.heap.size + 1 + 1) (by rw [World.size_alloc, World.size_alloc])).alloc (.cells #[.bool false, .slice none 0 0] t)).drewN k
  have h4 := (Bx.new (w := ((w.alloc (.cells #[a0, a1] t)).alloc (.cells #[b0, b1] t)).alloc (.cells #[.bool false, .slice none 0 0] t)) (.bool false) (.slice none 0 0) t (r := w.heap.size + 1 + 1 + 1) (by rw [World.size_alloc, World.size_alloc, World.size_alloc])).drewN k
  exact ⟨by simp, below_drewN (((((Below.refl _ _).alloc (Nat.le_refl _) _).alloc (by simp) _).alloc (by simp; omega) _).alloc (by simp; omega) _) k, h1.c0, h1.c1, h2.c0, h2.c1, h3.c0, h3.c1, h4.c0, h4.c1, h3.f0, h3.f1, h4.f0, h4.f1⟩
theorem Box4.later {w W W' : World} {a0 a1 b0 b1 : Value} (h : Box4 w W a0 a1 b0 b1) (hb : Below W.heap.size W W') : Box4 w W' a0 a1 b0 b1 := by
  obtain ⟨c0, c1, f0, f1⟩ := resbox hb h.cr0 h.cr1 h.fr0 h.fr1
  obtain ⟨d0, d1, g0, g1⟩ := resbox hb h.cs0 h.cs1 h.fs0 h.fs1
  exact ⟨Nat.le_trans h.size hb.size, h.below.trans (hb.mono (by have := h.size; omega)), cell_later hb h.ca0, cell_later hb h.ca1, cell_later hb h.cb0, cell_later hb h.cb1, c0, c1, d0, d1, f0, f1, g0, g1⟩

end Go.Proofs.YtcdfckjlmifjiaaGreat
/-
  The reference numbers: digits to the base 65536; ashlarref1.trim.
-/
namespace Go.Proofs.YtcdfckjlmifjiaaGreat
open Go.RowKit
set_option linter.unusedVariables false
set_option linter.unusedSimpArgs false

/-- The number of digits to the base 65536, the lowest first. -/
def vd : List Int → Int
  | [] => 0
  | x :: r => x + 65536 * vd r
/-- Each entry is such a digit. -/
def U16 (xs : List Int) : Prop := ∀ j, 0 ≤ gx xs j ∧ gx xs j < 65536
/-- Limbs as digits. -/
def spl : List Int → List Int
  | [] => []
  | x :: r => x % 65536 :: x / 65536 :: spl r
theorem vd_spl (xs : List Int) : vd (spl xs) = val xs := by
  induction xs with
  | nil => rfl
  | cons x r ih => simp only [spl, vd, val, ih]; omega
theorem length_spl (xs : List Int) : (spl xs).length = 2 * xs.length := by
  induction xs with
  | nil => rfl
  | cons x r ih => simp only [spl, List.length_cons, ih]; omega
theorem u16_cons {x : Int} {r : List Int} (h0 : 0 ≤ x ∧ x < 65536) (h : U16 r) : U16 (x :: r) := fun j => by
  cases j with
  | zero => rw [gx_zero]; exact h0
  | succ j => rw [gx_succ]; exact h j
theorem u16_spl {xs : List Int} (h : U32 xs) : U16 (spl xs) := by
  induction xs with
  | nil => intro j; rw [spl, gx_nil]; decide
  | cons x r ih =>
    obtain ⟨h1, h2⟩ := u32_cons h
    exact u16_cons (by omega) (u16_cons (by omega) (ih h2))
theorem spl_append (a b : List Int) : spl (a ++ b) = spl a ++ spl b := by
  induction a with
  | nil => rfl
  | cons x r ih => simp only [List.cons_append, spl, ih]
theorem vd_append_zeros (a b : List Int) (h : ∀ j, gx b j = 0) : vd (a ++ b) = vd a := by
  induction a with
  | nil =>
    rw [List.nil_append]
    induction b with
    | nil => rfl
    | cons x r ih =>
      have h0 := h 0
      rw [gx_zero] at h0
      simp only [vd, h0, ih (fun j => by have := h (j + 1); rwa [gx_succ] at this)]
      rfl
  | cons x r ih => simp only [List.cons_append, vd, ih]
theorem vd_tr (xs : List Int) : vd (tr xs) = vd xs := by
  have h := vd_append_zeros (tr xs) (xs.drop (tlen xs)) (fun j => by rw [gx_drop]; exact tlen_zero xs _ (by omega))
  rw [tr, List.take_append_drop] at h
  exact h.symm
theorem u16_tr {xs : List Int} (h : U16 xs) : U16 (tr xs) := fun j => by rw [gx_tr]; exact h j

/-- A reference number that is handed about. -/
structure RN (w : World) (s : Bool) (p : Option Addr) (n : Nat) (ds : List Int) : Prop where
  len : ds.length = n
  rd : Rd w p .i64 ds
  u : U16 ds
  nrm : tlen ds = n
  sg : n = 0 → s = false
  sml : n ≤ 1000000000
theorem RN.below {w w' : World} {s : Bool} {p : Option Addr} {n : Nat} {ds : List Int} (h : RN w s p n ds) (hb : Below w.heap.size w w') : RN w' s p n ds := ⟨h.len, h.rd.below hb, h.u, h.nrm, h.sg, h.sml⟩
/-- The number of a sign and digits. -/
def rval (s : Bool) (ds : List Int) : Int := if s then - vd ds else vd ds

set_option maxHeartbeats 1000000 in
/-- ashlarref1.trim. -/
theorem rtrim_any (neg : Bool) (p : Option Addr) (len cap : Nat) (xs : List Int) (w : World) (hl : xs.length = len) (hc : len ≤ cap) (hm : cap ≤ maxLen) (hx : Rd w p .i64 xs) :
    Calls Tryz.prog 61 #[.bool neg, .slice p len cap] w fun e w' => e = .returned (.agg #[.bool (nsg neg xs), .slice p (tlen xs) (tlen xs)]) ∧ Below w.heap.size w w' := by
  unfold maxLen at hm
  have ht := tlen_le xs
  go_enter Tryz.func61, Tryz.ntmps61
  go_wp2
  have hx' := hx.alloc (.cells #[.bool false, .slice none 0 0] 62)
  have hBx : Bx (w.alloc (.cells #[.bool false, .slice none 0 0] 62)) w.heap.size (.bool false) (.slice none 0 0) := Bx.new _ _ _ rfl
  have hbw : Below w.heap.size w (w.alloc (.cells #[.bool false, .slice none 0 0] 62)) := (Below.refl _ _).alloc (Nat.le_refl _) _
  generalize w.alloc (.cells #[.bool false, .slice none 0 0] 62) = W at *
  have c0 := hBx.c0
  have c1 := hBx.c1
  have f0 := hBx.f0
  have f1 := hBx.f1
  go_loop [5] (fun n => ∃ k : Nat, k ≤ len ∧ n = .int .i64 k ∧ Hid (∀ j, k ≤ j → gx xs j = 0)) (fun n => (intOf n).toNat)
  case atStart => exact ⟨len, Nat.le_refl _, rfl, gx_past xs len (by omega)⟩
  case round =>
    obtain ⟨k, hk, rfl, hz⟩ := hrel
    by_cases h0 : k = 0
    · subst h0
      have ht0 := tlen_eq xs 0 hz.out (.inl rfl)
      have hns : nsg neg xs = false := by rw [nsg, if_pos ht0]
      have HN : Hid (nsg neg xs = false ∧ tlen xs = 0) := ⟨hns, ht0⟩
      clear hns ht0
      cases neg
      all_goals
        go_wp2
        refine bodyPost_ret (v := .agg #[.bool false, .slice p 0 0]) (by simp [results, Tryz.results61, go_sem, c0, c1]) rfl ⟨by rw [HN.out.1, HN.out.2], ?_⟩
        exact (hbw.setCell (by simp) _).setCell (by simp) _
    · obtain ⟨m, rfl⟩ : ∃ m, k = m + 1 := ⟨k - 1, by omega⟩
      obtain ⟨b, off, rfl, hcell⟩ := hx' (by omega)
      have hcm := hcell m (by omega)
      clear hcell
      by_cases h1 : gx xs m = 0
      · have h2 : (gx xs m == 0) = true := by simp only [h1]; rfl
        go_wp2
        go_round
        case rel => exact ⟨m, by omega, by go_num, fun j hj => by
          rcases Nat.lt_or_ge m j with h | h
          · exact hz.out j h
          · have : j = m := by omega
            subst this; exact h1⟩
        case measure => simp [intOf]
      · have h2 : (gx xs m == 0) = false := by simpa using h1
        have ht1 := tlen_eq xs (m + 1) hz.out (.inr h1)
        have hns : nsg neg xs = neg := by rw [nsg, if_neg (by omega)]
        have HN : Hid (nsg neg xs = neg ∧ tlen xs = m + 1) := ⟨hns, ht1⟩
        clear hns ht1
        cases neg
        · go_wp2
          refine bodyPost_ret (v := .agg #[.bool false, .slice (some ⟨b, off, none⟩) (m + 1) (m + 1)]) (by simp [results, Tryz.results61, go_sem, c0, c1]) rfl ⟨by rw [HN.out.1, HN.out.2], ?_⟩
          exact (hbw.setCell (by simp) _).setCell (by simp) _
        · go_wp2
          refine bodyPost_ret (v := .agg #[.bool true, .slice (some ⟨b, off, none⟩) (m + 1) (m + 1)]) (by simp [results, Tryz.results61, go_sem, c0, c1]) rfl ⟨by rw [HN.out.1, HN.out.2], ?_⟩
          exact (hbw.setCell (by simp) _).setCell (by simp) _
end Go.Proofs.YtcdfckjlmifjiaaGreat
/-
  limbs.Sign.
-/
namespace Go.Proofs.YtcdfckjlmifjiaaGreat
open Go.RowKit
set_option linter.unusedVariables false
set_option linter.unusedSimpArgs false

/-- The sign of an integer. -/
def isgn (z : Int) : Int := if z = 0 then 0 else if z < 0 then -1 else 1

theorem isgn_ival_zero {s : Bool} {xs : List Int} (hU : U32 xs) (h : tlen xs = 0) : isgn (ival s xs) = 0 := by
  have := (tlen_zero_iff hU).1 h
  cases s <;> simp [ival, isgn, this]
theorem isgn_ival {s : Bool} {xs : List Int} (hU : U32 xs) (h : tlen xs ≠ 0) : isgn (ival s xs) = if s then -1 else 1 := by
  have h1 : val xs ≠ 0 := fun e => h ((tlen_zero_iff hU).2 e)
  have h2 := val_nonneg hU
  cases s
  · simp only [ival, isgn, Bool.false_eq_true, if_false]; rw [if_neg h1, if_neg (by omega)]
  · simp only [ival, isgn, if_true]; rw [if_neg (by omega), if_pos (by omega)]

set_option maxHeartbeats 400000 in
/-- limbs.Sign. -/
theorem Sign_any (s : Bool) (p : Option Addr) (n nc : Nat) (xs : List Int) (w : World) (hA : AI w p n nc xs) :
    Calls Tryz.prog 91 #[.agg #[.bool s, .slice p n nc]] w fun e w' => e = .returned (.int .i64 (isgn (ival s xs))) ∧ Below w.heap.size w w' := by
  have tx := tlen_le xs
  by_cases h0 : tlen xs = 0
  · rw [isgn_ival_zero hA.u h0]
    go_enter Tryz.func91, Tryz.ntmps91
    go_wp2_with (go_at_call 68; refine (trim_any p n nc xs _ hA.len hA.cap hA.bnd (hA.rd.alloc _)).mono ?_; rintro e w' ⟨rfl, rfl⟩)
    go_ret
    exact ⟨rfl, (Below.refl _ _).alloc (Nat.le_refl _) _⟩
  · rw [isgn_ival hA.u h0]
    have h1 : (((tlen xs : Nat) : Int) == 0) = false := beq_eq_false_iff_ne.2 (by omega)
    cases s
    all_goals
      go_enter Tryz.func91, Tryz.ntmps91
      go_wp2_with (go_at_call 68; refine (trim_any p n nc xs _ hA.len hA.cap hA.bnd (hA.rd.alloc _)).mono ?_; rintro e w' ⟨rfl, rfl⟩)
      go_ret
      exact ⟨rfl, (Below.refl _ _).alloc (Nat.le_refl _) _⟩

theorem isgn_cases (z : Int) : (z = 0 ∧ isgn z = 0) ∨ (z < 0 ∧ isgn z = -1) ∨ (0 < z ∧ isgn z = 1) := by
  rcases Int.lt_trichotomy z 0 with h | h | h
  · exact .inr (.inl ⟨h, by rw [isgn, if_neg (by omega), if_pos h]⟩)
  · exact .inl ⟨h, by rw [isgn, if_pos h]⟩
  · exact .inr (.inr ⟨h, by rw [isgn, if_neg (by omega), if_neg (by omega)]⟩)
theorem icmp_isgn {a b : Int} (h : isgn a ≠ isgn b) : icmp (isgn a) (isgn b) = icmp a b := by
  rcases isgn_cases a with ⟨h1, h2⟩ | ⟨h1, h2⟩ | ⟨h1, h2⟩ <;> rcases isgn_cases b with ⟨h3, h4⟩ | ⟨h3, h4⟩ | ⟨h3, h4⟩ <;> rw [h2, h4] at h ⊢ <;>
    first
      | exact absurd rfl h
      | (rw [icmp_lt (by omega), icmp_lt (by omega)])
      | (rw [icmp_gt (by omega), icmp_gt (by omega)])
theorem icmp_same {s t : Bool} {xs ys : List Int} (hX : U32 xs) (hY : U32 ys) (h : isgn (ival s xs) = isgn (ival t ys)) : isgn (ival s xs) * icmp (val xs) (val ys) = icmp (ival s xs) (ival t ys) := by
  have h1 := val_nonneg hX
  have h2 := val_nonneg hY
  rcases isgn_cases (ival s xs) with ⟨a1, a2⟩ | ⟨a1, a2⟩ | ⟨a1, a2⟩ <;> rcases isgn_cases (ival t ys) with ⟨b1, b2⟩ | ⟨b1, b2⟩ | ⟨b1, b2⟩ <;> rw [a2, b2] at h <;> (try (exact absurd h (by decide))) <;> rw [a2]
  · rw [a1, b1, icmp_eq, Int.zero_mul]
  · have e1 : s = true := by cases s <;> simp_all [ival] <;> omega
    have e2 : t = true := by cases t <;> simp_all [ival] <;> omega
    subst e1 e2
    simp only [ival, if_true]
    rcases Int.lt_trichotomy (val xs) (val ys) with g | g | g
    · rw [icmp_lt g, icmp_gt (by omega)]; rfl
    · rw [g, icmp_eq, icmp_eq]; rfl
    · rw [icmp_gt g, icmp_lt (by omega)]; rfl
  · have e1 : s = false := by cases s <;> simp_all [ival] <;> omega
    have e2 : t = false := by cases t <;> simp_all [ival] <;> omega
    subst e1 e2
    simp only [ival, Bool.false_eq_true, if_false, Int.one_mul]
end Go.Proofs.YtcdfckjlmifjiaaGreat
/-
  limbs.Quo.
-/
namespace Go.Proofs.YtcdfckjlmifjiaaGreat
open Go.RowKit
set_option linter.unusedVariables false
set_option linter.unusedSimpArgs false

/-- What Quo answers. -/
def QuoPost (w : World) (a b : Int) (n m : Nat) (e : Ending) (w' : World) : Prop :=
  ∃ s1 p1 n1 qs s2 p2 n2 rs Q R, e = .returned (.tuple #[.agg #[.bool s1, .slice p1 n1 n1], .agg #[.bool s2, .slice p2 n2 n2], .int .i64 0]) ∧ NI w.heap.size w' s1 p1 n1 qs Q ∧ NI w.heap.size w' s2 p2 n2 rs R ∧
    Q * b + R = a ∧ 0 ≤ R ∧ R < (b.natAbs : Int) ∧ n1 ≤ n + 3 ∧ n2 ≤ n + m + 1 ∧ Below w.heap.size w w'

theorem quo_plus (s t : Bool) (xs ys qs rs : List Int) (h : val qs * val ys + val rs = val xs) (hs : s = false ∨ val rs = 0) : ival (s != t) qs * ival t ys + ival false rs = ival s xs := by
  rcases hs with rfl | hr
  · cases t <;> simp [ival, Int.neg_mul, Int.mul_neg] <;> omega
  · rw [hr] at h
    cases s <;> cases t <;> simp [ival, Int.neg_mul, Int.mul_neg, hr] <;> omega
theorem quo_minus (t : Bool) (xs ys qs rs qs' rs' : List Int) (h : val qs * val ys + val rs = val xs) (h1 : val qs' = val qs + 1) (h2 : val rs' = val ys - val rs) : ival (!t) qs' * ival t ys + ival false rs' = ival true xs := by
  cases t <;> simp [ival, Int.neg_mul, Int.mul_neg, h1, h2, Int.add_mul] <;> omega
theorem abs_ival (t : Bool) {ys : List Int} (h : U32 ys) : ((ival t ys).natAbs : Int) = val ys := by
  have := val_nonneg h
  cases t <;> simp [ival] <;> omega

theorem quo_plus_f (t : Bool) (xs ys qs rs : List Int) (h : val qs * val ys + val rs = val xs) : ival t qs * ival t ys + ival false rs = ival false xs := by
  simpa using quo_plus false t xs ys qs rs h (.inl rfl)
theorem quo_plus_t (t : Bool) (xs ys qs rs : List Int) (h : val qs * val ys + val rs = val xs) (hr : val rs = 0) : ival (!t) qs * ival t ys + ival false rs = ival true xs := by
  simpa using quo_plus true t xs ys qs rs h (.inr hr)

set_option maxHeartbeats 1000000 in
/-- limbs.Quo: by zero. -/
theorem Quo_zero (s t : Bool) (p q : Option Addr) (n nc m mc : Nat) (xs ys : List Int) (w : World) (hA : AI w p n nc xs) (hB : AI w q m mc ys) (h0 : val ys = 0) :
    Calls Tryz.prog 101 #[.agg #[.bool s, .slice p n nc], .agg #[.bool t, .slice q m mc]] w fun e w' => e = .returned (.tuple #[.agg #[.bool false, .slice none 0 0], .agg #[.bool false, .slice none 0 0], .int .i64 2]) ∧ Below w.heap.size w w' := by
  have ht : tlen ys = 0 := (tlen_zero_iff hB.u).2 h0
  go_enter Tryz.func101, Tryz.ntmps101
  go_wp2
  go_quiet (first
    | (go_at_call_of 68 (Value.slice p n nc); exact Calls.quiet_of_same (flip_same (trim_any p n nc xs _ hA.len hA.cap hA.bnd ((((hA.rd.alloc _).alloc _).alloc _).alloc _))))
    | (go_at_call_of 68 (Value.slice q m mc); exact Calls.quiet_of_same (flip_same (trim_any q m mc ys _ hB.len hB.cap hB.bnd ((((hB.rd.alloc _).alloc _).alloc _).alloc _)))))
  go_wp2
  refine bodyPost_ret (v := .tuple #[.agg #[.bool false, .slice none 0 0], .agg #[.bool false, .slice none 0 0], .int .i64 2]) (by simp [results, Tryz.results101, go_sem]) rfl ⟨rfl, ?_⟩
  have hX := boxes4 w (.bool s) (.slice p n nc) (.bool t) (.slice q m mc) 50 nq
  exact (((hX.below.setCell (by simp; omega) _).setCell (by simp; omega) _).setCell (by simp; omega) _).setCell (by simp; omega) _

set_option maxHeartbeats 2000000 in
/-- limbs.Quo, out of a contract of quotient. -/
theorem Quo_of (s t : Bool) (p q : Option Addr) (n nc m mc : Nat) (xs ys : List Int) (w : World) (hA : AI w p n nc xs) (hB : AI w q m mc ys) (h0 : val ys ≠ 0)
    (hQ : ∀ W, AI W p (tlen xs) nc (tr xs) → AI W q (tlen ys) mc (tr ys) → Calls Tryz.prog 106 #[.slice p (tlen xs) nc, .slice q (tlen ys) mc] W fun e w' => ∃ qa qn qs ra rn rs, e = .returned (.tuple #[.slice qa qn qn, .slice ra rn rn]) ∧ QR W.heap.size w' qa qn qs ra rn rs (val (tr xs)) (val (tr ys)) (tlen xs) ∧ Below W.heap.size W w') :
    Calls Tryz.prog 101 #[.agg #[.bool s, .slice p n nc], .agg #[.bool t, .slice q m mc]] w (QuoPost w (ival s xs) (ival t ys) n m) := by
  have tx := tlen_le xs
  have ty := tlen_le ys
  have lx := hA.len
  have ly := hB.len
  have bx := hA.sml
  have by' := hB.sml
  have ht : tlen ys ≠ 0 := fun e => h0 ((tlen_zero_iff hB.u).1 e)
  have ht' : (((tlen ys : Nat) : Int) == 0) = false := beq_eq_false_iff_ne.2 (by omega)
  go_enter Tryz.func101, Tryz.ntmps101
  go_wp2
  go_quiet (first
    | (go_at_call_of 68 (Value.slice p n nc); exact Calls.quiet_of_same (flip_same (trim_any p n nc xs _ hA.len hA.cap hA.bnd ((((hA.rd.alloc _).alloc _).alloc _).alloc _))))
    | (go_at_call_of 68 (Value.slice q m mc); exact Calls.quiet_of_same (flip_same (trim_any q m mc ys _ hB.len hB.cap hB.bnd ((((hB.rd.alloc _).alloc _).alloc _).alloc _)))))
  go_wp2_with fail
  have hX0 := boxes4 w (.bool s) (.slice p n nc) (.bool t) (.slice q m mc) 50 nq
  generalize (((((w.alloc (Obj.cells #[Value.bool s, Value.slice p n nc] 50)).alloc (Obj.cells #[Value.bool t, Value.slice q m mc] 50)).alloc (Obj.cells #[Value.bool false, Value.slice none 0 0] 50)).alloc (Obj.cells #[Value.bool false, Value.slice none 0 0] 50)).drewN nq) = W0 at *
  refine (hQ W0 (hA.below hX0.below).tr (hB.below hX0.below).tr).mono ?_
  rintro e W ⟨qa, qn, qs, ra, rn, rs, rfl, hq, hb0⟩
  have hX := hX0.later hb0
  have hsz0 := hX0.size
  have hq' := hq
  have hB' := hB.below hX.below
  have qb := hq.qb
  have rb := hq.rb
  have k0 := hX.ca0
  have k1 := hX.ca1
  have k2 := hX.cb0
  have k3 := hX.cb1
  have q1 := hq.eq
  have q2 := hq.lt
  rw [val_tr, val_tr] at q1
  rw [val_tr] at q2
  have HQ : Hid (val qs * val ys + val rs = val xs) := q1
  clear q1 hQ
  have hcase : (s = true ∧ tlen rs ≠ 0) ∨ (s = false ∨ val rs = 0) := by
    cases s
    · exact .inr (.inl rfl)
    · by_cases h : tlen rs = 0
      · exact .inr (.inr ((tlen_zero_iff hq.ru).1 h))
      · exact .inl ⟨rfl, h⟩
  rcases hcase with ⟨rfl, hr⟩ | hr
  · have hr' : 0 < ((tlen rs : Nat) : Int) := by omega
    have hrp : 0 < val rs := by
      have := val_nonneg hq.ru
      have h2 : val rs ≠ 0 := fun e => hr ((tlen_zero_iff hq.ru).2 e)
      omega
    go_wp2_with fail
    refine (trim_any ra rn rn rs _ hq.rl (Nat.le_refl _) (by unfold maxLen; omega) hq.rrd).mono ?_
    rintro e w' ⟨rfl, rfl⟩
    go_wp2_with fail
    refine (sum_any qa (some ⟨W.heap.size, 0, none⟩) qn qn 1 1 qs [1] _ hq.ql rfl (by omega) (by decide) (hq.qrd.alloc _) hq.qu (Row.new W 100 .u32 [1]).rd_all (u32_one (by decide))).mono ?_
    rintro e w2 ⟨M, zs, rfl, m1, m2, m3, s1, s2, s3, s4, hb2⟩
    have hX2 := hX.later (((Below.refl _ _).alloc (Nat.le_refl _) (.cells (ca .u32 [1]) 100)).trans (hb2.mono (by simp)))
    have hrr := hq.rrd.below (((Below.refl _ _).alloc (Nat.le_refl _) (.cells (ca .u32 [1]) 100)).trans (hb2.mono (by simp)))
    have hBt := (hB.below hX2.below).tr
    clear k0 k1 k2 k3
    have k0 := hX2.ca0
    have k1 := hX2.ca1
    have k2 := hX2.cb0
    have k3 := hX2.cb1
    go_wp2_with fail
    refine (difference_any q ra (tlen ys) mc rn rn (tr ys) rs _ (length_tr ys) hq.rl (Nat.le_refl _) (by unfold maxLen; omega) (by omega) hBt.rd hBt.u hrr hq.ru (by rw [val_tr]; omega)).mono ?_
    rintro e w5 ⟨ds, rfl, d1, d2, d3, d4, hb5⟩
    have hX5 := hX2.later hb5
    rw [val_tr] at d3
    rw [val_one] at s3
    clear k0 k1 k2 k3
    have k0 := hX5.ca0
    have k1 := hX5.ca1
    have k2 := hX5.cb0
    have k3 := hX5.cb1
    have hsW := hb0.size
    have hsW2 := hb2.size
    rw [World.size_alloc] at hsW2
    have s4' := s4.below hb5 s4.lt
    rw [World.size_alloc] at s4'
    go_wp2_with fail
    refine (number_any (!t) (some ⟨W.heap.size + 1, 0, none⟩) (M) (M) (zs) _ (s1) (Nat.le_refl _) (by unfold maxLen; omega) (s4'.rd_all)).mono ?_
    rintro e w3 ⟨rfl, hb3⟩
    have hX3 := hX5.later hb3
    clear k0 k1 k2 k3
    have k0 := hX3.ca0
    have k1 := hX3.ca1
    have k2 := hX3.cb0
    have k3 := hX3.cb1
    go_wp2_with fail
    refine (number_any false (some ⟨w2.heap.size, 0, none⟩) (tlen ys) (tlen ys) (ds) _ (d1) (Nat.le_refl _) (by unfold maxLen; omega) ((d4.rd_all).below hb3)).mono ?_
    rintro e w4 ⟨rfl, hb4⟩
    have hX4 := hX3.later hb4
    have z0 := hX4.cr0
    have z1 := hX4.cr1
    have z2 := hX4.cs0
    have z3 := hX4.cs1
    have z4 := hX4.fr0
    have z5 := hX4.fr1
    have z6 := hX4.fs0
    have z7 := hX4.fs1
    have n1 := ((((((ni_number (B := W0.heap.size) (!t) (s4'.rd_all) (s2) (from_new (by omega)) (s4'.fz 0)).below hb3).below hb4).set (a := ⟨w.heap.size + 1 + 1, 0, none⟩) (by simp; omega) (.bool (nsg (!t) (zs)))).set (a := ⟨w.heap.size + 1 + 1, 1, none⟩) (by simp; omega) (.slice (nad (some ⟨W.heap.size + 1, 0, none⟩) (zs)) (tlen (zs)) (tlen (zs)))).set (a := ⟨w.heap.size + 1 + 1 + 1, 0, none⟩) (by simp; omega) (.bool (nsg false (ds)))).set (a := ⟨w.heap.size + 1 + 1 + 1, 1, none⟩) (by simp; omega) (.slice (nad (some ⟨w2.heap.size, 0, none⟩) (ds)) (tlen (ds)) (tlen (ds)))
    have n2 := (((((ni_number (B := W0.heap.size) false ((d4.rd_all).below hb3) (d2) (from_new (by omega)) ((d4.fz 0).below hb3)).below hb4).set (a := ⟨w.heap.size + 1 + 1, 0, none⟩) (by simp; omega) (.bool (nsg (!t) (zs)))).set (a := ⟨w.heap.size + 1 + 1, 1, none⟩) (by simp; omega) (.slice (nad (some ⟨W.heap.size + 1, 0, none⟩) (zs)) (tlen (zs)) (tlen (zs)))).set (a := ⟨w.heap.size + 1 + 1 + 1, 0, none⟩) (by simp; omega) (.bool (nsg false (ds)))).set (a := ⟨w.heap.size + 1 + 1 + 1, 1, none⟩) (by simp; omega) (.slice (nad (some ⟨w2.heap.size, 0, none⟩) (ds)) (tlen (ds)) (tlen (ds)))
    have tq := tlen_le (zs)
    have tr' := tlen_le (ds)
    have lq := s1
    have lr := d1
    go_wp2
    refine bodyPost_ret (v := .tuple #[.agg #[.bool (nsg (!t) (zs)), .slice (nad (some ⟨W.heap.size + 1, 0, none⟩) (zs)) (tlen (zs)) (tlen (zs))], .agg #[.bool (nsg false (ds)), .slice (nad (some ⟨w2.heap.size, 0, none⟩) (ds)) (tlen (ds)) (tlen (ds))], .int .i64 0]) (by simp [results, Tryz.results101, go_sem, z0, z1, z2, z3]) rfl ?_
    refine ⟨_, _, _, tr (zs), _, _, _, tr (ds), _, _, rfl, n1.mono (by omega), n2.mono (by omega), quo_minus t xs ys qs rs zs ds HQ.out s3 d3, ?_, ?_, by omega, by omega, ?_⟩
    · exact val_nonneg (d2)
    · rw [abs_ival t hB.u]; show val (ds) < _; omega
    · exact (((hX4.below.setCell (by simp; omega) _).setCell (by simp; omega) _).setCell (by simp; omega) _).setCell (by simp; omega) _
  · cases s
    · go_wp2_with fail
      refine (number_any t (qa) (qn) (qn) (qs) _ (hq.ql) (Nat.le_refl _) (by unfold maxLen; omega) (hq.qrd)).mono ?_
      rintro e w3 ⟨rfl, hb3⟩
      have hX3 := hX.later hb3
      clear k0 k1 k2 k3
      have k0 := hX3.ca0
      have k1 := hX3.ca1
      have k2 := hX3.cb0
      have k3 := hX3.cb1
      go_wp2_with fail
      refine (number_any false (ra) (rn) (rn) (rs) _ (hq.rl) (Nat.le_refl _) (by unfold maxLen; omega) ((hq.rrd).below hb3)).mono ?_
      rintro e w4 ⟨rfl, hb4⟩
      have hX4 := hX3.later hb4
      have z0 := hX4.cr0
      have z1 := hX4.cr1
      have z2 := hX4.cs0
      have z3 := hX4.cs1
      have z4 := hX4.fr0
      have z5 := hX4.fr1
      have z6 := hX4.fs0
      have z7 := hX4.fs1
      have n1 := ((((((ni_number (B := W0.heap.size) t (hq.qrd) (hq.qu) (hq.qf) (hq.qz)).below hb3).below hb4).set (a := ⟨w.heap.size + 1 + 1, 0, none⟩) (by simp; omega) (.bool (nsg t (qs)))).set (a := ⟨w.heap.size + 1 + 1, 1, none⟩) (by simp; omega) (.slice (nad (qa) (qs)) (tlen (qs)) (tlen (qs)))).set (a := ⟨w.heap.size + 1 + 1 + 1, 0, none⟩) (by simp; omega) (.bool (nsg false (rs)))).set (a := ⟨w.heap.size + 1 + 1 + 1, 1, none⟩) (by simp; omega) (.slice (nad (ra) (rs)) (tlen (rs)) (tlen (rs)))
      have n2 := (((((ni_number (B := W0.heap.size) false ((hq.rrd).below hb3) (hq.ru) (hq.rf) (hq.rz.below hb3)).below hb4).set (a := ⟨w.heap.size + 1 + 1, 0, none⟩) (by simp; omega) (.bool (nsg t (qs)))).set (a := ⟨w.heap.size + 1 + 1, 1, none⟩) (by simp; omega) (.slice (nad (qa) (qs)) (tlen (qs)) (tlen (qs)))).set (a := ⟨w.heap.size + 1 + 1 + 1, 0, none⟩) (by simp; omega) (.bool (nsg false (rs)))).set (a := ⟨w.heap.size + 1 + 1 + 1, 1, none⟩) (by simp; omega) (.slice (nad (ra) (rs)) (tlen (rs)) (tlen (rs)))
      have tq := tlen_le (qs)
      have tr' := tlen_le (rs)
      have lq := hq.ql
      have lr := hq.rl
      go_wp2
      refine bodyPost_ret (v := .tuple #[.agg #[.bool (nsg t (qs)), .slice (nad (qa) (qs)) (tlen (qs)) (tlen (qs))], .agg #[.bool (nsg false (rs)), .slice (nad (ra) (rs)) (tlen (rs)) (tlen (rs))], .int .i64 0]) (by simp [results, Tryz.results101, go_sem, z0, z1, z2, z3]) rfl ?_
      refine ⟨_, _, _, tr (qs), _, _, _, tr (rs), _, _, rfl, n1.mono (by omega), n2.mono (by omega), quo_plus_f t xs ys qs rs HQ.out, ?_, ?_, by omega, by omega, ?_⟩
      · exact val_nonneg (hq.ru)
      · rw [abs_ival t hB.u]; show val (rs) < _; omega
      · exact (((hX4.below.setCell (by simp; omega) _).setCell (by simp; omega) _).setCell (by simp; omega) _).setCell (by simp; omega) _
    · have hr0 : val rs = 0 := by rcases hr with h | h; cases h; exact h
      have htr : tlen rs = 0 := (tlen_zero_iff hq.ru).2 hr0
      have HR : Hid (tlen rs = 0 ∧ val rs = 0) := ⟨htr, hr0⟩
      have hn0 : ¬ 0 < ((tlen rs : Nat) : Int) := by omega
      clear htr hr0 hr
      go_wp2_with fail
      refine (trim_any ra rn rn rs _ hq.rl (Nat.le_refl _) (by unfold maxLen; omega) hq.rrd).mono ?_
      rintro e w' ⟨rfl, rfl⟩
      go_wp2_with fail
      refine (number_any (!t) (qa) (qn) (qn) (qs) _ (hq.ql) (Nat.le_refl _) (by unfold maxLen; omega) (hq.qrd)).mono ?_
      rintro e w3 ⟨rfl, hb3⟩
      have hX3 := hX.later hb3
      clear k0 k1 k2 k3
      have k0 := hX3.ca0
      have k1 := hX3.ca1
      have k2 := hX3.cb0
      have k3 := hX3.cb1
      go_wp2_with fail
      refine (number_any false (ra) (rn) (rn) (rs) _ (hq.rl) (Nat.le_refl _) (by unfold maxLen; omega) ((hq.rrd).below hb3)).mono ?_
      rintro e w4 ⟨rfl, hb4⟩
      have hX4 := hX3.later hb4
      have z0 := hX4.cr0
      have z1 := hX4.cr1
      have z2 := hX4.cs0
      have z3 := hX4.cs1
      have z4 := hX4.fr0
      have z5 := hX4.fr1
      have z6 := hX4.fs0
      have z7 := hX4.fs1
      have n1 := ((((((ni_number (B := W0.heap.size) (!t) (hq.qrd) (hq.qu) (hq.qf) (hq.qz)).below hb3).below hb4).set (a := ⟨w.heap.size + 1 + 1, 0, none⟩) (by simp; omega) (.bool (nsg (!t) (qs)))).set (a := ⟨w.heap.size + 1 + 1, 1, none⟩) (by simp; omega) (.slice (nad (qa) (qs)) (tlen (qs)) (tlen (qs)))).set (a := ⟨w.heap.size + 1 + 1 + 1, 0, none⟩) (by simp; omega) (.bool (nsg false (rs)))).set (a := ⟨w.heap.size + 1 + 1 + 1, 1, none⟩) (by simp; omega) (.slice (nad (ra) (rs)) (tlen (rs)) (tlen (rs)))
      have n2 := (((((ni_number (B := W0.heap.size) false ((hq.rrd).below hb3) (hq.ru) (hq.rf) (hq.rz.below hb3)).below hb4).set (a := ⟨w.heap.size + 1 + 1, 0, none⟩) (by simp; omega) (.bool (nsg (!t) (qs)))).set (a := ⟨w.heap.size + 1 + 1, 1, none⟩) (by simp; omega) (.slice (nad (qa) (qs)) (tlen (qs)) (tlen (qs)))).set (a := ⟨w.heap.size + 1 + 1 + 1, 0, none⟩) (by simp; omega) (.bool (nsg false (rs)))).set (a := ⟨w.heap.size + 1 + 1 + 1, 1, none⟩) (by simp; omega) (.slice (nad (ra) (rs)) (tlen (rs)) (tlen (rs)))
      have tq := tlen_le (qs)
      have tr' := tlen_le (rs)
      have lq := hq.ql
      have lr := hq.rl
      go_wp2
      refine bodyPost_ret (v := .tuple #[.agg #[.bool (nsg (!t) (qs)), .slice (nad (qa) (qs)) (tlen (qs)) (tlen (qs))], .agg #[.bool (nsg false (rs)), .slice (nad (ra) (rs)) (tlen (rs)) (tlen (rs))], .int .i64 0]) (by simp [results, Tryz.results101, go_sem, z0, z1, z2, z3]) rfl ?_
      refine ⟨_, _, _, tr (qs), _, _, _, tr (rs), _, _, rfl, n1.mono (by omega), n2.mono (by omega), quo_plus_t t xs ys qs rs HQ.out HR.out.2, ?_, ?_, by omega, by omega, ?_⟩
      · exact val_nonneg (hq.ru)
      · rw [abs_ival t hB.u]; show val (rs) < _; omega
      · exact (((hX4.below.setCell (by simp; omega) _).setCell (by simp; omega) _).setCell (by simp; omega) _).setCell (by simp; omega) _
end Go.Proofs.YtcdfckjlmifjiaaGreat
