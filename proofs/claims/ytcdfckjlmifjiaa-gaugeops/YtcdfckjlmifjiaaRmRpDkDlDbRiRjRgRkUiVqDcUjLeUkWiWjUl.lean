/-
  ashlarref1.Mul.
-/
import Derived.Test.YtcdfckjlmifjiaaCyViDsAeVuWxUpUq
import Derived.Test.YtcdfckjlmifjiaaRrRwVaRo
import Derived.Test.YtcdfckjlmifjiaaReRxRfRhCq
import Derived.Test.YtcdfckjlmifjiaaLnWrIbWgUeUfUg
import Derived.Test.YtcdfckjlmifjiaaDpOwPnWkWlBx
import Derived.Test.YtcdfckjlmifjiaaOaWaWbWcWdWeNi
namespace Go.Proofs.Ytcdfckjlmifjiaa
open Go.RowKit
set_option linter.unusedVariables false
set_option linter.unusedSimpArgs false

theorem mul_bd16 {v x : Int} (h1 : 0 ≤ v ∧ v < 65536) (h2 : 0 ≤ x ∧ x < 65536) : 0 ≤ v * x ∧ v * x ≤ 4294836225 := by
  refine ⟨Int.mul_nonneg h1.1 h2.1, ?_⟩
  have a1 : v * x ≤ v * 65535 := Int.mul_le_mul_of_nonneg_left (by omega) h1.1
  omega
theorem mul_lt_pd {a b : List Int} {i j : Nat} (ha : U16 a) (hb : U16 b) (hi : a.length ≤ i) (hj : b.length ≤ j) : vd a * vd b < pd (i + j) := by
  have a1 := vd_lt ha
  have b1 := vd_lt hb
  have a0 := vd_nonneg ha
  have b0 := vd_nonneg hb
  have a2 := pd_mono hi
  have b2 := pd_mono hj
  rw [pd_add]
  have c1 : vd a * vd b ≤ vd a * pd j := Int.mul_le_mul_of_nonneg_left (by omega) a0
  have c2 : vd a * pd j < pd i * pd j := Int.mul_lt_mul_of_pos_right (by omega) (pd_pos j)
  omega

end Go.Proofs.Ytcdfckjlmifjiaa
/-
  ashlarref1.Mul, with values.
-/
namespace Go.Proofs.Ytcdfckjlmifjiaa
open Go.RowKit
set_option linter.unusedVariables false
set_option linter.unusedSimpArgs false

section
variable {w w' : World} {N M K : Nat} {z x y : Int} {s t : Bool} {p q : Option Addr} {n m : Nat}
end
end Go.Proofs.Ytcdfckjlmifjiaa
/-
  ashlarref1.Mul of entries (out of Vn).
-/
namespace Go.Proofs.Ytcdfckjlmifjiaa
open Go.RowKit
set_option linter.unusedVariables false
set_option linter.unusedSimpArgs false

end Go.Proofs.Ytcdfckjlmifjiaa
/-
  ashlarref3.At at an entry that is there (out of Vv).
-/
namespace Go.Proofs.Ytcdfckjlmifjiaa
open Go.RowKit
set_option linter.unusedVariables false
set_option linter.unusedSimpArgs false

end Go.Proofs.Ytcdfckjlmifjiaa
/-
  The derivative, plain; ashlarref1.Of for entries.
-/
namespace Go.Proofs.Ytcdfckjlmifjiaa
open Go.RowKit
set_option linter.unusedVariables false
set_option linter.unusedSimpArgs false

/-- The derivative's entries. -/
def derz (zs : List Int) : List Int := (List.range (zs.length - 1)).map fun (j : Nat) => ((j : Int) + 1) * gx zs (j + 1)
theorem length_derz (zs : List Int) : (derz zs).length = zs.length - 1 := by simp [derz]
theorem gx_derz (zs : List Int) (j : Nat) (h : j < zs.length - 1) : gx (derz zs) j = ((j : Int) + 1) * gx zs (j + 1) := by
  rw [gx_mem _ _ (by rw [length_derz]; exact h)]
  simp [derz]
theorem rOf_e (a : Int) (w : World) (h0 : 0 ≤ a) (h1 : a ≤ 9223372036854775807) :
    Calls Try.prog 51 #[.int .i64 a] w fun r w' => ∃ u : Ent, r = .returned (.agg #[.bool u.s, .slice u.p u.n u.c]) ∧ RE w' 4 a u ∧ Go.Proofs.Ytcdfckjlmifjiaa.From w.heap.size u.p ∧ Below w.heap.size w w' := by
  refine (rOf_any a w (by omega) h1).mono ?_
  rintro e w1 ⟨s1, p1, n1, d1, rfl, hR1, hv1, hn1, hF1, hb1⟩
  exact ⟨⟨s1, p1, n1, n1⟩, rfl, ⟨⟨d1, hR1, hv1, hn1⟩, rfl⟩, hF1, hb1⟩
end Go.Proofs.Ytcdfckjlmifjiaa
/-
  ashlarref1.add.
-/
namespace Go.Proofs.Ytcdfckjlmifjiaa
open Go.RowKit
set_option linter.unusedVariables false
set_option linter.unusedSimpArgs false

/-- What a function of the reference answers that gives digits. -/
def DAns (N : Nat) (v : Int) (w : World) (e : Ending) (w' : World) : Prop :=
  ∃ q k cap D, e = .returned (.slice q k cap) ∧ D.length = k ∧ k ≤ cap ∧ cap ≤ maxLen ∧ Rd w' q .i64 D ∧ U16 D ∧ vd D = v ∧ k ≤ N ∧ Go.Proofs.Ytcdfckjlmifjiaa.From w.heap.size q ∧ Below w.heap.size w w'

end Go.Proofs.Ytcdfckjlmifjiaa
/-
  ashlarref1.sub.
-/
namespace Go.Proofs.Ytcdfckjlmifjiaa
open Go.RowKit
set_option linter.unusedVariables false
set_option linter.unusedSimpArgs false


end Go.Proofs.Ytcdfckjlmifjiaa
/-
  ashlarref1.cmp.
-/
namespace Go.Proofs.Ytcdfckjlmifjiaa
open Go.RowKit
set_option linter.unusedVariables false
set_option linter.unusedSimpArgs false

end Go.Proofs.Ytcdfckjlmifjiaa
/-
  ashlarref1.Add.
-/
namespace Go.Proofs.Ytcdfckjlmifjiaa
open Go.RowKit
set_option linter.unusedVariables false
set_option linter.unusedSimpArgs false


end Go.Proofs.Ytcdfckjlmifjiaa
/-
  upoly.entry, combine, Add.
-/
namespace Go.Proofs.Ytcdfckjlmifjiaa
open Go.RowKit
set_option linter.unusedVariables false
set_option linter.unusedSimpArgs false

theorem EV.set2 {w : World} {K : Nat} {z : Int} {e : Ent} {g o : Nat} {u v : Value} (h : EV w K z e) (ho : 0 < e.n → Off g e.p) : EV ((w.setCell ⟨g, o, none⟩ u).setCell ⟨g, o + 1, none⟩ v) K z e := by
  obtain ⟨xs, h1, h2⟩ := h
  refine ⟨xs, ⟨h1.len, h1.cap, h1.bnd, h1.sml, fun hx => ?_, h1.u⟩, h2⟩
  have := ho (by rw [h1.len] at hx; exact hx)
  exact ((h1.rd.set_other ⟨g, o, none⟩ u this).set_other ⟨g, o + 1, none⟩ v this) hx
theorem EV.ez (w : World) (K : Nat) : EV w K 0 ez := ⟨[], ⟨rfl, Nat.le_refl _, Nat.zero_le _, Nat.zero_le _, Rd.nil, fun j => by simp [gx]⟩, rfl, Nat.zero_le _⟩
/-- Behind some rounds of combine. -/
def CoI (op : Int → Int → Int) (K g n k : Nat) (zs ys : List Int) (W0 wr : World) : Prop :=
  ∃ es, Row2 wr g 28 es ∧ es.length = n ∧ (∀ j, j < k → NV (g + 1) wr K (op (gx zs j) (gx ys j)) (ge es j)) ∧ Below g W0 wr
/-- Two polynomials, entry by entry. -/
def pz (op : Int → Int → Int) (zs ys : List Int) : List Int := (List.range (max zs.length ys.length)).map fun i => op (gx zs i) (gx ys i)
end Go.Proofs.Ytcdfckjlmifjiaa
/-
  ashlarref3.At of any index, Add.
-/
namespace Go.Proofs.Ytcdfckjlmifjiaa
open Go.RowKit
set_option linter.unusedVariables false
set_option linter.unusedSimpArgs false

theorem RE.wide {w : World} {N M : Nat} {z : Int} {e : Ent} (h : RE w N z e) (hM : N ≤ M) : RE w M z e := by
  obtain ⟨⟨ds, h1, h2, h3⟩, h4⟩ := h
  exact ⟨⟨ds, h1, h2, by omega⟩, h4⟩
theorem length_pz (op : Int → Int → Int) (zs ys : List Int) : (pz op zs ys).length = max zs.length ys.length := by simp [pz]
theorem gx_pz' (op : Int → Int → Int) (zs ys : List Int) (j : Nat) (h : j < max zs.length ys.length) : gx (pz op zs ys) j = op (gx zs j) (gx ys j) := by
  rw [gx_mem _ _ (by rw [length_pz]; exact h)]
  simp [pz]
theorem fr_snoc {B k : Nat} {es : List Ent} {u : Ent} (hl : es.length = k) (h : ∀ j, j < k → 0 < (ge es j).n → Go.Proofs.Ytcdfckjlmifjiaa.From B (ge es j).p) (hu : Go.Proofs.Ytcdfckjlmifjiaa.From B u.p) (j : Nat) (hj : j < k + 1) (h0 : 0 < (ge (es ++ [u]) j).n) : Go.Proofs.Ytcdfckjlmifjiaa.From B (ge (es ++ [u]) j).p := by
  rcases Nat.lt_or_ge j k with h1 | h1
  · rw [ge_append_left _ _ _ (by omega)] at h0 ⊢
    exact h j h1 h0
  · obtain rfl : j = es.length := by omega
    rw [ge_snoc]
    exact hu
end Go.Proofs.Ytcdfckjlmifjiaa
/-
  Plain: lists that read alike; ashlarref1.Of for entries below 0.
-/
namespace Go.Proofs.Ytcdfckjlmifjiaa
open Go.RowKit
set_option linter.unusedVariables false
set_option linter.unusedSimpArgs false

theorem tlen_same {a b : List Int} (h : ∀ j, gx a j = gx b j) : tlen a = tlen b := by
  refine tlen_eq _ _ (fun j hj => by rw [h]; exact tlen_zero b j hj) ?_
  rcases Nat.eq_zero_or_pos (tlen b) with h0 | h0
  · exact .inl h0
  · exact .inr (by rw [h]; exact tlen_top b h0)
theorem tr_same {a b : List Int} (h : ∀ j, gx a j = gx b j) : tr a = tr b := by
  refine gx_ext _ _ (by rw [length_tr, length_tr, tlen_same h]) fun j hj => ?_
  rw [gx_tr, gx_tr, h]
theorem gx_pz0 (op : Int → Int → Int) (h0 : op 0 0 = 0) (zs ys : List Int) (j : Nat) : gx (pz op zs ys) j = op (gx zs j) (gx ys j) := by
  rcases Nat.lt_or_ge j (max zs.length ys.length) with h | h
  · exact gx_pz' op zs ys j h
  · rw [gx_past _ (max zs.length ys.length) (by rw [length_pz]; exact Nat.le_refl _) j h, gx_past zs zs.length (Nat.le_refl _) j (by omega), gx_past ys ys.length (Nat.le_refl _) j (by omega), h0]
theorem pz_sub (zs ys : List Int) : tr (pz (· + ·) zs (tr (ys.map (-1 * ·)))) = tr (pz (· - ·) zs ys) := by
  refine tr_same fun j => ?_
  rw [gx_pz0 _ rfl, gx_pz0 _ rfl, gx_tr, gx_map0 (-1 * ·) rfl]
  omega
theorem rOf_n (a : Int) (w : World) (h0 : -9223372036854775808 ≤ a) (h1 : a ≤ 9223372036854775807) :
    Calls Try.prog 51 #[.int .i64 a] w fun r w' => ∃ u : Ent, r = .returned (.agg #[.bool u.s, .slice u.p u.n u.c]) ∧ RE w' 4 a u ∧ Go.Proofs.Ytcdfckjlmifjiaa.From w.heap.size u.p ∧ Below w.heap.size w w' := by
  refine (rOf_any a w h0 h1).mono ?_
  rintro e w1 ⟨s1, p1, n1, d1, rfl, hR1, hv1, hn1, hF1, hb1⟩
  exact ⟨⟨s1, p1, n1, n1⟩, rfl, ⟨⟨d1, hR1, hv1, hn1⟩, rfl⟩, hF1, hb1⟩
end Go.Proofs.Ytcdfckjlmifjiaa
/-
  upoly.Bits, isZero, weigh.
-/
namespace Go.Proofs.Ytcdfckjlmifjiaa
open Go.RowKit
set_option linter.unusedVariables false
set_option linter.unusedSimpArgs false

/-- How many bits a number has. -/
def zb (z : Int) : Nat := if z = 0 then 0 else z.natAbs.log2 + 1
theorem zb_ib (z : Int) : IB (zb z) (z.natAbs : Int) := by
  unfold zb
  split
  · rename_i h; subst h; exact ⟨by decide, by decide, .inl rfl⟩
  · rename_i h
    have h0 : z.natAbs ≠ 0 := by omega
    refine ⟨by omega, ?_, .inr ?_⟩
    · have := Nat.lt_log2_self (n := z.natAbs)
      exact_mod_cast this
    · have := Nat.log2_self_le h0
      simp only [Nat.add_sub_cancel]
      exact_mod_cast this
theorem nbits_zb {s : Bool} {xs : List Int} (hU : U32 xs) : nbits xs = (zb (ival s xs) : Int) := by
  obtain ⟨b, hb, hI⟩ := nbits_ib hU
  have e : ((ival s xs).natAbs : Int) = val xs := by
    have := val_nonneg hU
    rw [ival]
    split <;> omega
  have hz := zb_ib (ival s xs)
  rw [e] at hz
  rw [hb, hI.uniq hz]
theorem Bits_ev {w : World} {K : Nat} {z : Int} {e : Ent} (h : EV w K z e) : Calls Try.prog 37 #[.agg #[.bool e.s, .slice e.p e.n e.c]] w fun r w' => r = .returned (.int .i64 (zb z)) ∧ Below w.heap.size w w' := by
  obtain ⟨xs, h1, rfl, h3⟩ := h
  rw [← nbits_zb (s := e.s) h1.u]
  exact Bits_any e.s e.p e.n e.c xs w h1
/-- The greatest entry's bits. -/
def pb (zs : List Int) : Nat := zs.foldl (fun m z => max m (zb z)) 0
theorem pb_take (zs : List Int) (j : Nat) (h : j < zs.length) : pb (zs.take (j + 1)) = max (pb (zs.take j)) (zb (gx zs j)) := by
  rw [gx_mem zs j h, List.take_succ_eq_append_getElem h, pb, List.foldl_append]
  rfl
theorem zb_le {w : World} {K : Nat} {z : Int} {e : Ent} (h : EV w K z e) : zb z ≤ 32 * K := by
  obtain ⟨xs, h1, rfl, h3⟩ := h
  obtain ⟨q1, q2, q3⟩ := nbits_len h1.u
  rw [nbits_zb (s := e.s) h1.u] at q3
  have := tlen_le xs
  have := h1.len
  omega
set_option maxHeartbeats 2000000 in
set_option maxRecDepth 100000 in
/-- upoly.Bits. -/
theorem uBits_any {w : World} {K : Nat} {p : Option Addr} {n nc : Nat} {es : List Ent} {zs : List Int} (h : PA w K p n nc es zs) (hn : n ≤ 1000000) (hK : K ≤ 1000) :
    Calls Try.prog 43 #[.slice p n nc] w fun r w' => r = .returned (.int .i64 (pb zs)) ∧ pb zs ≤ 32 * K ∧ Below w.heap.size w w' := by
  have hel := h.el
  have hzl := h.zl
  go_enter Try.func43, Try.ntmps43
  go_wp2_with fail
  go_loopw [3, 5, 8] (fun mv cv kv wr => ∃ j : Nat, j ≤ n ∧ kv = .int .i64 j ∧ mv = .int .i64 (pb (zs.take j)) ∧ Hid (pb (zs.take j) ≤ 32 * K ∧ Below w.heap.size w wr)) (fun _ _ kv _ => n - (intOf kv).toNat)
  case atStart => exact ⟨0, Nat.zero_le _, by go_num, by simp [pb], by simp [pb], Below.refl _ _⟩
  case round =>
    obtain ⟨j, hj, rfl, rfl, H⟩ := hrel
    rcases Nat.lt_or_ge j n with hlt | hge
    · have hh := h.below H.out.2
      have hv := hh.ev j hlt
      obtain ⟨b, o, hp, hc⟩ := hh.pl (by omega)
      subst hp
      obtain ⟨c0, c1⟩ := hc j (by omega)
      have hz := zb_le hv
      have HT : Hid (pb (zs.take (j + 1)) = max (pb (zs.take j)) (zb (gx zs j))) := pb_take zs j (by omega)
      clear hc hh
      go_wp2_with fail
      have hal := bel_al (o := .cells #[.bool (ge es j).s, .slice (ge es j).p (ge es j).n (ge es j).c] 28) (Below.refl wr.heap.size wr)
      refine (Bits_ev (hv.below hal)).mono ?_
      rintro e w1 ⟨rfl, hb1⟩
      have hB := bnext' H.out.2 (bnext' hal hb1)
      have hmx : max (pb (zs.take j) : Int) (zb (gx zs j) : Int) = ((pb (zs.take (j + 1)) : Nat) : Int) := by rw [HT.out]; omega
      clear c0 c1 hv hal hb1
      go_wp2
      go_roundw
      case rel => exact ⟨j + 1, by omega, by go_num, rfl, by rw [HT.out]; have := H.out.1; omega, hB⟩
      case measure => simp [intOf]; omega
    · obtain rfl : j = n := by omega
      have HT : Hid (zs.take j = zs) := List.take_of_length_le (by omega)
      clear hge
      go_wp2
      go_ret
      obtain ⟨h1, h2⟩ := H.out
      rw [HT.out] at h1
      exact ⟨by rw [HT.out]; rfl, h1, h2⟩
/-- How many limbs a number has. -/
def zl (z : Int) : Nat := (zb z + 31) / 32
def cnt (zs : List Int) : Nat := zs.foldl (fun m z => if z = 0 then m else m + 1) 0
def sl (zs : List Int) : Nat := zs.foldl (fun m z => m + zl z) 0
theorem cnt_take (zs : List Int) (j : Nat) (h : j < zs.length) : cnt (zs.take (j + 1)) = if gx zs j = 0 then cnt (zs.take j) else cnt (zs.take j) + 1 := by
  rw [gx_mem zs j h, List.take_succ_eq_append_getElem h, cnt, List.foldl_append]
  rfl
theorem sl_take (zs : List Int) (j : Nat) (h : j < zs.length) : sl (zs.take (j + 1)) = sl (zs.take j) + zl (gx zs j) := by
  rw [gx_mem zs j h, List.take_succ_eq_append_getElem h, sl, List.foldl_append]
  rfl
theorem EN.zl {w : World} {K : Nat} {z : Int} {e : Ent} (h : EN w K z e) : e.n = zl z ∧ zl z ≤ K := by
  obtain ⟨xs, h1, rfl, h3, h4, h5⟩ := h
  obtain ⟨q1, q2, q3⟩ := nbits_len h1.u
  rw [nbits_zb (s := e.s) h1.u] at q1
  have : Go.Proofs.Ytcdfckjlmifjiaa.zl (ival e.s xs) = e.n := by unfold Go.Proofs.Ytcdfckjlmifjiaa.zl; omega
  exact ⟨this.symm, by omega⟩
end Go.Proofs.Ytcdfckjlmifjiaa
/-
  math/bits.Len off the shelf.
-/
namespace Go.Proofs.Ytcdfckjlmifjiaa
open Go.RowKit
open Go.Shelf
set_option linter.unusedVariables false
set_option linter.unusedSimpArgs false

end Go.Proofs.Ytcdfckjlmifjiaa
/-
  upoly.rowsCost, digitWidth, packedCost.
-/
namespace Go.Proofs.Ytcdfckjlmifjiaa
open Go.RowKit
set_option linter.unusedVariables false
set_option linter.unusedSimpArgs false

/-- In how many limbs each entry of a product has room. -/
def wd (zs ys : List Int) : Nat := (pb zs + pb ys + Lib.bitLen (min zs.length ys.length)) / 32 + 1
theorem bitLen_le (x : Nat) : Lib.bitLen x ≤ 64 := bitLenAux_le 64 x
end Go.Proofs.Ytcdfckjlmifjiaa
/-
  limbs.multiplyRows.
-/
namespace Go.Proofs.Ytcdfckjlmifjiaa
open Go.RowKit
set_option linter.unusedVariables false
set_option linter.unusedSimpArgs false

end Go.Proofs.Ytcdfckjlmifjiaa
/-
  limbs.multiply, product, Mul: where one of the two has fewer than 80 limbs.
-/
namespace Go.Proofs.Ytcdfckjlmifjiaa
open Go.RowKit
set_option linter.unusedVariables false
set_option linter.unusedSimpArgs false

theorem ival_mul (s t : Bool) (xs ys zs : List Int) (h : val zs = val xs * val ys) : ival (s != t) zs = ival s xs * ival t ys := by
  cases s <;> cases t <;> simp [ival, h, Int.neg_mul, Int.mul_neg]

end Go.Proofs.Ytcdfckjlmifjiaa
/-
  upoly.productByRows.
-/
namespace Go.Proofs.Ytcdfckjlmifjiaa
open Go.RowKit
set_option linter.unusedVariables false
set_option linter.unusedSimpArgs false

/-- The first rows of a product. -/
def ps (zs ys : List Int) : Nat → Nat → Int
  | 0, _ => 0
  | i + 1, t => ps zs ys i t + (if i ≤ t then gx zs i * gx ys (t - i) else 0)
/-- And the first entries of the next row. -/
def pj (zs ys : List Int) (i j t : Nat) : Int := ps zs ys i t + (if i ≤ t ∧ t < i + j then gx zs i * gx ys (t - i) else 0)
theorem pj_zero (zs ys : List Int) (i t : Nat) : pj zs ys i 0 t = ps zs ys i t := by
  rw [pj, if_neg (by omega), Int.add_zero]
theorem pj_all (zs ys : List Int) (i t : Nat) : pj zs ys i ys.length t = ps zs ys (i + 1) t := by
  rw [pj, ps]
  by_cases h : i ≤ t
  · rw [if_pos h]
    by_cases h2 : t < i + ys.length
    · rw [if_pos ⟨h, h2⟩]
    · rw [if_neg (by omega), gx_past ys ys.length (Nat.le_refl _) (t - i) (by omega), Int.mul_zero]
  · rw [if_neg (by omega), if_neg h]
theorem pj_succ_same (zs ys : List Int) (i j : Nat) : pj zs ys i (j + 1) (i + j) = pj zs ys i j (i + j) + gx zs i * gx ys j := by
  rw [pj, pj, if_pos (by omega), if_neg (by omega), Int.add_zero, Nat.add_sub_cancel_left]
theorem pj_succ_other (zs ys : List Int) (i j t : Nat) (h : t ≠ i + j) : pj zs ys i (j + 1) t = pj zs ys i j t := by
  rw [pj, pj]
  by_cases h1 : i ≤ t ∧ t < i + j
  · rw [if_pos (by omega), if_pos h1]
  · rw [if_neg (by omega), if_neg h1]
theorem ps_none (zs ys : List Int) (i t : Nat) (h : gx zs i = 0) : ps zs ys (i + 1) t = ps zs ys i t := by
  rw [ps, h]
  split <;> simp
theorem term_bd {x y : Int} {K L : Nat} (hx : (x.natAbs : Int) < pw K) (hy : (y.natAbs : Int) < pw L) : ((x * y).natAbs : Int) ≤ pw (K + L) := by
  rw [Int.natAbs_mul, pw_add]
  push_cast
  exact Int.mul_le_mul (by omega) (by omega) (by omega) (by have := pw_pos K; omega)
theorem ps_bd {zs ys : List Int} {K L : Nat} (hx : ∀ i, ((gx zs i).natAbs : Int) < pw K) (hy : ∀ i, ((gx ys i).natAbs : Int) < pw L) (i t : Nat) : ((ps zs ys i t).natAbs : Int) ≤ i * pw (K + L) := by
  induction i with
  | zero => simp [ps]
  | succ i ih =>
    rw [ps]
    have h1 := term_bd (hx i) (hy (t - i))
    have h2 := pw_pos (K + L)
    have e : ((i + 1 : Nat) : Int) * pw (K + L) = i * pw (K + L) + pw (K + L) := by push_cast; rw [Int.add_mul, Int.one_mul]
    rw [e]
    split <;> omega
theorem pj_bd {zs ys : List Int} {K L : Nat} (hx : ∀ i, ((gx zs i).natAbs : Int) < pw K) (hy : ∀ i, ((gx ys i).natAbs : Int) < pw L) (i j t : Nat) (hi : i ≤ 1000000) : ((pj zs ys i j t).natAbs : Int) < pw (K + L + 1) := by
  have h1 := ps_bd hx hy i t
  have h2 := term_bd (hx i) (hy (t - i))
  have h3 := pw_pos (K + L)
  have e : pw (K + L + 1) = 4294967296 * pw (K + L) := pw_succ _
  have h4 : (i : Int) * pw (K + L) ≤ 1000000 * pw (K + L) := Int.mul_le_mul_of_nonneg_right (by omega) (by omega)
  rw [pj, e]
  split <;> omega
theorem PA.gbd {w : World} {K : Nat} {p : Option Addr} {n nc : Nat} {es : List Ent} {zs : List Int} (h : PA w K p n nc es zs) : ∀ i, ((gx zs i).natAbs : Int) < pw K := fun i => by
  rcases Nat.lt_or_ge i n with hlt | hge
  · obtain ⟨xs, h1, h2, h3⟩ := h.ev i hlt
    have h4 := h1.lt (ge es i).s
    rw [h2] at h4
    have := pw_mono h3
    omega
  · rw [gx_past zs n (by rw [h.zl]; exact Nat.le_refl _) i hge]
    exact pw_pos K
/-- Behind some rows of a product. -/
def PrI (F : Nat → Int) (M g N : Nat) (W0 wr : World) : Prop :=
  ∃ es, Row2 wr g 28 es ∧ es.length = N ∧ (∀ t, t < N → NV (g + 1) wr M (F t) (ge es t)) ∧ Below g W0 wr
theorem NV.le {B : Nat} {w : World} {K M : Nat} {z : Int} {e : Ent} (h : NV B w K z e) (hz : (z.natAbs : Int) < pw M) : NV B w M z e := by
  obtain ⟨xs, h1, h2, h3⟩ := h
  exact ⟨xs, h1, h2, h1.le hz⟩
theorem Bx_any {w : World} {r g o : Nat} {a0 a1 u v : Value} (h : Bx w r a0 a1) (hne : r ≠ g) : Bx ((w.setCell ⟨g, o, none⟩ u).setCell ⟨g, o + 1, none⟩ v) r a0 a1 := by
  have e : ((w.setCell ⟨g, o, none⟩ u).setCell ⟨g, o + 1, none⟩ v).heap[r]? = w.heap[r]? := (heap_setCell_other _ _ r v hne).trans (heap_setCell_other _ _ r u hne)
  exact ⟨(World.cell?_of_block (a := ⟨r, 0, none⟩) e).trans h.c0, (World.cell?_of_block (a := ⟨r, 1, none⟩) e).trans h.c1, (World.frozen?_of_block (a := ⟨r, 0, none⟩) e).trans h.f0, (World.frozen?_of_block (a := ⟨r, 1, none⟩) e).trans h.f1⟩
/-- One entry of a row. -/
theorem rows_step {w W0 W2 v2 v3 : World} {M M' K N ga i j t : Nat} {zs ys : List Int} {us : List Ent} {e2 ea : Ent} {x : Int} (hR1 : Row2 W2 w.heap.size 28 us) (hul : us.length = N) (hev : ∀ t, t < N → NV (w.heap.size + 1) W2 M (pj zs ys i j t) (ge us t)) (hB1 : Below w.heap.size W0 W2)
    (hXa : Bx W2 ga (.bool ea.s) (.slice ea.p ea.n ea.c)) (hva : EV W2 K x ea) (hBw : Below w.heap.size w W2) (hga : w.heap.size < ga) (hoff : 0 < ea.n → Off w.heap.size ea.p) (hpb : ((pj zs ys i (j + 1) t).natAbs : Int) < pw M) (ht : t = i + j) (htN : t < N) (hsW : w.heap.size ≤ W0.heap.size) (hs0 : w.heap.size + 1 ≤ W0.heap.size)
    (hV2 : Below W2.heap.size W2 v2) (hb3 : Below v2.heap.size v2 v3) (hN2 : NV v2.heap.size v3 M' (pj zs ys i j t + gx zs i * gx ys j) e2) :
    PrI (pj zs ys i (j + 1)) M w.heap.size N W0 ((v3.setCell ⟨w.heap.size, t * 2, none⟩ (.bool e2.s)).setCell ⟨w.heap.size, t * 2 + 1, none⟩ (.slice e2.p e2.n e2.c)) ∧ Bx ((v3.setCell ⟨w.heap.size, t * 2, none⟩ (.bool e2.s)).setCell ⟨w.heap.size, t * 2 + 1, none⟩ (.slice e2.p e2.n e2.c)) ga (.bool ea.s) (.slice ea.p ea.n ea.c) ∧ EV ((v3.setCell ⟨w.heap.size, t * 2, none⟩ (.bool e2.s)).setCell ⟨w.heap.size, t * 2 + 1, none⟩ (.slice e2.p e2.n e2.c)) K x ea ∧ Below w.heap.size w ((v3.setCell ⟨w.heap.size, t * 2, none⟩ (.bool e2.s)).setCell ⟨w.heap.size, t * 2 + 1, none⟩ (.slice e2.p e2.n e2.c)) := by
  have hb := bnext' hV2 hb3
  have hR3 := hR1.below hb hR1.lt
  have hs1 := hB1.size
  have hs2 := hV2.size
  have hval : pj zs ys i j t + gx zs i * gx ys j = pj zs ys i (j + 1) t := by subst ht; exact (pj_succ_same zs ys i j).symm
  rw [hval] at hN2
  refine ⟨⟨us.set t e2, hR3.set t e2 (by omega), by simpa using hul, fun t' ht' => ?_, ?_⟩, Bx_any (hXa.later hb) (by omega), (hva.below hb).set2 hoff, ?_⟩
  · by_cases he : t' = t
    · subst he
      rw [ge_set_same _ _ _ (by omega)]
      exact ((hN2.le hpb).mono (by omega)).set2 (by omega) _ _
    · rw [ge_set_other _ _ _ _ he, pj_succ_other _ _ _ _ _ (by omega)]
      exact ((hev t' ht').below hb).set2 (by omega) _ _
  · exact ((hB1.trans (hb.mono (by omega))).setCell (p := ⟨w.heap.size, t * 2, none⟩) (Nat.le_refl _) _).setCell (p := ⟨w.heap.size, t * 2 + 1, none⟩) (Nat.le_refl _) _
  · exact ((hBw.trans (hb.mono hBw.size)).setCell (p := ⟨w.heap.size, t * 2, none⟩) (Nat.le_refl _) _).setCell (p := ⟨w.heap.size, t * 2 + 1, none⟩) (Nat.le_refl _) _
end Go.Proofs.Ytcdfckjlmifjiaa
