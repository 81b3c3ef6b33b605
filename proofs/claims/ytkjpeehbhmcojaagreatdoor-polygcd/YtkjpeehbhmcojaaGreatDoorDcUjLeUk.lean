/-
  Plain: lists that read alike; ashlarref1.Of for entries below 0.
-/
import Derived.Test.YtkjpeehbhmcojaaGreatDoorRkUiVq
import Derived.Test.YtkjpeehbhmcojaaGreatDoorUeUfUg
import Derived.Test.YtkjpeehbhmcojaaGreatDoorRdLnWrIbWg
namespace Go.Proofs.YtkjpeehbhmcojaaGreatDoor
open Go.RowKit
set_option linter.unusedVariables false
set_option linter.unusedSimpArgs false
set_option maxHeartbeats 8000000
theorem tlen_same {a b : List Int} (h : ∀ j, gx a j = gx b j) : tlen a = tlen b := by
  refine tlen_eq _ _ (fun j hj => by rw [h]; exact tlen_zero b j hj) ?_
  rcases Nat.eq_zero_or_pos (tlen b) with h0 | h0
  · exact .inl h0
  · exact .inr (by rw [h]; exact tlen_top b h0)
theorem tr_same {a b : List Int} (h : ∀ j, gx a j = gx b j) : tr a = tr b := by
  refine gx_ext _ _ (by rw [length_tr, length_tr, tlen_same h]) fun j hj => ?_
  rw [gx_tr, gx_tr, h]
theorem gx_pz0 (op : Int → Int → Int) (h0 : op 0 0 = 0) (zs ys : List Int) (j : Nat) : gx (pz op zs ys) j = op (gx zs j) (gx ys j) := by
  rcases Nat.lt_or_ge j (max zs.length ys.length) with h | h
  · exact gx_pz' op zs ys j h
  · rw [gx_past _ (max zs.length ys.length) (by rw [length_pz]; exact Nat.le_refl _) j h, gx_past zs zs.length (Nat.le_refl _) j (by omega), gx_past ys ys.length (Nat.le_refl _) j (by omega), h0]
theorem pz_sub (zs ys : List Int) : tr (pz (· + ·) zs (tr (ys.map (-1 * ·)))) = tr (pz (· - ·) zs ys) := by
  refine tr_same fun j => ?_
  rw [gx_pz0 _ rfl, gx_pz0 _ rfl, gx_tr, gx_map0 (-1 * ·) rfl]
  omega
theorem rOf_n (a : Int) (w : World) (h0 : -9223372036854775808 ≤ a) (h1 : a ≤ 9223372036854775807) :
    Calls Tryz.prog 72 #[.int .i64 a] w fun r w' => ∃ u : Ent, r = .returned (.agg #[.bool u.s, .slice u.p u.n u.c]) ∧ RE w' 4 a u ∧ Go.Proofs.YtkjpeehbhmcojaaGreatDoor.From w.heap.size u.p ∧ Below w.heap.size w w' := by
  refine (rOf_any a w h0 h1).mono ?_
  rintro e w1 ⟨s1, p1, n1, d1, rfl, hR1, hv1, hn1, hF1, hb1⟩
  exact ⟨⟨s1, p1, n1, n1⟩, rfl, ⟨⟨d1, hR1, hv1, hn1⟩, rfl⟩, hF1, hb1⟩
def zb (z : Int) : Nat := if z = 0 then 0 else z.natAbs.log2 + 1
theorem zb_ib (z : Int) : IB (zb z) (z.natAbs : Int) := by
  unfold zb
  split
  · rename_i h; subst h; exact ⟨by decide, by decide, .inl rfl⟩
  · rename_i h
    have h0 : z.natAbs ≠ 0 := by omega
    refine ⟨by omega, ?_, .inr ?_⟩
    · have := Nat.lt_log2_self (n := z.natAbs)
      exact_mod_cast this
    · have := Nat.log2_self_le h0
      simp only [Nat.add_sub_cancel]
      exact_mod_cast this
theorem nbits_zb {s : Bool} {xs : List Int} (hU : U32 xs) : nbits xs = (zb (ival s xs) : Int) := by
  obtain ⟨b, hb, hI⟩ := nbits_ib hU
  have e : ((ival s xs).natAbs : Int) = val xs := by
    have := val_nonneg hU
    rw [ival]
    split <;> omega
  have hz := zb_ib (ival s xs)
  rw [e] at hz
  rw [hb, hI.uniq hz]
theorem Bits_ev {w : World} {K : Nat} {z : Int} {e : Ent} (h : EV w K z e) : Calls Tryz.prog 65 #[.agg #[.bool e.s, .slice e.p e.n e.c]] w fun r w' => r = .returned (.int .i64 (zb z)) ∧ Below w.heap.size w w' := by
  obtain ⟨xs, h1, rfl, h3⟩ := h
  rw [← nbits_zb (s := e.s) h1.u]
  exact Bits_any e.s e.p e.n e.c xs w h1
def pb (zs : List Int) : Nat := zs.foldl (fun m z => max m (zb z)) 0
theorem pb_take (zs : List Int) (j : Nat) (h : j < zs.length) : pb (zs.take (j + 1)) = max (pb (zs.take j)) (zb (gx zs j)) := by
  rw [gx_mem zs j h, List.take_succ_eq_append_getElem h, pb, List.foldl_append]
  rfl
theorem zb_le {w : World} {K : Nat} {z : Int} {e : Ent} (h : EV w K z e) : zb z ≤ 32 * K := by
  obtain ⟨xs, h1, rfl, h3⟩ := h
  obtain ⟨q1, q2, q3⟩ := nbits_len h1.u
  rw [nbits_zb (s := e.s) h1.u] at q3
  have := tlen_le xs
  have := h1.len
  omega
set_option maxRecDepth 100000 in
theorem isZero_any {w : World} {K : Nat} {z : Int} {e : Ent} (h : EV w K z e) : Calls Tryz.prog 64 #[.agg #[.bool e.s, .slice e.p e.n e.c]] w fun r w' => r = .returned (.bool (decide (z = 0))) ∧ Below w.heap.size w w' := by
  have hd : Hid ((isgn z == 0) = decide (z = 0)) := by
    show (isgn z == 0) = decide (z = 0)
    unfold isgn
    split
    · rename_i h; rw [decide_eq_true h]; rfl
    · rename_i h; rw [decide_eq_false h]; split <;> rfl
  go_enter Tryz.func64, Tryz.ntmps64
  go_wp2_with fail
  have hW : Below w.heap.size w (w.alloc (.cells #[.bool e.s, .slice e.p e.n e.c] 47)) := (Below.refl _ _).alloc (Nat.le_refl _) _
  generalize w.alloc (.cells #[.bool e.s, .slice e.p e.n e.c] 47) = W at *
  refine (Sign_ev (h.below hW)).mono ?_
  rintro r w1 ⟨rfl, hb1⟩
  go_wp2
  go_ret
  exact ⟨by rw [hd.out]; rfl, bnext' hW hb1⟩
set_option maxRecDepth 100000 in
theorem uBits_any {w : World} {K : Nat} {p : Option Addr} {n nc : Nat} {es : List Ent} {zs : List Int} (h : PA w K p n nc es zs) (hn : n ≤ 1000000) (hK : K ≤ 1000) :
    Calls Tryz.prog 107 #[.slice p n nc] w fun r w' => r = .returned (.int .i64 (pb zs)) ∧ pb zs ≤ 32 * K ∧ Below w.heap.size w w' := by
  have hel := h.el
  have hzl := h.zl
  go_enter Tryz.func107, Tryz.ntmps107
  go_wp2_with fail
  go_loopw [3, 5, 8] (fun mv cv kv wr => ∃ j : Nat, j ≤ n ∧ kv = .int .i64 j ∧ mv = .int .i64 (pb (zs.take j)) ∧ Hid (pb (zs.take j) ≤ 32 * K ∧ Below w.heap.size w wr)) (fun _ _ kv _ => n - (intOf kv).toNat)
  case atStart => exact ⟨0, Nat.zero_le _, by go_num, by simp [pb], by simp [pb], Below.refl _ _⟩
  case round =>
    obtain ⟨j, hj, rfl, rfl, H⟩ := hrel
    rcases Nat.lt_or_ge j n with hlt | hge
    · have hh := h.below H.out.2
      have hv := hh.ev j hlt
      obtain ⟨b, o, hp, hc⟩ := hh.pl (by omega)
      subst hp
      obtain ⟨c0, c1⟩ := hc j (by omega)
      have hz := zb_le hv
      have HT : Hid (pb (zs.take (j + 1)) = max (pb (zs.take j)) (zb (gx zs j))) := pb_take zs j (by omega)
      clear hc hh
      go_wp2_with fail
      have hal := bel_al (o := .cells #[.bool (ge es j).s, .slice (ge es j).p (ge es j).n (ge es j).c] 47) (Below.refl wr.heap.size wr)
      refine (Bits_ev (hv.below hal)).mono ?_
      rintro e w1 ⟨rfl, hb1⟩
      have hB := bnext' H.out.2 (bnext' hal hb1)
      have hmx : max (pb (zs.take j) : Int) (zb (gx zs j) : Int) = ((pb (zs.take (j + 1)) : Nat) : Int) := by rw [HT.out]; omega
      clear c0 c1 hv hal hb1
      go_wp2
      go_roundw
      case rel => exact ⟨j + 1, by omega, by go_num, rfl, by rw [HT.out]; have := H.out.1; omega, hB⟩
      case measure => simp [intOf]; omega
    · obtain rfl : j = n := by omega
      have HT : Hid (zs.take j = zs) := List.take_of_length_le (by omega)
      clear hge
      go_wp2
      go_ret
      obtain ⟨h1, h2⟩ := H.out
      rw [HT.out] at h1
      exact ⟨by rw [HT.out]; rfl, h1, h2⟩
def zl (z : Int) : Nat := (zb z + 31) / 32
def cnt (zs : List Int) : Nat := zs.foldl (fun m z => if z = 0 then m else m + 1) 0
def sl (zs : List Int) : Nat := zs.foldl (fun m z => m + zl z) 0
theorem cnt_take (zs : List Int) (j : Nat) (h : j < zs.length) : cnt (zs.take (j + 1)) = if gx zs j = 0 then cnt (zs.take j) else cnt (zs.take j) + 1 := by
  rw [gx_mem zs j h, List.take_succ_eq_append_getElem h, cnt, List.foldl_append]
  rfl
theorem sl_take (zs : List Int) (j : Nat) (h : j < zs.length) : sl (zs.take (j + 1)) = sl (zs.take j) + zl (gx zs j) := by
  rw [gx_mem zs j h, List.take_succ_eq_append_getElem h, sl, List.foldl_append]
  rfl
theorem EN.zl {w : World} {K : Nat} {z : Int} {e : Ent} (h : EN w K z e) : e.n = zl z ∧ zl z ≤ K := by
  obtain ⟨xs, h1, rfl, h3, h4, h5⟩ := h
  obtain ⟨q1, q2, q3⟩ := nbits_len h1.u
  rw [nbits_zb (s := e.s) h1.u] at q1
  have : Go.Proofs.YtkjpeehbhmcojaaGreatDoor.zl (ival e.s xs) = e.n := by unfold Go.Proofs.YtkjpeehbhmcojaaGreatDoor.zl; omega
  exact ⟨this.symm, by omega⟩
set_option maxRecDepth 100000 in
theorem weigh_any {B : Nat} {w : World} {K : Nat} {p : Option Addr} {n : Nat} {es : List Ent} {zs : List Int} (h : PB B w K p n es zs) (hn : n ≤ 1000000) (hK : K ≤ 1000) :
    Calls Tryz.prog 129 #[.slice p n n] w fun r w' => r = .returned (.tuple #[.int .i64 (cnt zs), .int .i64 (sl zs)]) ∧ cnt zs ≤ n ∧ sl zs ≤ n * K ∧ Below w.heap.size w w' := by
  have hel := h.el
  have hzl := h.zl
  go_enter Tryz.func129, Tryz.ntmps129
  go_wp2_with fail
  go_loopw [4, 5, 7, 10] (fun nv sv cv kv wr => ∃ j : Nat, j ≤ n ∧ kv = .int .i64 j ∧ nv = .int .i64 (cnt (zs.take j)) ∧ sv = .int .i64 (sl (zs.take j)) ∧ Hid (cnt (zs.take j) ≤ j ∧ sl (zs.take j) ≤ j * K ∧ Below w.heap.size w wr)) (fun _ _ _ kv _ => n - (intOf kv).toNat)
  case atStart => exact ⟨0, Nat.zero_le _, by go_num, by simp [cnt], by simp [sl], by simp [cnt], by simp [sl], Below.refl _ _⟩
  case round =>
    obtain ⟨j, hj, rfl, rfl, rfl, H⟩ := hrel
    rcases Nat.lt_or_ge j n with hlt | hge
    · have hh := h.below H.out.2.2
      have hv := hh.ev j hlt
      obtain ⟨b, o, hp, hc⟩ := hh.pl (by omega)
      subst hp
      obtain ⟨c0, c1⟩ := hc j (by omega)
      obtain ⟨z1, z2⟩ := hv.zl
      have HT : Hid (cnt (zs.take (j + 1)) = (if gx zs j = 0 then cnt (zs.take j) else cnt (zs.take j) + 1)) := cnt_take zs j (by omega)
      have HS : Hid (sl (zs.take (j + 1)) = sl (zs.take j) + zl (gx zs j)) := sl_take zs j (by omega)
      have hjK : Hid (sl (zs.take j) + zl (gx zs j) ≤ (j + 1) * K) := by
        show _ ≤ _
        have := H.out.2.1
        rw [Nat.add_mul]
        omega
      have hle1 : cnt (zs.take j) ≤ 1000000 := by have := H.out.1; omega
      have hle2 : sl (zs.take j) ≤ 1000000000 := by
        have h1 := H.out.2.1
        have h2 : j * K ≤ 1000000 * 1000 := Nat.mul_le_mul (by omega) hK
        omega
      rw [z1] at c1
      have hvn : EV wr K (gx zs j) (ge es j) := hv.ev
      have v1 : IntKind.i64.wrap ((sl (zs.take j) : Int) + (zl (gx zs j) : Int)) = ((sl (zs.take (j + 1)) : Nat) : Int) := by rw [IntKind.wrap_i64, HS.out]; omega
      have v2 : IntKind.i64.wrap ((cnt (zs.take j) : Int) + 1) = (cnt (zs.take j) : Int) + 1 := by rw [IntKind.wrap_i64]; omega
      clear hc hh hv
      have HB0 : Hid (Below w.heap.size w wr) := H.out.2.2
      have HC : Hid (cnt (zs.take j) ≤ j) := H.out.1
      go_wp2_with fail
      have hal := bel_al (o := .cells #[.bool (ge es j).s, .slice (ge es j).p (zl (gx zs j)) (ge es j).c] 47) (Below.refl wr.heap.size wr)
      have hz0 := isZero_any (hvn.below hal)
      rw [z1] at hz0
      refine hz0.mono ?_
      rintro e w1 ⟨rfl, hb1⟩
      have hB := bnext' HB0.out (bnext' hal hb1)
      have hcs : Hid (gx zs j = 0 ∨ ¬ gx zs j = 0) := Classical.em _
      clear hz0 c0 c1 hvn hal hb1 H
      rcases hcs.out with hz | hz
      · rw [decide_eq_true hz]
        have HE : Hid (cnt (zs.take (j + 1)) = cnt (zs.take j)) := by show _ = _; rw [HT.out, if_pos hz]
        clear hz hcs
        go_wp2
        go_roundw
        case rel => exact ⟨j + 1, by omega, by go_num, by rw [HE.out], rfl, by rw [HE.out]; have := HC.out; omega, by rw [HS.out]; exact hjK.out, hB⟩
        case measure => simp [intOf]; omega
      · rw [decide_eq_false hz]
        have HE : Hid (cnt (zs.take (j + 1)) = cnt (zs.take j) + 1) := by show _ = _; rw [HT.out, if_neg hz]
        clear hz hcs
        go_wp2
        go_roundw
        case rel => exact ⟨j + 1, by omega, by go_num, by rw [HE.out]; rfl, rfl, by rw [HE.out]; have := HC.out; omega, by rw [HS.out]; exact hjK.out, hB⟩
        case measure => simp [intOf]; omega
    · obtain rfl : j = n := by omega
      have HT : Hid (zs.take j = zs) := List.take_of_length_le (by omega)
      clear hge
      go_wp2
      go_ret2
      obtain ⟨h1, h2, h3⟩ := H.out
      rw [HT.out] at h1 h2
      exact ⟨by rw [HT.out]; rfl, h1, h2, h3⟩
open Go.Shelf
def renLen : Go.Shelf.Ren := ⟨fun | 125 => 108 | 128 => 110 | 129 => 136 | n => n, fun | 3 => 3 | 4 => 4 | 5 => 5 | 9 => 9 | 46 => 118 | 51 => 78 | 53 => 94 | n => n, fun n => n⟩
theorem laysLen : Lays.n125 Tryz.prog renLen :=
  { mixed := by kernel_rfl
    f125 := by kernel_rfl
    f128 := by kernel_rfl
    f129 := by kernel_rfl
    t3 := by kernel_rfl
    a3 := fun _ => by kernel_rfl
    z3 := fun _ => by kernel_rfl
    v3 := fun _ => by kernel_rfl
    t4 := by kernel_rfl
    a4 := fun _ => by kernel_rfl
    z4 := fun _ => by kernel_rfl
    v4 := fun _ => by kernel_rfl
    t5 := by kernel_rfl
    a5 := fun _ => by kernel_rfl
    z5 := fun _ => by kernel_rfl
    v5 := fun _ => by kernel_rfl
    t9 := by kernel_rfl
    a9 := fun _ => by kernel_rfl
    z9 := fun _ => by kernel_rfl
    v9 := fun _ => by kernel_rfl
    t46 := by kernel_rfl
    a46 := fun _ => by kernel_rfl
    z46 := fun _ => by kernel_rfl
    v46 := fun _ => by kernel_rfl
    t51 := by kernel_rfl
    a51 := fun _ => by kernel_rfl
    z51 := fun _ => by kernel_rfl
    v51 := fun _ => by kernel_rfl
    t53 := by kernel_rfl
    a53 := fun _ => by kernel_rfl
    z53 := fun _ => by kernel_rfl
    v53 := fun _ => by kernel_rfl }
theorem Len_any (x : Int) (w : World) (h0 : 0 ≤ x) (h1 : x ≤ 18446744073709551615) :
    Calls Tryz.prog 108 #[.int .u64 x] w fun e w' => e = .returned (.int .i64 (Lib.bitLen x.toNat)) ∧ w' = w := Any.bits_Len laysLen x w h0 h1
set_option maxRecDepth 100000 in
theorem rowsCost_any {B C : Nat} {w : World} {K L : Nat} {p q : Option Addr} {n m : Nat} {es fs : List Ent} {zs ys : List Int} (h : PB B w K p n es zs) (k : PB C w L q m fs ys) (hn : n ≤ 1000000) (hm : m ≤ 1000000) (hK : K ≤ 1000) (hL : L ≤ 1000) :
    Calls Tryz.prog 98 #[.slice p n n, .slice q m m] w fun r w' => r = .returned (.int .i64 ((sl zs * sl ys + 80 * cnt zs * cnt ys : Nat) : Int)) ∧ Below w.heap.size w w' := by
  go_enter Tryz.func98, Tryz.ntmps98
  go_wp2_with fail
  refine (weigh_any h hn hK).mono ?_
  rintro e w1 ⟨rfl, c1, s1, hb1⟩
  go_wp2_with fail
  refine (weigh_any (k.below hb1) hm hL).mono ?_
  rintro e w2 ⟨rfl, c2, s2, hb2⟩
  have a1 : n * K ≤ 1000000 * 1000 := Nat.mul_le_mul hn hK
  have a2 : m * L ≤ 1000000 * 1000 := Nat.mul_le_mul hm hL
  have a3 : sl zs * sl ys ≤ 1000000000 * 1000000000 := Nat.mul_le_mul (by omega) (by omega)
  have a4 : cnt zs * cnt ys ≤ 1000000 * 1000000 := Nat.mul_le_mul (by omega) (by omega)
  have e1 : 80 * cnt zs * cnt ys = 80 * (cnt zs * cnt ys) := Nat.mul_assoc _ _ _
  have v1 : IntKind.i64.wrap ((sl zs : Int) * (sl ys : Int)) = ((sl zs * sl ys : Nat) : Int) := by rw [IntKind.wrap_i64]; push_cast; rw [← Int.natCast_mul]; omega
  have v2 : IntKind.i64.wrap (80 * (cnt zs : Int)) = 80 * (cnt zs : Int) := by rw [IntKind.wrap_i64]; omega
  have v3 : IntKind.i64.wrap (80 * (cnt zs : Int) * (cnt ys : Int)) = ((80 * cnt zs * cnt ys : Nat) : Int) := by rw [IntKind.wrap_i64]; push_cast; rw [Int.mul_assoc, ← Int.natCast_mul]; omega
  have v4 : IntKind.i64.wrap (((sl zs * sl ys : Nat) : Int) + ((80 * cnt zs * cnt ys : Nat) : Int)) = ((sl zs * sl ys + 80 * cnt zs * cnt ys : Nat) : Int) := by rw [IntKind.wrap_i64]; omega
  have HF : Hid (((sl zs * sl ys + 80 * cnt zs * cnt ys : Nat) : Int) = (sl zs : Int) * (sl ys : Int) + 80 * ((cnt zs : Int) * (cnt ys : Int))) := by
    show _ = _
    push_cast
    rw [Int.mul_assoc]
  go_wp2
  go_ret
  exact ⟨by rw [HF.out]; rfl, bnext' hb1 hb2⟩
def wd (zs ys : List Int) : Nat := (pb zs + pb ys + Lib.bitLen (min zs.length ys.length)) / 32 + 1
theorem bitLen_le (x : Nat) : Lib.bitLen x ≤ 64 := bitLenAux_le 64 x
set_option maxRecDepth 100000 in
theorem digitWidth_any {w : World} {K L : Nat} {p q : Option Addr} {n nc m mc : Nat} {es fs : List Ent} {zs ys : List Int} (h : PA w K p n nc es zs) (k : PA w L q m mc fs ys) (hn : n ≤ 1000000) (hm : m ≤ 1000000) (hK : K ≤ 1000) (hL : L ≤ 1000) :
    Calls Tryz.prog 97 #[.slice p n nc, .slice q m mc] w fun r w' => r = .returned (.int .i64 (wd zs ys)) ∧ Below w.heap.size w w' := by
  have HW : Hid (wd zs ys = (pb zs + pb ys + Lib.bitLen (min n m)) / 32 + 1) := by show _ = _; rw [wd, h.zl, k.zl]
  obtain ⟨M, hM1, hM2⟩ : ∃ M : Nat, min (n : Int) (m : Int) = (M : Int) ∧ M = min n m := ⟨min n m, by omega, rfl⟩
  have HM : Hid (M = min n m) := hM2
  have hM3 : M ≤ 1000000 := by omega
  have vM : IntKind.u64.wrap (M : Int) = (M : Int) := by rw [IntKind.wrap_u64]; omega
  have hbl := bitLen_le M
  clear hM2
  go_enter Tryz.func97, Tryz.ntmps97
  go_wp2_with fail
  refine (uBits_any h hn hK).mono ?_
  rintro e w1 ⟨rfl, l1, hb1⟩
  go_wp2_with fail
  refine (uBits_any (k.below hb1) hm hL).mono ?_
  rintro e w2 ⟨rfl, l2, hb2⟩
  have v1 : IntKind.i64.wrap ((pb zs : Int) + (pb ys : Int)) = (pb zs : Int) + (pb ys : Int) := by rw [IntKind.wrap_i64]; omega
  go_wp2_with fail
  have hle := Len_any (M : Int) w2 (by omega) (by omega)
  rw [Int.toNat_natCast] at hle
  refine hle.mono ?_
  rintro e w3 ⟨rfl, rfl⟩
  clear hle
  have HW2 : Hid (wd zs ys = (pb zs + pb ys + Lib.bitLen M) / 32 + 1) := by show _ = _; rw [HW.out, HM.out]
  clear HW
  generalize Lib.bitLen M = bl at *
  have v2 : IntKind.i64.wrap ((pb zs : Int) + (pb ys : Int) + (bl : Int)) = (pb zs : Int) + (pb ys : Int) + (bl : Int) := by rw [IntKind.wrap_i64]; omega
  have v3 : ((pb zs : Int) + (pb ys : Int) + (bl : Int)).tdiv 32 = (((pb zs + pb ys + bl) / 32 : Nat) : Int) := by rw [Int.tdiv_eq_ediv_of_nonneg (by omega)]; omega
  have v4 : IntKind.i64.wrap (((pb zs + pb ys + bl) / 32 : Nat) : Int) = (((pb zs + pb ys + bl) / 32 : Nat) : Int) := by rw [IntKind.wrap_i64]; omega
  have v5 : IntKind.i64.wrap ((((pb zs + pb ys + bl) / 32 : Nat) : Int) + 1) = (((pb zs + pb ys + bl) / 32 : Nat) : Int) + 1 := by rw [IntKind.wrap_i64]; omega
  go_wp2
  go_ret
  exact ⟨by rw [HW2.out, Int.natCast_add]; rfl, bnext' hb1 hb2⟩
set_option maxRecDepth 100000 in
theorem packedCost_small (m n d : Nat) (w : World) (hm : m ≤ 80) (hn : n ≤ 80) (hd : d ≤ 80) (hd1 : 1 ≤ d) (hk : d * min m n ≤ 80) :
    Calls Tryz.prog 99 #[.int .i64 m, .int .i64 n, .int .i64 d] w fun r w' => r = .returned (.int .i64 ((d * m * d * n + 160 * (m + n) : Nat) : Int)) ∧ Below w.heap.size w w' := by
  obtain ⟨A, hA1, hA2⟩ : ∃ A : Nat, max (m : Int) (n : Int) = (A : Int) ∧ A ≤ 80 := ⟨max m n, by omega, by omega⟩
  obtain ⟨M, hM1, hM2⟩ : ∃ M : Nat, min (m : Int) (n : Int) = (M : Int) ∧ M = min m n := ⟨min m n, by omega, rfl⟩
  rw [← hM2] at hk
  clear hM2
  have q1 : (2147483647 : Int).tdiv (d : Int) = 2147483647 / (d : Int) := Int.tdiv_eq_ediv_of_nonneg (by decide)
  have q2 : 80 < 2147483647 / (d : Int) := by
    have : (26843545 : Int) ≤ 2147483647 / (d : Int) := Int.le_ediv_of_mul_le (by omega) (by omega)
    omega
  have q3 : 2147483647 / (d : Int) ≤ 2147483647 := Int.ediv_le_self _ (by decide)
  have hd0 : ¬ (d : Int) = 0 := by omega
  have hd0' : ((d : Int) == 0) = false := by rw [beq_eq_false_iff_ne]; omega
  generalize hQ : 2147483647 / (d : Int) = Q at *
  have hc : ¬ Q < (A : Int) := by omega
  have m1 : d * m ≤ 80 * 80 := Nat.mul_le_mul hd hm
  have m2 : d * m * d ≤ 6400 * 80 := Nat.mul_le_mul m1 hd
  have m3 : d * m * d * n ≤ 512000 * 80 := Nat.mul_le_mul m2 hn
  have e1 : (d : Int) * (m : Int) = ((d * m : Nat) : Int) := by push_cast; rfl
  have e2 : ((d * m : Nat) : Int) * (d : Int) = ((d * m * d : Nat) : Int) := by push_cast; rfl
  have e3 : ((d * m * d : Nat) : Int) * (n : Int) = ((d * m * d * n : Nat) : Int) := by push_cast; rfl
  have e4 : (d : Int) * (M : Int) = ((d * M : Nat) : Int) := by push_cast; rfl
  have w1 : IntKind.i64.wrap ((d * m : Nat) : Int) = ((d * m : Nat) : Int) := by rw [IntKind.wrap_i64]; omega
  have w2 : IntKind.i64.wrap ((d * m * d : Nat) : Int) = ((d * m * d : Nat) : Int) := by rw [IntKind.wrap_i64]; omega
  have w3 : IntKind.i64.wrap ((d * m * d * n : Nat) : Int) = ((d * m * d * n : Nat) : Int) := by rw [IntKind.wrap_i64]; omega
  have w4 : IntKind.i64.wrap ((d * M : Nat) : Int) = ((d * M : Nat) : Int) := by rw [IntKind.wrap_i64]; omega
  have w5 : IntKind.i64.wrap Q = Q := by rw [IntKind.wrap_i64]; omega
  have hk' : ¬ (80 : Int) < ((d * M : Nat) : Int) := by omega
  generalize d * m * d * n = X at *
  generalize d * m * d = X2 at *
  generalize d * m = X1 at *
  generalize d * M = X4 at *
  go_enter Tryz.func99, Tryz.ntmps99
  go_wp2_with fail
  go_loop [7, 8] (fun cv kv => cv = .int .i64 (X : Int) ∧ kv = .int .i64 (X4 : Int)) (fun _ _ => 0)
  case atStart => exact ⟨rfl, rfl⟩
  case round =>
    obtain ⟨rfl, rfl⟩ := hrel
    have x1 : IntKind.i64.wrap ((m : Int) + (n : Int)) = (m : Int) + (n : Int) := by rw [IntKind.wrap_i64]; omega
    have x2 : IntKind.i64.wrap (160 * ((m : Int) + (n : Int))) = 160 * ((m : Int) + (n : Int)) := by rw [IntKind.wrap_i64]; omega
    have x3 : IntKind.i64.wrap ((X : Int) + 160 * ((m : Int) + (n : Int))) = ((X + 160 * (m + n) : Nat) : Int) := by rw [IntKind.wrap_i64]; omega
    have HF : Hid (((X + 160 * (m + n) : Nat) : Int) = (X : Int) + 160 * ((m : Int) + (n : Int))) := by show _ = _; omega
    go_wp2
    go_ret
    exact ⟨rfl, Below.refl _ _⟩
end Go.Proofs.YtkjpeehbhmcojaaGreatDoor
