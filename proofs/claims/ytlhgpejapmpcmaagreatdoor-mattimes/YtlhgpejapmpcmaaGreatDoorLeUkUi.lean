/-
  math/bits.Len off the shelf.
-/
import Derived.Test.YtlhgpejapmpcmaaGreatDoorUdLnWrIb
import Derived.Test.YtlhgpejapmpcmaaGreatDoorUjOsKp
import Derived.Test.YtlhgpejapmpcmaaGreatDoorUeUfUg
namespace Go.Proofs.YtlhgpejapmpcmaaGreatDoor
open Go.RowKit
open Go.Shelf
set_option linter.unusedVariables false
set_option linter.unusedSimpArgs false

def renLen : Go.Shelf.Ren := ⟨fun | 125 => 87 | 128 => 69 | 129 => 127 | n => n, fun | 3 => 3 | 4 => 4 | 5 => 5 | 9 => 9 | 46 => 124 | 51 => 98 | 53 => 132 | n => n, fun n => n⟩
theorem laysLen : Lays.n125 Tryz.prog renLen :=
  { mixed := by kernel_rfl
    f125 := by kernel_rfl
    f128 := by kernel_rfl
    f129 := by kernel_rfl
    t3 := by kernel_rfl
    a3 := fun _ => by kernel_rfl
    z3 := fun _ => by kernel_rfl
    v3 := fun _ => by kernel_rfl
    t4 := by kernel_rfl
    a4 := fun _ => by kernel_rfl
    z4 := fun _ => by kernel_rfl
    v4 := fun _ => by kernel_rfl
    t5 := by kernel_rfl
    a5 := fun _ => by kernel_rfl
    z5 := fun _ => by kernel_rfl
    v5 := fun _ => by kernel_rfl
    t9 := by kernel_rfl
    a9 := fun _ => by kernel_rfl
    z9 := fun _ => by kernel_rfl
    v9 := fun _ => by kernel_rfl
    t46 := by kernel_rfl
    a46 := fun _ => by kernel_rfl
    z46 := fun _ => by kernel_rfl
    v46 := fun _ => by kernel_rfl
    t51 := by kernel_rfl
    a51 := fun _ => by kernel_rfl
    z51 := fun _ => by kernel_rfl
    v51 := fun _ => by kernel_rfl
    t53 := by kernel_rfl
    a53 := fun _ => by kernel_rfl
    z53 := fun _ => by kernel_rfl
    v53 := fun _ => by kernel_rfl }
theorem Len_any (x : Int) (w : World) (h0 : 0 ≤ x) (h1 : x ≤ 18446744073709551615) :
    Calls Tryz.prog 87 #[.int .u64 x] w fun e w' => e = .returned (.int .i64 (Lib.bitLen x.toNat)) ∧ w' = w := Any.bits_Len laysLen x w h0 h1
end Go.Proofs.YtlhgpejapmpcmaaGreatDoor
/-
  upoly.rowsCost, digitWidth, packedCost.
-/
namespace Go.Proofs.YtlhgpejapmpcmaaGreatDoor
open Go.RowKit
set_option linter.unusedVariables false
set_option linter.unusedSimpArgs false

set_option maxHeartbeats 2000000 in
set_option maxRecDepth 100000 in
/-- upoly.rowsCost. -/
theorem rowsCost_any {B C : Nat} {w : World} {K L : Nat} {p q : Option Addr} {n m : Nat} {es fs : List Ent} {zs ys : List Int} (h : PB B w K p n es zs) (k : PB C w L q m fs ys) (hn : n ≤ 1000000) (hm : m ≤ 1000000) (hK : K ≤ 1000) (hL : L ≤ 1000) :
    Calls Tryz.prog 94 #[.slice p n n, .slice q m m] w fun r w' => r = .returned (.int .i64 ((sl zs * sl ys + 80 * cnt zs * cnt ys : Nat) : Int)) ∧ Below w.heap.size w w' := by
  go_enter Tryz.func94, Tryz.ntmps94
  go_wp2_with fail
  refine (weigh_any h hn hK).mono ?_
  rintro e w1 ⟨rfl, c1, s1, hb1⟩
  go_wp2_with fail
  refine (weigh_any (k.below hb1) hm hL).mono ?_
  rintro e w2 ⟨rfl, c2, s2, hb2⟩
  have a1 : n * K ≤ 1000000 * 1000 := Nat.mul_le_mul hn hK
  have a2 : m * L ≤ 1000000 * 1000 := Nat.mul_le_mul hm hL
  have a3 : sl zs * sl ys ≤ 1000000000 * 1000000000 := Nat.mul_le_mul (by omega) (by omega)
  have a4 : cnt zs * cnt ys ≤ 1000000 * 1000000 := Nat.mul_le_mul (by omega) (by omega)
  have e1 : 80 * cnt zs * cnt ys = 80 * (cnt zs * cnt ys) := Nat.mul_assoc _ _ _
  have v1 : IntKind.i64.wrap ((sl zs : Int) * (sl ys : Int)) = ((sl zs * sl ys : Nat) : Int) := by rw [IntKind.wrap_i64]; push_cast; rw [← Int.natCast_mul]; omega
  have v2 : IntKind.i64.wrap (80 * (cnt zs : Int)) = 80 * (cnt zs : Int) := by rw [IntKind.wrap_i64]; omega
  have v3 : IntKind.i64.wrap (80 * (cnt zs : Int) * (cnt ys : Int)) = ((80 * cnt zs * cnt ys : Nat) : Int) := by rw [IntKind.wrap_i64]; push_cast; rw [Int.mul_assoc, ← Int.natCast_mul]; omega
  have v4 : IntKind.i64.wrap (((sl zs * sl ys : Nat) : Int) + ((80 * cnt zs * cnt ys : Nat) : Int)) = ((sl zs * sl ys + 80 * cnt zs * cnt ys : Nat) : Int) := by rw [IntKind.wrap_i64]; omega
  have HF : Hid (((sl zs * sl ys + 80 * cnt zs * cnt ys : Nat) : Int) = (sl zs : Int) * (sl ys : Int) + 80 * ((cnt zs : Int) * (cnt ys : Int))) := by
    show _ = _
    push_cast
    rw [Int.mul_assoc]
  go_wp2
  go_ret
  exact ⟨by rw [HF.out]; rfl, bnext' hb1 hb2⟩
/-- In how many limbs each entry of a product has room. -/
def wd (zs ys : List Int) : Nat := (pb zs + pb ys + Lib.bitLen (min zs.length ys.length)) / 32 + 1
theorem bitLen_le (x : Nat) : Lib.bitLen x ≤ 64 := bitLenAux_le 64 x
set_option maxHeartbeats 2000000 in
set_option maxRecDepth 100000 in
/-- upoly.digitWidth. -/
theorem digitWidth_any {w : World} {K L : Nat} {p q : Option Addr} {n nc m mc : Nat} {es fs : List Ent} {zs ys : List Int} (h : PA w K p n nc es zs) (k : PA w L q m mc fs ys) (hn : n ≤ 1000000) (hm : m ≤ 1000000) (hK : K ≤ 1000) (hL : L ≤ 1000) :
    Calls Tryz.prog 93 #[.slice p n nc, .slice q m mc] w fun r w' => r = .returned (.int .i64 (wd zs ys)) ∧ Below w.heap.size w w' := by
  have HW : Hid (wd zs ys = (pb zs + pb ys + Lib.bitLen (min n m)) / 32 + 1) := by show _ = _; rw [wd, h.zl, k.zl]
  obtain ⟨M, hM1, hM2⟩ : ∃ M : Nat, min (n : Int) (m : Int) = (M : Int) ∧ M = min n m := ⟨min n m, by omega, rfl⟩
  have HM : Hid (M = min n m) := hM2
  have hM3 : M ≤ 1000000 := by omega
  have vM : IntKind.u64.wrap (M : Int) = (M : Int) := by rw [IntKind.wrap_u64]; omega
  have hbl := bitLen_le M
  clear hM2
  go_enter Tryz.func93, Tryz.ntmps93
  go_wp2_with fail
  refine (uBits_any h hn hK).mono ?_
  rintro e w1 ⟨rfl, l1, hb1⟩
  go_wp2_with fail
  refine (uBits_any (k.below hb1) hm hL).mono ?_
  rintro e w2 ⟨rfl, l2, hb2⟩
  have v1 : IntKind.i64.wrap ((pb zs : Int) + (pb ys : Int)) = (pb zs : Int) + (pb ys : Int) := by rw [IntKind.wrap_i64]; omega
  go_wp2_with fail
  have hle := Len_any (M : Int) w2 (by omega) (by omega)
  rw [Int.toNat_natCast] at hle
  refine hle.mono ?_
  rintro e w3 ⟨rfl, rfl⟩
  clear hle
  have HW2 : Hid (wd zs ys = (pb zs + pb ys + Lib.bitLen M) / 32 + 1) := by show _ = _; rw [HW.out, HM.out]
  clear HW
  generalize Lib.bitLen M = bl at *
  have v2 : IntKind.i64.wrap ((pb zs : Int) + (pb ys : Int) + (bl : Int)) = (pb zs : Int) + (pb ys : Int) + (bl : Int) := by rw [IntKind.wrap_i64]; omega
  have v3 : ((pb zs : Int) + (pb ys : Int) + (bl : Int)).tdiv 32 = (((pb zs + pb ys + bl) / 32 : Nat) : Int) := by rw [Int.tdiv_eq_ediv_of_nonneg (by omega)]; omega
  have v4 : IntKind.i64.wrap (((pb zs + pb ys + bl) / 32 : Nat) : Int) = (((pb zs + pb ys + bl) / 32 : Nat) : Int) := by rw [IntKind.wrap_i64]; omega
  have v5 : IntKind.i64.wrap ((((pb zs + pb ys + bl) / 32 : Nat) : Int) + 1) = (((pb zs + pb ys + bl) / 32 : Nat) : Int) + 1 := by rw [IntKind.wrap_i64]; omega
  go_wp2
  go_ret
  exact ⟨by rw [HW2.out, Int.natCast_add]; rfl, bnext' hb1 hb2⟩
set_option maxHeartbeats 2000000 in
set_option maxRecDepth 100000 in
/-- upoly.packedCost of few entries. -/
theorem packedCost_small (m n d : Nat) (w : World) (hm : m ≤ 80) (hn : n ≤ 80) (hd : d ≤ 80) (hd1 : 1 ≤ d) (hk : d * min m n ≤ 80) :
    Calls Tryz.prog 95 #[.int .i64 m, .int .i64 n, .int .i64 d] w fun r w' => r = .returned (.int .i64 ((d * m * d * n + 160 * (m + n) : Nat) : Int)) ∧ Below w.heap.size w w' := by
  obtain ⟨A, hA1, hA2⟩ : ∃ A : Nat, max (m : Int) (n : Int) = (A : Int) ∧ A ≤ 80 := ⟨max m n, by omega, by omega⟩
  obtain ⟨M, hM1, hM2⟩ : ∃ M : Nat, min (m : Int) (n : Int) = (M : Int) ∧ M = min m n := ⟨min m n, by omega, rfl⟩
  rw [← hM2] at hk
  clear hM2
  have q1 : (2147483647 : Int).tdiv (d : Int) = 2147483647 / (d : Int) := Int.tdiv_eq_ediv_of_nonneg (by decide)
  have q2 : 80 < 2147483647 / (d : Int) := by
    have : (26843545 : Int) ≤ 2147483647 / (d : Int) := Int.le_ediv_of_mul_le (by omega) (by omega)
    omega
  have q3 : 2147483647 / (d : Int) ≤ 2147483647 := Int.ediv_le_self _ (by decide)
  have hd0 : ¬ (d : Int) = 0 := by omega
  have hd0' : ((d : Int) == 0) = false := by rw [beq_eq_false_iff_ne]; omega
  generalize hQ : 2147483647 / (d : Int) = Q at *
  have hc : ¬ Q < (A : Int) := by omega
  have m1 : d * m ≤ 80 * 80 := Nat.mul_le_mul hd hm
  have m2 : d * m * d ≤ 6400 * 80 := Nat.mul_le_mul m1 hd
  have m3 : d * m * d * n ≤ 512000 * 80 := Nat.mul_le_mul m2 hn
  have e1 : (d : Int) * (m : Int) = ((d * m : Nat) : Int) := by push_cast; rfl
  have e2 : ((d * m : Nat) : Int) * (d : Int) = ((d * m * d : Nat) : Int) := by push_cast; rfl
  have e3 : ((d * m * d : Nat) : Int) * (n : Int) = ((d * m * d * n : Nat) : Int) := by push_cast; rfl
  have e4 : (d : Int) * (M : Int) = ((d * M : Nat) : Int) := by push_cast; rfl
  have w1 : IntKind.i64.wrap ((d * m : Nat) : Int) = ((d * m : Nat) : Int) := by rw [IntKind.wrap_i64]; omega
  have w2 : IntKind.i64.wrap ((d * m * d : Nat) : Int) = ((d * m * d : Nat) : Int) := by rw [IntKind.wrap_i64]; omega
  have w3 : IntKind.i64.wrap ((d * m * d * n : Nat) : Int) = ((d * m * d * n : Nat) : Int) := by rw [IntKind.wrap_i64]; omega
  have w4 : IntKind.i64.wrap ((d * M : Nat) : Int) = ((d * M : Nat) : Int) := by rw [IntKind.wrap_i64]; omega
  have w5 : IntKind.i64.wrap Q = Q := by rw [IntKind.wrap_i64]; omega
  have hk' : ¬ (80 : Int) < ((d * M : Nat) : Int) := by omega
  generalize d * m * d * n = X at *
  generalize d * m * d = X2 at *
  generalize d * m = X1 at *
  generalize d * M = X4 at *
  go_enter Tryz.func95, Tryz.ntmps95
  go_wp2_with fail
  go_loop [7, 8] (fun cv kv => cv = .int .i64 (X : Int) ∧ kv = .int .i64 (X4 : Int)) (fun _ _ => 0)
  case atStart => exact ⟨rfl, rfl⟩
  case round =>
    obtain ⟨rfl, rfl⟩ := hrel
    have x1 : IntKind.i64.wrap ((m : Int) + (n : Int)) = (m : Int) + (n : Int) := by rw [IntKind.wrap_i64]; omega
    have x2 : IntKind.i64.wrap (160 * ((m : Int) + (n : Int))) = 160 * ((m : Int) + (n : Int)) := by rw [IntKind.wrap_i64]; omega
    have x3 : IntKind.i64.wrap ((X : Int) + 160 * ((m : Int) + (n : Int))) = ((X + 160 * (m + n) : Nat) : Int) := by rw [IntKind.wrap_i64]; omega
    have HF : Hid (((X + 160 * (m + n) : Nat) : Int) = (X : Int) + 160 * ((m : Int) + (n : Int))) := by show _ = _; omega
    go_wp2
    go_ret
    exact ⟨rfl, Below.refl _ _⟩
end Go.Proofs.YtlhgpejapmpcmaaGreatDoor
/-
  upoly.entry, combine, Add.
-/
namespace Go.Proofs.YtlhgpejapmpcmaaGreatDoor
open Go.RowKit
set_option linter.unusedVariables false
set_option linter.unusedSimpArgs false

theorem EV.set2 {w : World} {K : Nat} {z : Int} {e : Ent} {g o : Nat} {u v : Value} (h : EV w K z e) (ho : 0 < e.n → Off g e.p) : EV ((w.setCell ⟨g, o, none⟩ u).setCell ⟨g, o + 1, none⟩ v) K z e := by
  obtain ⟨xs, h1, h2⟩ := h
  refine ⟨xs, ⟨h1.len, h1.cap, h1.bnd, h1.sml, fun hx => ?_, h1.u⟩, h2⟩
  have := ho (by rw [h1.len] at hx; exact hx)
  exact ((h1.rd.set_other ⟨g, o, none⟩ u this).set_other ⟨g, o + 1, none⟩ v this) hx
theorem EV.ez (w : World) (K : Nat) : EV w K 0 ez := ⟨[], ⟨rfl, Nat.le_refl _, Nat.zero_le _, Nat.zero_le _, Rd.nil, fun j => by simp [gx]⟩, rfl, Nat.zero_le _⟩
set_option maxHeartbeats 2000000 in
set_option maxRecDepth 100000 in
/-- upoly.entry. -/
theorem entry_any {w : World} {K : Nat} {p : Option Addr} {n nc : Nat} {es : List Ent} {zs : List Int} (h : PA w K p n nc es zs) (hn : n ≤ 1000000) (i : Nat) (hi : i ≤ 1000000) :
    Calls Tryz.prog 88 #[.slice p n nc, .int .i64 i] w fun r w' => ∃ f : Ent, r = .returned (.agg #[.bool f.s, .slice f.p f.n f.c]) ∧ EV w' K (gx zs i) f ∧ Below w.heap.size w w' := by
  have hel := h.el
  have hzl := h.zl
  have hal := bel_al (o := .cells #[.bool false, .slice none 0 0] 58) (Below.refl w.heap.size w)
  have hR0 : Bx (w.alloc (.cells #[.bool false, .slice none 0 0] 58)) w.heap.size (.bool false) (.slice none 0 0) := Bx.new _ _ _ rfl
  have hw := h.below hal
  rcases Nat.lt_or_ge i n with hlt | hge
  · obtain ⟨b, o, hp, hc⟩ := hw.pl (by omega)
    obtain ⟨b', o', hp', hc'⟩ := h.pl (by omega)
    rw [hp] at hp'
    cases hp'
    have sb : b < w.heap.size := block_lt_of_cell (hc' i (by omega)).1
    subst hp
    obtain ⟨c0, c1⟩ := hc i (by omega)
    have hv := hw.ev i hlt
    obtain ⟨r0, r1, f0, f1⟩ := hR0
    clear hc hc'
    go_enter Tryz.func88, Tryz.ntmps88
    go_wp2
    refine bodyPost_ret (v := .agg #[.bool (ge es i).s, .slice (ge es i).p (ge es i).n (ge es i).c]) (by simp [results, Tryz.results88, go_sem, r0, r1]) rfl ⟨ge es i, rfl, ?_, bel_al (Below.refl _ _)⟩
    exact (h.ev i hlt).below (bel_al (Below.refl _ _))
  · obtain ⟨r0, r1, f0, f1⟩ := hR0
    have hz : Hid (gx zs i = 0) := gx_past zs n (by omega) i hge
    go_enter Tryz.func88, Tryz.ntmps88
    go_wp2
    refine bodyPost_ret (v := .agg #[.bool false, .slice none 0 0]) (by simp [results, Tryz.results88, go_sem, r0, r1]) rfl ⟨ez, rfl, ?_, bel_al (Below.refl _ _)⟩
    rw [hz.out]
    exact EV.ez _ K
/-- Behind some rounds of combine. -/
def CoI (op : Int → Int → Int) (K g n k : Nat) (zs ys : List Int) (W0 wr : World) : Prop :=
  ∃ es, Row2 wr g 58 es ∧ es.length = n ∧ (∀ j, j < k → NV (g + 1) wr K (op (gx zs j) (gx ys j)) (ge es j)) ∧ Below g W0 wr
/-- Two polynomials, entry by entry. -/
def pz (op : Int → Int → Int) (zs ys : List Int) : List Int := (List.range (max zs.length ys.length)).map fun i => op (gx zs i) (gx ys i)
set_option maxHeartbeats 2000000 in
set_option maxRecDepth 100000 in
/-- upoly.combine. -/
theorem ucombine_any {w : World} {K L M : Nat} {p q : Option Addr} {n nc m mc : Nat} {es fs : List Ent} {zs ys : List Int} (h : PA w K p n nc es zs) (k : PA w L q m mc fs ys) (hn : n ≤ 1000000) (hm : m ≤ 1000000) (hM : M ≤ 1000) (J : Nat) (hE : ∀ args w', Sem.run Tryz.prog (callFunc J args) w' = .ok (.enter J args) w') (op : Int → Int → Int)
    (hJ : ∀ w' x y e f, EV w' K x e → EV w' L y f → Calls Tryz.prog J #[.agg #[.bool e.s, .slice e.p e.n e.c], .agg #[.bool f.s, .slice f.p f.n f.c]] w' fun r w'' => ∃ u : Ent, r = .returned (.agg #[.bool u.s, .slice u.p u.n u.c]) ∧ NV w'.heap.size w'' M (op x y) u ∧ Below w'.heap.size w' w'') :
    Calls Tryz.prog 52 #[.slice p n nc, .slice q m mc, .func (.func J) #[] #[]] w (PnP (tr (pz op (tr zs) (tr ys))) M w) := by
  have htl := tlen_le zs
  have htl' := tlen_le ys
  have hzl := h.zl
  have hyl := k.zl
  have HJ := (show Hid _ from hJ)
  clear hJ
  go_enter Tryz.func52, Tryz.ntmps52
  go_wp2_with fail
  refine (utrim_any K p n nc es zs _ h hn).mono ?_
  rintro e w1 ⟨rfl, hb1⟩
  go_wp2_with fail
  refine (utrim_any L q m mc fs ys _ (k.below hb1) hm).mono ?_
  rintro e w2 ⟨rfl, hb2⟩
  have h2 := ((h.below hb1).below hb2).trim
  have k2 := ((k.below hb1).below hb2).trim
  have hb := bnext' hb1 hb2
  have HL : Hid ((tr zs).length = tlen zs ∧ (tr ys).length = tlen ys) := ⟨length_tr zs, length_tr ys⟩
  have ha : tlen zs ≤ 1000000 := by omega
  have hc : tlen ys ≤ 1000000 := by omega
  clear hb1 hb2 h k
  generalize tr zs = A at *
  generalize tr ys = B at *
  generalize tlen zs = a at *
  generalize tlen ys = b at *
  generalize es.take a = ea at *
  generalize fs.take b = eb at *
  clear htl htl' hzl hyl hn hm
  have hmx : Hid (∃ N : Nat, N = max a b ∧ max (a : Int) (b : Int) = (N : Int) ∧ N ≤ 1000000) := ⟨max a b, rfl, by omega, by omega⟩
  obtain ⟨N, hN1, hN2, hN3⟩ := hmx.out
  have hmk := mk_poly N (by omega)
  have HN : Hid (N = max a b) := hN1
  clear hmx hN1
  go_wp2_with fail
  have hR0 := Row2.new w2 58 (ezs N)
  have hW0 : Below w2.heap.size w2 (w2.alloc (.cells (ca2 (ezs N)) 58)) := (Below.refl _ _).alloc (Nat.le_refl _) _
  have hs0 : w2.heap.size + 1 ≤ (w2.alloc (.cells (ca2 (ezs N)) 58)).heap.size := by simp
  generalize w2.alloc (.cells (ca2 (ezs N)) 58) = W0 at *
  clear hmk
  go_loopw [8, 21] (fun iv kv wr => ∃ j : Nat, j ≤ N ∧ kv = .int .i64 j ∧ Hid (CoI op M w2.heap.size N j A B W0 wr)) (fun _ kv _ => N - (intOf kv).toNat)
  case atStart => exact ⟨0, Nat.zero_le _, by go_num, ezs N, hR0, length_ezs N, fun j hj => by omega, Below.refl _ _⟩
  case round =>
    obtain ⟨j, hj, rfl, H⟩ := hrel
    rcases Nat.lt_or_ge j N with hlt | hge
    · have hBw : Below w2.heap.size w2 wr := by
        obtain ⟨es', hR, hel, hev, hB⟩ := H.out
        exact hW0.trans hB
      go_wp2_with fail
      refine (entry_any (h2.below hBw) ha j (by omega)).mono ?_
      rintro r w3 ⟨e1, rfl, hv1, hb3⟩
      go_wp2_with fail
      refine (entry_any ((k2.below hBw).below hb3) hc j (by omega)).mono ?_
      rintro r w4 ⟨e2, rfl, hv2, hb4⟩
      go_wp2_with fail
      refine (HJ.out _ _ _ e1 e2 (hv1.below hb4) hv2).mono ?_
      rintro r w5 ⟨f, rfl, hO, hb5⟩
      have hb2' := bnext' (bnext' hb3 hb4) hb5
      obtain ⟨es', hR, hel, hev, hB⟩ := H.out
      have hR1 := hR.below hb2' hR.lt
      obtain ⟨d0, d1⟩ := hR1.cell j (by omega)
      have f0 := hR1.frozen (j * 2)
      have f1 := hR1.frozen (j * 2 + 1)
      have hsz : w2.heap.size + 1 ≤ w4.heap.size := by have h1 := hB.size; have h3 := hb3.size; have h4 := hb4.size; omega
      have HI : Hid (NV (w2.heap.size + 1) w5 M (op (gx A j) (gx B j)) f ∧ Row2 w5 w2.heap.size 58 es' ∧ es'.length = N ∧ (∀ i, i < j → NV (w2.heap.size + 1) w5 M (op (gx A i) (gx B i)) (ge es' i)) ∧ Below w2.heap.size W0 w5) := ⟨hO.mono hsz, hR1, hel, fun i hi => (hev i hi).below hb2', hB.trans (hb2'.mono (by have := hBw.size; omega))⟩
      clear hO hb3 hb4 hb5 hb2' hR hel hev hB hR1 hv1 hv2 H
      go_wp2
      go_roundw
      case rel =>
        obtain ⟨hO, hR, hel, hev, hB⟩ := HI.out
        refine ⟨j + 1, by omega, by go_num, es'.set j f, hR.set j f (by omega), by simpa using hel, fun i hi => ?_, ?_⟩
        · rcases Nat.lt_or_ge i j with h' | h'
          · rw [ge_set_other _ _ _ _ (by omega)]
            exact (hev i h').set2 (by omega) _ _
          · obtain rfl : i = j := by omega
            rw [ge_set_same _ _ _ (by omega)]
            exact hO.set2 (by omega) _ _
        · exact (hB.setCell (p := ⟨w2.heap.size, j * 2, none⟩) (Nat.le_refl _) _).setCell (p := ⟨w2.heap.size, j * 2 + 1, none⟩) (Nat.le_refl _) _
      case measure => simp [intOf]; omega
    · obtain rfl : j = N := by omega
      obtain ⟨es', hR, hel, hev, hB⟩ := H.out
      have hpl : (pz op A B).length = j := by rw [pz, List.length_map, List.length_range, HL.out.1, HL.out.2]; exact HN.out.symm
      have hgx : ∀ i, i < j → gx (pz op A B) i = op (gx A i) (gx B i) := fun i hi => by
        have hi' : i < (pz op A B).length := by omega
        rw [gx_mem _ _ hi']
        simp [pz]
      have hPA : PA wr M (some ⟨w2.heap.size, 0, none⟩) j j es' (pz op A B) := ⟨hel, hpl, Nat.le_refl _, by unfold maxLen; omega, fun e => by simp at e, hR.pl, fun i hi => by rw [hgx i hi]; exact (hev i hi).ev hM⟩
      have HI : Hid (Row2 wr w2.heap.size 58 es' ∧ es'.length = j ∧ (∀ i, i < j → NV (w2.heap.size + 1) wr M (gx (pz op A B) i) (ge es' i)) ∧ Below w2.heap.size w2 wr) := ⟨hR, hel, fun i hi => by rw [hgx i hi]; exact hev i hi, hW0.trans hB⟩
      have HP : Hid ((pz op A B).length = j) := hpl
      clear H hR hel hev hB hge hj hgx hpl
      go_wp2_with fail
      refine (utrim_any M _ _ _ es' (pz op A B) _ hPA (by omega)).mono ?_
      rintro e w3 ⟨rfl, hb3⟩
      clear hPA
      go_wp2
      go_ret
      obtain ⟨hR, hel, hev, hB⟩ := HI.out
      have htl := tlen_le (pz op A B)
      have hp := HP.out
      have hs2 := hb.size
      refine ⟨_, _, es'.take (tlen (pz op A B)), rfl, ⟨by simp; omega, length_tr _, tlen_tr _, (hR.below hb3 hR.lt).pl.take _, fun a ha => by cases ha; exact hs2, fun i hi => ?_⟩, bnext' hb (bnext' hB hb3)⟩
      rw [gx_tr, ge_take _ _ _ hi]
      exact ((hev i (by omega)).below hb3).mono (by omega)
theorem callAdd' (args : Array Value) (w' : World) : Sem.run Tryz.prog (callFunc 53 args) w' = .ok (.enter 53 args) w' := by
  have h1 : ¬ Tryz.f53.name = "runtime.NumGoroutine" := of_decide_eq_false (by kernel_rfl)
  have h2 : ¬ Tryz.f53.body = none := fun h => by cases h
  simp only [callFunc, Tryz.func53, go_sem]
  simp [h1, h2, go_sem]
theorem Add_ev {w : World} {K L : Nat} {x y : Int} {e f : Ent} (h : EV w K x e) (k : EV w L y f) : Calls Tryz.prog 53 #[.agg #[.bool e.s, .slice e.p e.n e.c], .agg #[.bool f.s, .slice f.p f.n f.c]] w fun r w' => ∃ u : Ent, r = .returned (.agg #[.bool u.s, .slice u.p u.n u.c]) ∧ NV w.heap.size w' (K + L + 1) (x + y) u ∧ Below w.heap.size w w' := by
  obtain ⟨xs, h1, rfl, h3⟩ := h
  obtain ⟨ys, k1, rfl, k3⟩ := k
  refine (Add_any e.s f.s e.p f.p e.n e.c f.n f.c xs ys w h1 k1).mono ?_
  rintro r w' ⟨s', p', n', zs, g1, g2, g3, g4⟩
  exact ⟨⟨s', p', n', n'⟩, g1, ⟨zs, g2, rfl, by show n' ≤ _; omega⟩, g4⟩
set_option maxHeartbeats 2000000 in
/-- upoly.Add. -/
theorem uAdd_any {w : World} {K L : Nat} {p q : Option Addr} {n nc m mc : Nat} {es fs : List Ent} {zs ys : List Int} (h : PA w K p n nc es zs) (k : PA w L q m mc fs ys) (hn : n ≤ 1000000) (hm : m ≤ 1000000) (hM : K + L + 1 ≤ 1000) :
    Calls Tryz.prog 28 #[.slice p n nc, .slice q m mc] w (PnP (tr (pz (· + ·) (tr zs) (tr ys))) (K + L + 1) w) := by
  have hc := fun w' (h : PA w' K p n nc es zs) (k : PA w' L q m mc fs ys) => ucombine_any h k hn hm hM 53 callAdd' (· + ·) (fun w' x y e f h k => Add_ev h k)
  go_enter Tryz.func28, Tryz.ntmps28
  go_wp2_with fail
  refine (hc w h k).mono ?_
  rintro e w1 ⟨p1, n1, e1, rfl, h1, h2⟩
  clear hc
  go_wp2
  go_ret
  exact ⟨p1, n1, e1, rfl, h1, h2⟩
end Go.Proofs.YtlhgpejapmpcmaaGreatDoor
