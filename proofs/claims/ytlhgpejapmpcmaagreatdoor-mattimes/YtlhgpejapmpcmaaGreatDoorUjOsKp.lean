/-
  upoly.Bits, isZero, weigh.
-/
import Derived.Test.YtlhgpejapmpcmaaGreatDoorUeUfUg
import Derived.Test.YtlhgpejapmpcmaaGreatDoorOq
import Derived.StillTailTactics
import Derived.Test.YtlhgpejapmpcmaaGreatDoorMmWa
namespace Go.Proofs.YtlhgpejapmpcmaaGreatDoor
open Go.RowKit
set_option linter.unusedVariables false
set_option linter.unusedSimpArgs false

/-- How many bits a number has. -/
def zb (z : Int) : Nat := if z = 0 then 0 else z.natAbs.log2 + 1
theorem zb_ib (z : Int) : IB (zb z) (z.natAbs : Int) := by
  unfold zb
  split
  · rename_i h; subst h; exact ⟨by decide, by decide, .inl rfl⟩
  · rename_i h
    have h0 : z.natAbs ≠ 0 := by omega
    refine ⟨by omega, ?_, .inr ?_⟩
    · have := Nat.lt_log2_self (n := z.natAbs)
      exact_mod_cast this
    · have := Nat.log2_self_le h0
      simp only [Nat.add_sub_cancel]
      exact_mod_cast this
theorem nbits_zb {s : Bool} {xs : List Int} (hU : U32 xs) : nbits xs = (zb (ival s xs) : Int) := by
  obtain ⟨b, hb, hI⟩ := nbits_ib hU
  have e : ((ival s xs).natAbs : Int) = val xs := by
    have := val_nonneg hU
    rw [ival]
    split <;> omega
  have hz := zb_ib (ival s xs)
  rw [e] at hz
  rw [hb, hI.uniq hz]
theorem Bits_ev {w : World} {K : Nat} {z : Int} {e : Ent} (h : EV w K z e) : Calls Tryz.prog 40 #[.agg #[.bool e.s, .slice e.p e.n e.c]] w fun r w' => r = .returned (.int .i64 (zb z)) ∧ Below w.heap.size w w' := by
  obtain ⟨xs, h1, rfl, h3⟩ := h
  rw [← nbits_zb (s := e.s) h1.u]
  exact Bits_any e.s e.p e.n e.c xs w h1
/-- The greatest entry's bits. -/
def pb (zs : List Int) : Nat := zs.foldl (fun m z => max m (zb z)) 0
theorem pb_take (zs : List Int) (j : Nat) (h : j < zs.length) : pb (zs.take (j + 1)) = max (pb (zs.take j)) (zb (gx zs j)) := by
  rw [gx_mem zs j h, List.take_succ_eq_append_getElem h, pb, List.foldl_append]
  rfl
theorem zb_le {w : World} {K : Nat} {z : Int} {e : Ent} (h : EV w K z e) : zb z ≤ 32 * K := by
  obtain ⟨xs, h1, rfl, h3⟩ := h
  obtain ⟨q1, q2, q3⟩ := nbits_len h1.u
  rw [nbits_zb (s := e.s) h1.u] at q3
  have := tlen_le xs
  have := h1.len
  omega
set_option maxHeartbeats 2000000 in
set_option maxRecDepth 100000 in
/-- upoly.isZero. -/
theorem isZero_any {w : World} {K : Nat} {z : Int} {e : Ent} (h : EV w K z e) : Calls Tryz.prog 134 #[.agg #[.bool e.s, .slice e.p e.n e.c]] w fun r w' => r = .returned (.bool (decide (z = 0))) ∧ Below w.heap.size w w' := by
  have hd : Hid ((isgn z == 0) = decide (z = 0)) := by
    show (isgn z == 0) = decide (z = 0)
    unfold isgn
    split
    · rename_i h; rw [decide_eq_true h]; rfl
    · rename_i h; rw [decide_eq_false h]; split <;> rfl
  go_enter Tryz.func134, Tryz.ntmps134
  go_wp2_with fail
  have hW : Below w.heap.size w (w.alloc (.cells #[.bool e.s, .slice e.p e.n e.c] 58)) := (Below.refl _ _).alloc (Nat.le_refl _) _
  generalize w.alloc (.cells #[.bool e.s, .slice e.p e.n e.c] 58) = W at *
  refine (Sign_ev (h.below hW)).mono ?_
  rintro r w1 ⟨rfl, hb1⟩
  go_wp2
  go_ret
  exact ⟨by rw [hd.out]; rfl, bnext' hW hb1⟩
set_option maxHeartbeats 2000000 in
set_option maxRecDepth 100000 in
/-- upoly.Bits. -/
theorem uBits_any {w : World} {K : Nat} {p : Option Addr} {n nc : Nat} {es : List Ent} {zs : List Int} (h : PA w K p n nc es zs) (hn : n ≤ 1000000) (hK : K ≤ 1000) :
    Calls Tryz.prog 21 #[.slice p n nc] w fun r w' => r = .returned (.int .i64 (pb zs)) ∧ pb zs ≤ 32 * K ∧ Below w.heap.size w w' := by
  have hel := h.el
  have hzl := h.zl
  go_enter Tryz.func21, Tryz.ntmps21
  go_wp2_with fail
  go_loopw [3, 5, 8] (fun mv cv kv wr => ∃ j : Nat, j ≤ n ∧ kv = .int .i64 j ∧ mv = .int .i64 (pb (zs.take j)) ∧ Hid (pb (zs.take j) ≤ 32 * K ∧ Below w.heap.size w wr)) (fun _ _ kv _ => n - (intOf kv).toNat)
  case atStart => exact ⟨0, Nat.zero_le _, by go_num, by simp [pb], by simp [pb], Below.refl _ _⟩
  case round =>
    obtain ⟨j, hj, rfl, rfl, H⟩ := hrel
    rcases Nat.lt_or_ge j n with hlt | hge
    · have hh := h.below H.out.2
      have hv := hh.ev j hlt
      obtain ⟨b, o, hp, hc⟩ := hh.pl (by omega)
      subst hp
      obtain ⟨c0, c1⟩ := hc j (by omega)
      have hz := zb_le hv
      have HT : Hid (pb (zs.take (j + 1)) = max (pb (zs.take j)) (zb (gx zs j))) := pb_take zs j (by omega)
      clear hc hh
      go_wp2_with fail
      have hal := bel_al (o := .cells #[.bool (ge es j).s, .slice (ge es j).p (ge es j).n (ge es j).c] 58) (Below.refl wr.heap.size wr)
      refine (Bits_ev (hv.below hal)).mono ?_
      rintro e w1 ⟨rfl, hb1⟩
      have hB := bnext' H.out.2 (bnext' hal hb1)
      have hmx : max (pb (zs.take j) : Int) (zb (gx zs j) : Int) = ((pb (zs.take (j + 1)) : Nat) : Int) := by rw [HT.out]; omega
      clear c0 c1 hv hal hb1
      go_wp2
      go_roundw
      case rel => exact ⟨j + 1, by omega, by go_num, rfl, by rw [HT.out]; have := H.out.1; omega, hB⟩
      case measure => simp [intOf]; omega
    · obtain rfl : j = n := by omega
      have HT : Hid (zs.take j = zs) := List.take_of_length_le (by omega)
      clear hge
      go_wp2
      go_ret
      obtain ⟨h1, h2⟩ := H.out
      rw [HT.out] at h1
      exact ⟨by rw [HT.out]; rfl, h1, h2⟩
/-- How many limbs a number has. -/
def zl (z : Int) : Nat := (zb z + 31) / 32
def cnt (zs : List Int) : Nat := zs.foldl (fun m z => if z = 0 then m else m + 1) 0
def sl (zs : List Int) : Nat := zs.foldl (fun m z => m + zl z) 0
theorem cnt_take (zs : List Int) (j : Nat) (h : j < zs.length) : cnt (zs.take (j + 1)) = if gx zs j = 0 then cnt (zs.take j) else cnt (zs.take j) + 1 := by
  rw [gx_mem zs j h, List.take_succ_eq_append_getElem h, cnt, List.foldl_append]
  rfl
theorem sl_take (zs : List Int) (j : Nat) (h : j < zs.length) : sl (zs.take (j + 1)) = sl (zs.take j) + zl (gx zs j) := by
  rw [gx_mem zs j h, List.take_succ_eq_append_getElem h, sl, List.foldl_append]
  rfl
theorem EN.zl {w : World} {K : Nat} {z : Int} {e : Ent} (h : EN w K z e) : e.n = zl z ∧ zl z ≤ K := by
  obtain ⟨xs, h1, rfl, h3, h4, h5⟩ := h
  obtain ⟨q1, q2, q3⟩ := nbits_len h1.u
  rw [nbits_zb (s := e.s) h1.u] at q1
  have : Go.Proofs.YtlhgpejapmpcmaaGreatDoor.zl (ival e.s xs) = e.n := by unfold Go.Proofs.YtlhgpejapmpcmaaGreatDoor.zl; omega
  exact ⟨this.symm, by omega⟩
set_option maxHeartbeats 2000000 in
set_option maxRecDepth 100000 in
/-- upoly.weigh. -/
theorem weigh_any {B : Nat} {w : World} {K : Nat} {p : Option Addr} {n : Nat} {es : List Ent} {zs : List Int} (h : PB B w K p n es zs) (hn : n ≤ 1000000) (hK : K ≤ 1000) :
    Calls Tryz.prog 133 #[.slice p n n] w fun r w' => r = .returned (.tuple #[.int .i64 (cnt zs), .int .i64 (sl zs)]) ∧ cnt zs ≤ n ∧ sl zs ≤ n * K ∧ Below w.heap.size w w' := by
  have hel := h.el
  have hzl := h.zl
  go_enter Tryz.func133, Tryz.ntmps133
  go_wp2_with fail
  go_loopw [4, 5, 7, 10] (fun nv sv cv kv wr => ∃ j : Nat, j ≤ n ∧ kv = .int .i64 j ∧ nv = .int .i64 (cnt (zs.take j)) ∧ sv = .int .i64 (sl (zs.take j)) ∧ Hid (cnt (zs.take j) ≤ j ∧ sl (zs.take j) ≤ j * K ∧ Below w.heap.size w wr)) (fun _ _ _ kv _ => n - (intOf kv).toNat)
  case atStart => exact ⟨0, Nat.zero_le _, by go_num, by simp [cnt], by simp [sl], by simp [cnt], by simp [sl], Below.refl _ _⟩
  case round =>
    obtain ⟨j, hj, rfl, rfl, rfl, H⟩ := hrel
    rcases Nat.lt_or_ge j n with hlt | hge
    · have hh := h.below H.out.2.2
      have hv := hh.ev j hlt
      obtain ⟨b, o, hp, hc⟩ := hh.pl (by omega)
      subst hp
      obtain ⟨c0, c1⟩ := hc j (by omega)
      obtain ⟨z1, z2⟩ := hv.zl
      have HT : Hid (cnt (zs.take (j + 1)) = (if gx zs j = 0 then cnt (zs.take j) else cnt (zs.take j) + 1)) := cnt_take zs j (by omega)
      have HS : Hid (sl (zs.take (j + 1)) = sl (zs.take j) + zl (gx zs j)) := sl_take zs j (by omega)
      have hjK : Hid (sl (zs.take j) + zl (gx zs j) ≤ (j + 1) * K) := by
        show _ ≤ _
        have := H.out.2.1
        rw [Nat.add_mul]
        omega
      have hle1 : cnt (zs.take j) ≤ 1000000 := by have := H.out.1; omega
      have hle2 : sl (zs.take j) ≤ 1000000000 := by
        have h1 := H.out.2.1
        have h2 : j * K ≤ 1000000 * 1000 := Nat.mul_le_mul (by omega) hK
        omega
      rw [z1] at c1
      have hvn : EV wr K (gx zs j) (ge es j) := hv.ev
      have v1 : IntKind.i64.wrap ((sl (zs.take j) : Int) + (zl (gx zs j) : Int)) = ((sl (zs.take (j + 1)) : Nat) : Int) := by rw [IntKind.wrap_i64, HS.out]; omega
      have v2 : IntKind.i64.wrap ((cnt (zs.take j) : Int) + 1) = (cnt (zs.take j) : Int) + 1 := by rw [IntKind.wrap_i64]; omega
      clear hc hh hv
      have HB0 : Hid (Below w.heap.size w wr) := H.out.2.2
      have HC : Hid (cnt (zs.take j) ≤ j) := H.out.1
      go_wp2_with fail
      have hal := bel_al (o := .cells #[.bool (ge es j).s, .slice (ge es j).p (zl (gx zs j)) (ge es j).c] 58) (Below.refl wr.heap.size wr)
      have hz0 := isZero_any (hvn.below hal)
      rw [z1] at hz0
      refine hz0.mono ?_
      rintro e w1 ⟨rfl, hb1⟩
      have hB := bnext' HB0.out (bnext' hal hb1)
      have hcs : Hid (gx zs j = 0 ∨ ¬ gx zs j = 0) := Classical.em _
      clear hz0 c0 c1 hvn hal hb1 H
      rcases hcs.out with hz | hz
      · rw [decide_eq_true hz]
        have HE : Hid (cnt (zs.take (j + 1)) = cnt (zs.take j)) := by show _ = _; rw [HT.out, if_pos hz]
        clear hz hcs
        go_wp2
        go_roundw
        case rel => exact ⟨j + 1, by omega, by go_num, by rw [HE.out], rfl, by rw [HE.out]; have := HC.out; omega, by rw [HS.out]; exact hjK.out, hB⟩
        case measure => simp [intOf]; omega
      · rw [decide_eq_false hz]
        have HE : Hid (cnt (zs.take (j + 1)) = cnt (zs.take j) + 1) := by show _ = _; rw [HT.out, if_neg hz]
        clear hz hcs
        go_wp2
        go_roundw
        case rel => exact ⟨j + 1, by omega, by go_num, by rw [HE.out]; rfl, rfl, by rw [HE.out]; have := HC.out; omega, by rw [HS.out]; exact hjK.out, hB⟩
        case measure => simp [intOf]; omega
    · obtain rfl : j = n := by omega
      have HT : Hid (zs.take j = zs) := List.take_of_length_le (by omega)
      clear hge
      go_wp2
      go_ret2
      obtain ⟨h1, h2, h3⟩ := H.out
      rw [HT.out] at h1 h2
      exact ⟨by rw [HT.out]; rfl, h1, h2, h3⟩
end Go.Proofs.YtlhgpejapmpcmaaGreatDoor
/-
  linalg.isMatrix; Cost, Null of what is no matrix.
-/
namespace Go.Proofs.YtlhgpejapmpcmaaGreatDoor
open Go.RowKit
set_option linter.unusedVariables false
set_option linter.unusedSimpArgs false

theorem foldl_take_succ {α β : Type} [Inhabited α] (f : β → α → β) (d : β) (l : List α) (j : Nat) (h : j < l.length) : (l.take (j + 1)).foldl f d = f ((l.take j).foldl f d) (gt l j) := by
  rw [List.take_succ_eq_append_getElem h, List.foldl_append]
  simp [gt, h]
/-- The greatest degree, the greatest number of bits. -/
def dm (d : Int) (row : List (List Int)) : Int := row.foldl (fun d zs => max d ((tlen zs : Int) - 1)) d
def bm (b : Int) (row : List (List Int)) : Int := row.foldl (fun b zs => max b (pb zs : Int)) b
def DM (ts : List (List (List Int))) : Int := ts.foldl dm (-1)
def BM (ts : List (List (List Int))) : Int := ts.foldl bm 0
/-- What isMatrix answers. -/
def IsP (ts : List (List (List Int))) (w : World) (e : Ending) (w' : World) : Prop := ∃ b : Bool, e = .returned (.bool b) ∧ (b = true ↔ Mtx ts) ∧ Below w.heap.size w w'
set_option maxHeartbeats 4000000 in
set_option maxRecDepth 100000 in
/-- linalg.isMatrix. -/
theorem isMatrix_any {w : World} {B T R C : Nat} {ts : List (List (List Int))} {h : Hdr} (H : HR R (HR C (EZ 1 3)) w B T ts h) (hR : R ≤ 5) (hC : C ≤ 5) :
    Calls Tryz.prog 19 #[.slice h.p h.n h.c] w (IsP ts w) := by
  obtain ⟨hs, k⟩ := H
  have HX : Hid (HRow R (HR C (EZ 1 3)) w B T ts h hs) := k
  have hn : h.n ≤ R := k.few
  obtain ⟨p, n, nc⟩ := h
  simp only at hn ⊢
  clear k
  go_enter Tryz.func19, Tryz.ntmps19
  rcases Nat.lt_or_ge 0 n with hn0 | hn0
  · have c1 : ¬ (n : Int) < 1 := by omega
    have c2 : ¬ (64 : Int) < (n : Int) := by omega
    obtain ⟨b, o, hp, hc⟩ := HX.out.hl (by rw [HX.out.el]; exact hn0)
    simp only at hp
    subst hp
    have cg : Hid (∀ wq, Below w.heap.size w wq → ∀ k, k < n → wq.cell? ⟨b, o + k, none⟩ = some (gh hs k).val) := fun wq hb k hk => by
      have h1 := hc k (by rw [HX.out.el]; exact hk)
      rw [hb.cell (block_lt_of_cell h1)]
      exact h1
    have c0 := hc 0 (by rw [HX.out.el]; exact hn0)
    have hlen : Hid (∀ k, k < n → (gh hs k).n = (gt ts k).length ∧ (gh hs k).n ≤ C) := fun k hk => by
      obtain ⟨rs, hh⟩ := HX.out.ev k hk
      exact ⟨hh.tl.symm, hh.few⟩
    have hl0 := hlen.out 0 hn0
    generalize hh0 : gh hs 0 = hd at c0 hl0
    obtain ⟨p0, n0, nc0⟩ := hd
    simp only [Hdr.val, Nat.add_zero] at c0 hl0
    obtain ⟨hl0, hf0⟩ := hl0
    have HL0 : Hid (n0 = (gt ts 0).length) := hl0
    clear hl0 hc hh0
    go_wp2_with fail
    go_loopw [5, 20] (fun rv iv wr => ∃ k : Nat, k ≤ n ∧ iv = .int .i64 k ∧ Hid (wr = w ∧ ∀ j, j < k → (gt ts j).length = n0)) (fun _ iv _ => n - (intOf iv).toNat)
    case atStart => exact ⟨0, Nat.zero_le _, by go_num, rfl, fun j hj => absurd hj (by omega)⟩
    case round =>
      obtain ⟨k, hk, rfl, H⟩ := hrel
      obtain ⟨rfl, hall⟩ := H.out
      have HA : Hid (∀ j, j < k → (gt ts j).length = n0) := hall
      clear H hall
      rcases Nat.lt_or_ge k n with hlt | hge
      · have c5 := cg.out wr (Below.refl _ _) k hlt
        have hlk := hlen.out k hlt
        have i1 : (k : Int) < (n : Int) := by omega
        generalize gh hs k = hd at c5 hlk
        obtain ⟨p1, n1, nc1⟩ := hd
        simp only [Hdr.val] at c5 hlk
        have HLK : Hid (n1 = (gt ts k).length) := hlk.1
        clear hlk
        rcases Nat.decEq n1 n0 with hne | heq
        · have hne' : ((n1 : Int) != (n0 : Int)) = true := by rw [bne_iff_ne]; omega
          have HR' : Hid (IsP ts wr (.returned (.bool false)) wr) := ⟨false, rfl, ⟨nofun, fun h => by have h1 := h.2.2 k (by have := HX.out.tl; simp only at this; omega); have := HL0.out; have := HLK.out; omega⟩, Below.refl _ _⟩
          go_wp2
          go_ret
          exact HR'.out
        · subst heq
          have hne' : ((n1 : Int) != (n1 : Int)) = false := by simp
          go_wp2_with fail
          refine ⟨⟨k + 1, by omega, by go_num, by first | rfl | trivial, fun i hi => ?_⟩, by simp [intOf]; omega⟩
          rcases Nat.lt_or_ge i k with h | h
          · exact HA.out i h
          · obtain rfl : i = k := by omega
            exact HLK.out.symm
      · obtain rfl : k = n := by omega
        have i1 : ¬ (k : Int) < (k : Int) := by omega
        have htl : ts.length = k := HX.out.tl
        rcases Nat.lt_or_ge 0 n0 with hm0 | hm0
        · have c3 : (1 : Int) ≤ (n0 : Int) := by omega
          have c4 : (n0 : Int) ≤ 64 := by omega
          have HR' : Hid (IsP ts wr (.returned (.bool true)) wr) := ⟨true, rfl, ⟨fun _ => ⟨by omega, by have := HL0.out; omega, fun j hj => by rw [← HL0.out]; exact HA.out j (by omega)⟩, fun _ => rfl⟩, Below.refl _ _⟩
          clear htl
          go_wp2
          go_ret
          first
            | exact HR'.out
            | (simp only [c4, decide_true]; exact HR'.out)
        · have c3 : ¬ (1 : Int) ≤ (n0 : Int) := by omega
          have HR' : Hid (IsP ts wr (.returned (.bool false)) wr) := ⟨false, rfl, ⟨nofun, fun h => by have h1 := h.2.1; have := HL0.out; omega⟩, Below.refl _ _⟩
          clear htl
          go_wp2
          go_ret
          exact HR'.out
  · have c1 : (n : Int) < 1 := by omega
    have HR' : Hid (IsP ts w (.returned (.bool false)) w) := ⟨false, rfl, ⟨nofun, fun h => by have h1 := h.1; have := HX.out.tl; simp only at this; omega⟩, Below.refl _ _⟩
    go_wp2
    go_ret
    exact HR'.out
set_option maxHeartbeats 4000000 in
set_option maxRecDepth 100000 in
/-- linalg.Cost of what is no matrix. -/
theorem Cost_none {w : World} {B T R C : Nat} {ts : List (List (List Int))} {h : Hdr} (H : HR R (HR C (EZ 1 3)) w B T ts h) (hR : R ≤ 5) (hC : C ≤ 5) (hM : ¬ Mtx ts) :
    Calls Tryz.prog 8 #[.slice h.p h.n h.c] w fun e w' => e = .returned (.int .i64 0) ∧ Below w.heap.size w w' := by
  have hi := isMatrix_any H hR hC
  obtain ⟨p, n, nc⟩ := h
  simp only at hi ⊢
  clear H
  go_enter Tryz.func8, Tryz.ntmps8
  go_wp2_with fail
  refine hi.mono ?_
  rintro e w1 ⟨b, rfl, hb, hB1⟩
  obtain rfl : b = false := by
    cases b with
    | false => rfl
    | true => exact absurd (hb.1 rfl) hM
  have HB1 : Hid (Below w.heap.size w w1) := hB1
  clear hi hb hB1 hM
  go_wp2
  go_ret
  exact ⟨rfl, HB1.out⟩
set_option maxHeartbeats 4000000 in
set_option maxRecDepth 100000 in
/-- linalg.Null of what is no matrix. -/
theorem Null_none {w : World} {B T R C : Nat} {ts : List (List (List Int))} {h : Hdr} (H : HR R (HR C (EZ 1 3)) w B T ts h) (hR : R ≤ 5) (hC : C ≤ 5) (hM : ¬ Mtx ts) :
    Calls Tryz.prog 9 #[.slice h.p h.n h.c] w fun e w' => e = .returned (.tuple #[.slice none 0 0, .slice none 0 0, .slice none 0 0, .int .i64 1]) ∧ Below w.heap.size w w' := by
  have hi := isMatrix_any H hR hC
  obtain ⟨p, n, nc⟩ := h
  simp only at hi ⊢
  clear H
  go_enter Tryz.func9, Tryz.ntmps9
  go_wp2_with fail
  refine hi.mono ?_
  rintro e w1 ⟨b, rfl, hb, hB1⟩
  obtain rfl : b = false := by
    cases b with
    | false => rfl
    | true => exact absurd (hb.1 rfl) hM
  have HB1 : Hid (Below w.heap.size w w1) := hB1
  clear hi hb hB1 hM
  go_wp2
  refine bodyPost_ret (v := .tuple #[.slice none 0 0, .slice none 0 0, .slice none 0 0, .int .i64 1]) (by simp [results, Tryz.results9, go_sem]) rfl ?_
  exact ⟨rfl, HB1.out⟩
end Go.Proofs.YtlhgpejapmpcmaaGreatDoor
/-
  What a function leaves that writes into two rows.
-/
namespace Go.Proofs.YtlhgpejapmpcmaaGreatDoor
open Go.RowKit
set_option linter.unusedVariables false
set_option linter.unusedSimpArgs false

/-- All but the blocks g and h is as it was. -/
structure Kp (g h : Nat) (w w' : World) : Prop where
  block : ∀ k, k < w.heap.size → k ≠ g → k ≠ h → w'.heap[k]? = w.heap[k]?
  os : w'.os = w.os
  tape : w'.tape = w.tape
  output : w'.output = w.output
  size : w.heap.size ≤ w'.heap.size
theorem Kp.refl (g h : Nat) (w : World) : Kp g h w w := ⟨fun _ _ _ _ => rfl, rfl, rfl, rfl, Nat.le_refl _⟩
theorem Kp.grown {g h x : Nat} {w w1 w2 : World} (k : Kp g h w w1) (hg : w1.grownBy w2 (some x)) (hx : x = g ∨ x = h) : Kp g h w w2 :=
  ⟨fun i hi a b => (hg.block i (Nat.lt_of_lt_of_le hi k.size) (fun e => by cases e; rcases hx with rfl | rfl <;> contradiction)).trans (k.block i hi a b), hg.os.trans k.os, hg.tape.trans k.tape, hg.output.trans k.output, Nat.le_trans k.size hg.size⟩
end Go.Proofs.YtlhgpejapmpcmaaGreatDoor
