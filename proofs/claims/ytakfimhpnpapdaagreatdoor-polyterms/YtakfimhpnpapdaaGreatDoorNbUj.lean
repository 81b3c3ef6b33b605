/-
  upoly.Terms for a body that is told what it is handed.
-/
import Derived.Test.YtakfimhpnpapdaaGreatDoorHdNa
import Derived.Test.YtakfimhpnpapdaaGreatDoorUeUfUg
namespace Go.Proofs.YtakfimhpnpapdaaGreatDoor
open Go.RowKit Go.Shelf
set_option linter.unusedVariables false
set_option linter.unusedSimpArgs false
attribute [local go_sem] Oper.semAt_some

/-- What is told: the next power that is there, and its entry. -/
def Told (zs : List Int) (len K B : Nat) (pre : List (Nat × Ent)) (x : Nat × Ent) (W : World) : Prop := pre.map (·.1) = idx zs x.1 ∧ x.1 < len ∧ ¬ gx zs x.1 = 0 ∧ NV B W K (gx zs x.1) x.2
theorem Rd.held {W W' : World} {row : Option Nat} {p : Option Addr} {k : IntKind} {xs : List Int} (h : Rd W p k xs) (hg : W.grownBy W' row) (hr : ∀ r, row = some r → ∃ o : Obj, W.heap[r]? = some o ∧ o.isCells = false) : Rd W' p k xs := fun hp => by
  obtain ⟨b, o, e, hc⟩ := h hp
  exact ⟨b, o, e, fun j hj => cell_kept (hc j hj) hg hr⟩
theorem NV.held {W W' : World} {row : Option Nat} {B K : Nat} {z : Int} {e : Ent} (h : NV B W K z e) (hg : W.grownBy W' row) (hr : ∀ r, row = some r → ∃ o : Obj, W.heap[r]? = some o ∧ o.isCells = false) : NV B W' K z e := by
  obtain ⟨xs, h1, h2⟩ := h
  refine ⟨xs, ⟨h1.len, h1.rd.held hg hr, h1.u, h1.nrm, h1.sg, h1.pn, h1.v, h1.fr, h1.fz.kept hg fun a ha e' => ?_⟩, h2⟩
  obtain ⟨o, ho, hc⟩ := hr a.block e'.symm
  rcases Nat.eq_zero_or_pos e.n with hn | hn
  · rw [h1.pn hn] at ha; cases ha
  · obtain ⟨b, off, hp, hcl⟩ := h1.rd (by rw [h1.len]; exact hn)
    rw [hp] at ha; cases ha
    obtain ⟨o', ho', hc'⟩ := cells_of_cell (hcl 0 (by rw [h1.len]; exact hn))
    rw [ho] at ho'; cases ho'; rw [hc] at hc'; cases hc'
theorem told_own (B : Nat) (zs : List Int) (len K B0 : Nat) (pre : List (Nat × Ent)) (x : Nat × Ent) : OwnFrom B fun (_ : Unit) W => Told zs len K B0 pre x W := fun _ W W' row h hg hr => ⟨h.1, h.2.1, h.2.2.1, h.2.2.2.held hg fun r e => (hr r e).2⟩
set_option maxHeartbeats 2000000 in
set_option maxRecDepth 100000 in
/-- The closure of Terms, for a loop body that is told what it is handed. -/
theorem terms1_told (n : Nat) (hn : 1 ≤ n) (l Bs B0 : Nat) (w0 : World) {K : Nat} {p : Option Addr} {len : Nat} {es : List Ent} {zs : List Int} (hP : PA w0 K p len len es zs) (hlen : len ≤ 1000000) (hK : K ≤ 1000) (J Jx : List (Nat × Ent) → World → Prop) (hJ : ∀ s A B, J s A → Below A.heap.size A B → J s B)
    (hY : ∀ pre x W, J pre W → Told zs len K B0 pre x W → YieldAt Fence.wide (n - 1) Tryz.prog l #[.int .i64 ((x.1 : Nat) : Int), .agg #[.bool x.2.s, .slice x.2.p x.2.n x.2.c]] W fun e W' =>
      (e = .returned (.bool true) ∧ J (pre ++ [x]) W' ∧ Below w0.heap.size W W') ∨ (e = .returned (.bool false) ∧ Jx (pre ++ [x]) W'))
    (W : World) (hW : Below w0.heap.size w0 W) (hB0 : B0 ≤ W.heap.size) (hBs : W.cell? ⟨Bs, 0, none⟩ = some (.slice p len len)) (h0 : J [] W) :
    CallsIn Fence.wide n Tryz.prog 45 #[.func (.yield l) #[] #[], .pointer (some ⟨Bs, 0, none⟩)] W fun e W' => (∃ v, e = .returned v) ∧
      ((∃ ys, ys.map (·.1) = idx zs len ∧ J ys W') ∨ (∃ pre, Jx pre W')) := by
  refine callsIn_of_wp Tryz.func45 rfl trivial ?_ rfl
  simp only [Tryz.ntmps45, List.size_toArray, List.length_cons, List.length_nil, Nat.reduceAdd, Nat.reduceSub, Array.replicate_succ, Array.replicate_zero, List.push_toArray, List.append_toArray, List.nil_append, List.cons_append]
  have HJ := (show Hid _ from hJ)
  have HY := (show Hid _ from hY)
  clear hJ hY
  gi_wp2
  gi_loopw [3, 4, 7] (fun _ _ i wr => ∃ k : Nat, k ≤ len ∧ i = .int .i64 k ∧ Hid ((∃ ys, ys.map (·.1) = idx zs k ∧ J ys wr) ∧ Below w0.heap.size w0 wr ∧ B0 ≤ wr.heap.size))
    (fun _ _ i _ => len - (intOf i).toNat)
  case atStart => exact ⟨0, Nat.zero_le _, rfl, ⟨[], rfl, h0⟩, hW, hB0⟩
  case round =>
    obtain ⟨k, hk, rfl, H⟩ := hrel
    by_cases hlt : k < len
    · obtain ⟨⟨ys, hys, hJs⟩, hB, hs0⟩ := H.out
      have hel := hP.el
      have hPr := hP.below hB
      obtain ⟨b, o, hp, hc⟩ := hPr.pl (by omega)
      subst hp
      obtain ⟨c0, c1⟩ := hc k (by omega)
      have hv := hPr.ev k hlt
      have HI : Hid (ys.map (·.1) = idx zs k ∧ J ys wr ∧ Below w0.heap.size w0 wr) := ⟨hys, hJs, hB⟩
      have hli : ys.length ≤ k := by rw [← List.length_map (f := (·.1)), hys]; exact idx_len zs k
      clear H hys hJs hB hPr hc
      gi_wp2_with fail
      have hal := bel_al (o := .cells #[.bool (ge es k).s, .slice (ge es k).p (ge es k).n (ge es k).c] 29) (Below.refl wr.heap.size wr)
      have hX : Bx (wr.alloc (.cells #[.bool (ge es k).s, .slice (ge es k).p (ge es k).n (ge es k).c] 29)) wr.heap.size (.bool (ge es k).s) (.slice (ge es k).p (ge es k).n (ge es k).c) := Bx.new _ _ _ rfl
      have hv1 := hv.below hal
      generalize wr.alloc (.cells #[.bool (ge es k).s, .slice (ge es k).p (ge es k).n (ge es k).c] 29) = W1 at *
      refine ⟨trivial, (callsIn_wide.2 (Sign_ev hv1)).mono ?_⟩
      rintro r w2 ⟨rfl, hb2⟩
      have hB2 := bnext' hal hb2
      have hv2 := hv1.below hb2
      obtain ⟨q0, q1, -, -⟩ := hX.later hb2
      clear hX hv1 hal hb2 c0 c1
      have hcs : Hid (gx zs k = 0 ∨ ¬ gx zs k = 0) := Classical.em _
      rcases hcs.out with hz | hz
      · rw [isgn_zero hz]
        have HZ : Hid (idx zs (k + 1) = idx zs k) := by show _ = _; rw [idx_succ, if_pos hz]
        clear hz hcs hv2
        gi_wp2
        refine ⟨trivial, ?_⟩
        gi_wp2
        refine ⟨fun _ h => (by cases h), ?_⟩
        gi_wp2
        go_roundw
        case rel => exact ⟨k + 1, by omega, by simp, ⟨ys, by rw [HZ.out]; exact HI.out.1, HJ.out _ _ _ HI.out.2.1 hB2⟩, HI.out.2.2.trans (hB2.mono HI.out.2.2.size), Nat.le_trans hs0 hB2.size⟩
        case measure => simp [intOf]; omega
      · have HZ : Hid (idx zs (k + 1) = idx zs k ++ [k]) := by show _ = _; rw [idx_succ, if_neg hz]
        have hi : isgn (gx zs k) = 1 ∨ isgn (gx zs k) = -1 := by
          rcases (show 0 < gx zs k ∨ gx zs k < 0 by omega) with h | h
          · exact .inl (isgn_pos h)
          · exact .inr (isgn_neg h)
        have ho := own_any hv2 hK
        have HN : Hid (¬ gx zs k = 0) := hz
        clear hz hcs
        rcases hi with hi | hi
        all_goals
          rw [hi]
          gi_wp2_with fail
          refine ⟨trivial, (callsIn_wide.2 ho).mono ?_⟩
          rintro r w3 ⟨f, rfl, hf, hb3⟩
          have hB3 := bnext' hB2 hb3
          obtain ⟨fn, tmps, assign, body, hy, hR⟩ := HY.out ys (k, f) w3 (HJ.out _ _ _ HI.out.2.1 hB3) ⟨HI.out.1, hlt, HN.out, hf.mono (Nat.le_trans hs0 hB2.size)⟩
          dsimp only at hy
          gi_wp2_with fail
          refine hR.mono ?_
          rintro e W3 (⟨rfl, hJ3, hk3⟩ | ⟨rfl, hJx3⟩)
          · have HF : Hid ((ys ++ [(k, f)]).map (·.1) = idx zs (k + 1) ∧ J (ys ++ [(k, f)]) W3 ∧ Below w0.heap.size w0 W3 ∧ B0 ≤ W3.heap.size) := ⟨by rw [List.map_append, HI.out.1, HZ.out]; rfl, hJ3, (HI.out.2.2.trans (hB3.mono HI.out.2.2.size)).trans hk3, Nat.le_trans (Nat.le_trans hs0 hB3.size) hk3.size⟩
            clear hJ3 hk3 hR hy q0 q1
            gi_wp2
            go_roundw
            case rel => exact ⟨k + 1, by omega, by simp, ⟨_, HF.out.1, HF.out.2.1⟩, HF.out.2.2.1, HF.out.2.2.2⟩
            case measure => simp [intOf]; omega
          · have HF : Hid (Jx (ys ++ [(k, f)]) W3) := hJx3
            clear hJx3 hR hy q0 q1
            gi_wp2
            refine bodyPost_ret (results_none rfl _ _ _) rfl ?_
            exact ⟨⟨_, rfl⟩, .inr ⟨_, HF.out⟩⟩
    · obtain rfl : k = len := by omega
      gi_wp2
      go_end0
      exact ⟨⟨_, rfl⟩, .inl H.out.1⟩
end Go.Proofs.YtakfimhpnpapdaaGreatDoor
/-
  upoly.Bits, isZero, weigh.
-/
namespace Go.Proofs.YtakfimhpnpapdaaGreatDoor
open Go.RowKit
set_option linter.unusedVariables false
set_option linter.unusedSimpArgs false

/-- How many bits a number has. -/
def zb (z : Int) : Nat := if z = 0 then 0 else z.natAbs.log2 + 1
theorem zb_ib (z : Int) : IB (zb z) (z.natAbs : Int) := by
  unfold zb
  split
  · rename_i h; subst h; exact ⟨by decide, by decide, .inl rfl⟩
  · rename_i h
    have h0 : z.natAbs ≠ 0 := by omega
    refine ⟨by omega, ?_, .inr ?_⟩
    · have := Nat.lt_log2_self (n := z.natAbs)
      exact_mod_cast this
    · have := Nat.log2_self_le h0
      simp only [Nat.add_sub_cancel]
      exact_mod_cast this
theorem nbits_zb {s : Bool} {xs : List Int} (hU : U32 xs) : nbits xs = (zb (ival s xs) : Int) := by
  obtain ⟨b, hb, hI⟩ := nbits_ib hU
  have e : ((ival s xs).natAbs : Int) = val xs := by
    have := val_nonneg hU
    rw [ival]
    split <;> omega
  have hz := zb_ib (ival s xs)
  rw [e] at hz
  rw [hb, hI.uniq hz]
theorem Bits_ev {w : World} {K : Nat} {z : Int} {e : Ent} (h : EV w K z e) : Calls Tryz.prog 96 #[.agg #[.bool e.s, .slice e.p e.n e.c]] w fun r w' => r = .returned (.int .i64 (zb z)) ∧ Below w.heap.size w w' := by
  obtain ⟨xs, h1, rfl, h3⟩ := h
  rw [← nbits_zb (s := e.s) h1.u]
  exact Bits_any e.s e.p e.n e.c xs w h1
/-- The greatest entry's bits. -/
def pb (zs : List Int) : Nat := zs.foldl (fun m z => max m (zb z)) 0
theorem pb_take (zs : List Int) (j : Nat) (h : j < zs.length) : pb (zs.take (j + 1)) = max (pb (zs.take j)) (zb (gx zs j)) := by
  rw [gx_mem zs j h, List.take_succ_eq_append_getElem h, pb, List.foldl_append]
  rfl
theorem zb_le {w : World} {K : Nat} {z : Int} {e : Ent} (h : EV w K z e) : zb z ≤ 32 * K := by
  obtain ⟨xs, h1, rfl, h3⟩ := h
  obtain ⟨q1, q2, q3⟩ := nbits_len h1.u
  rw [nbits_zb (s := e.s) h1.u] at q3
  have := tlen_le xs
  have := h1.len
  omega
set_option maxHeartbeats 2000000 in
set_option maxRecDepth 100000 in
/-- upoly.isZero. -/
theorem isZero_any {w : World} {K : Nat} {z : Int} {e : Ent} (h : EV w K z e) : Calls Tryz.prog 95 #[.agg #[.bool e.s, .slice e.p e.n e.c]] w fun r w' => r = .returned (.bool (decide (z = 0))) ∧ Below w.heap.size w w' := by
  have hd : Hid ((isgn z == 0) = decide (z = 0)) := by
    show (isgn z == 0) = decide (z = 0)
    unfold isgn
    split
    · rename_i h; rw [decide_eq_true h]; rfl
    · rename_i h; rw [decide_eq_false h]; split <;> rfl
  go_enter Tryz.func95, Tryz.ntmps95
  go_wp2_with fail
  have hW : Below w.heap.size w (w.alloc (.cells #[.bool e.s, .slice e.p e.n e.c] 29)) := (Below.refl _ _).alloc (Nat.le_refl _) _
  generalize w.alloc (.cells #[.bool e.s, .slice e.p e.n e.c] 29) = W at *
  refine (Sign_ev (h.below hW)).mono ?_
  rintro r w1 ⟨rfl, hb1⟩
  go_wp2
  go_ret
  exact ⟨by rw [hd.out]; rfl, bnext' hW hb1⟩
set_option maxHeartbeats 2000000 in
set_option maxRecDepth 100000 in
/-- upoly.Bits. -/
theorem uBits_any {w : World} {K : Nat} {p : Option Addr} {n nc : Nat} {es : List Ent} {zs : List Int} (h : PA w K p n nc es zs) (hn : n ≤ 1000000) (hK : K ≤ 1000) :
    Calls Tryz.prog 101 #[.slice p n nc] w fun r w' => r = .returned (.int .i64 (pb zs)) ∧ pb zs ≤ 32 * K ∧ Below w.heap.size w w' := by
  have hel := h.el
  have hzl := h.zl
  go_enter Tryz.func101, Tryz.ntmps101
  go_wp2_with fail
  go_loopw [3, 5, 8] (fun mv cv kv wr => ∃ j : Nat, j ≤ n ∧ kv = .int .i64 j ∧ mv = .int .i64 (pb (zs.take j)) ∧ Hid (pb (zs.take j) ≤ 32 * K ∧ Below w.heap.size w wr)) (fun _ _ kv _ => n - (intOf kv).toNat)
  case atStart => exact ⟨0, Nat.zero_le _, by go_num, by simp [pb], by simp [pb], Below.refl _ _⟩
  case round =>
    obtain ⟨j, hj, rfl, rfl, H⟩ := hrel
    rcases Nat.lt_or_ge j n with hlt | hge
    · have hh := h.below H.out.2
      have hv := hh.ev j hlt
      obtain ⟨b, o, hp, hc⟩ := hh.pl (by omega)
      subst hp
      obtain ⟨c0, c1⟩ := hc j (by omega)
      have hz := zb_le hv
      have HT : Hid (pb (zs.take (j + 1)) = max (pb (zs.take j)) (zb (gx zs j))) := pb_take zs j (by omega)
      clear hc hh
      go_wp2_with fail
      have hal := bel_al (o := .cells #[.bool (ge es j).s, .slice (ge es j).p (ge es j).n (ge es j).c] 29) (Below.refl wr.heap.size wr)
      refine (Bits_ev (hv.below hal)).mono ?_
      rintro e w1 ⟨rfl, hb1⟩
      have hB := bnext' H.out.2 (bnext' hal hb1)
      have hmx : max (pb (zs.take j) : Int) (zb (gx zs j) : Int) = ((pb (zs.take (j + 1)) : Nat) : Int) := by rw [HT.out]; omega
      clear c0 c1 hv hal hb1
      go_wp2
      go_roundw
      case rel => exact ⟨j + 1, by omega, by go_num, rfl, by rw [HT.out]; have := H.out.1; omega, hB⟩
      case measure => simp [intOf]; omega
    · obtain rfl : j = n := by omega
      have HT : Hid (zs.take j = zs) := List.take_of_length_le (by omega)
      clear hge
      go_wp2
      go_ret
      obtain ⟨h1, h2⟩ := H.out
      rw [HT.out] at h1
      exact ⟨by rw [HT.out]; rfl, h1, h2⟩
/-- How many limbs a number has. -/
def zl (z : Int) : Nat := (zb z + 31) / 32
def cnt (zs : List Int) : Nat := zs.foldl (fun m z => if z = 0 then m else m + 1) 0
def sl (zs : List Int) : Nat := zs.foldl (fun m z => m + zl z) 0
theorem cnt_take (zs : List Int) (j : Nat) (h : j < zs.length) : cnt (zs.take (j + 1)) = if gx zs j = 0 then cnt (zs.take j) else cnt (zs.take j) + 1 := by
  rw [gx_mem zs j h, List.take_succ_eq_append_getElem h, cnt, List.foldl_append]
  rfl
theorem sl_take (zs : List Int) (j : Nat) (h : j < zs.length) : sl (zs.take (j + 1)) = sl (zs.take j) + zl (gx zs j) := by
  rw [gx_mem zs j h, List.take_succ_eq_append_getElem h, sl, List.foldl_append]
  rfl
theorem EN.zl {w : World} {K : Nat} {z : Int} {e : Ent} (h : EN w K z e) : e.n = zl z ∧ zl z ≤ K := by
  obtain ⟨xs, h1, rfl, h3, h4, h5⟩ := h
  obtain ⟨q1, q2, q3⟩ := nbits_len h1.u
  rw [nbits_zb (s := e.s) h1.u] at q1
  have : Go.Proofs.YtakfimhpnpapdaaGreatDoor.zl (ival e.s xs) = e.n := by unfold Go.Proofs.YtakfimhpnpapdaaGreatDoor.zl; omega
  exact ⟨this.symm, by omega⟩
set_option maxHeartbeats 2000000 in
set_option maxRecDepth 100000 in
/-- upoly.weigh. -/
theorem weigh_any {B : Nat} {w : World} {K : Nat} {p : Option Addr} {n : Nat} {es : List Ent} {zs : List Int} (h : PB B w K p n es zs) (hn : n ≤ 1000000) (hK : K ≤ 1000) :
    Calls Tryz.prog 103 #[.slice p n n] w fun r w' => r = .returned (.tuple #[.int .i64 (cnt zs), .int .i64 (sl zs)]) ∧ cnt zs ≤ n ∧ sl zs ≤ n * K ∧ Below w.heap.size w w' := by
  have hel := h.el
  have hzl := h.zl
  go_enter Tryz.func103, Tryz.ntmps103
  go_wp2_with fail
  go_loopw [4, 5, 7, 10] (fun nv sv cv kv wr => ∃ j : Nat, j ≤ n ∧ kv = .int .i64 j ∧ nv = .int .i64 (cnt (zs.take j)) ∧ sv = .int .i64 (sl (zs.take j)) ∧ Hid (cnt (zs.take j) ≤ j ∧ sl (zs.take j) ≤ j * K ∧ Below w.heap.size w wr)) (fun _ _ _ kv _ => n - (intOf kv).toNat)
  case atStart => exact ⟨0, Nat.zero_le _, by go_num, by simp [cnt], by simp [sl], by simp [cnt], by simp [sl], Below.refl _ _⟩
  case round =>
    obtain ⟨j, hj, rfl, rfl, rfl, H⟩ := hrel
    rcases Nat.lt_or_ge j n with hlt | hge
    · have hh := h.below H.out.2.2
      have hv := hh.ev j hlt
      obtain ⟨b, o, hp, hc⟩ := hh.pl (by omega)
      subst hp
      obtain ⟨c0, c1⟩ := hc j (by omega)
      obtain ⟨z1, z2⟩ := hv.zl
      have HT : Hid (cnt (zs.take (j + 1)) = (if gx zs j = 0 then cnt (zs.take j) else cnt (zs.take j) + 1)) := cnt_take zs j (by omega)
      have HS : Hid (sl (zs.take (j + 1)) = sl (zs.take j) + zl (gx zs j)) := sl_take zs j (by omega)
      have hjK : Hid (sl (zs.take j) + zl (gx zs j) ≤ (j + 1) * K) := by
        show _ ≤ _
        have := H.out.2.1
        rw [Nat.add_mul]
        omega
      have hle1 : cnt (zs.take j) ≤ 1000000 := by have := H.out.1; omega
      have hle2 : sl (zs.take j) ≤ 1000000000 := by
        have h1 := H.out.2.1
        have h2 : j * K ≤ 1000000 * 1000 := Nat.mul_le_mul (by omega) hK
        omega
      rw [z1] at c1
      have hvn : EV wr K (gx zs j) (ge es j) := hv.ev
      have v1 : IntKind.i64.wrap ((sl (zs.take j) : Int) + (zl (gx zs j) : Int)) = ((sl (zs.take (j + 1)) : Nat) : Int) := by rw [IntKind.wrap_i64, HS.out]; omega
      have v2 : IntKind.i64.wrap ((cnt (zs.take j) : Int) + 1) = (cnt (zs.take j) : Int) + 1 := by rw [IntKind.wrap_i64]; omega
      clear hc hh hv
      have HB0 : Hid (Below w.heap.size w wr) := H.out.2.2
      have HC : Hid (cnt (zs.take j) ≤ j) := H.out.1
      go_wp2_with fail
      have hal := bel_al (o := .cells #[.bool (ge es j).s, .slice (ge es j).p (zl (gx zs j)) (ge es j).c] 29) (Below.refl wr.heap.size wr)
      have hz0 := isZero_any (hvn.below hal)
      rw [z1] at hz0
      refine hz0.mono ?_
      rintro e w1 ⟨rfl, hb1⟩
      have hB := bnext' HB0.out (bnext' hal hb1)
      have hcs : Hid (gx zs j = 0 ∨ ¬ gx zs j = 0) := Classical.em _
      clear hz0 c0 c1 hvn hal hb1 H
      rcases hcs.out with hz | hz
      · rw [decide_eq_true hz]
        have HE : Hid (cnt (zs.take (j + 1)) = cnt (zs.take j)) := by show _ = _; rw [HT.out, if_pos hz]
        clear hz hcs
        go_wp2
        go_roundw
        case rel => exact ⟨j + 1, by omega, by go_num, by rw [HE.out], rfl, by rw [HE.out]; have := HC.out; omega, by rw [HS.out]; exact hjK.out, hB⟩
        case measure => simp [intOf]; omega
      · rw [decide_eq_false hz]
        have HE : Hid (cnt (zs.take (j + 1)) = cnt (zs.take j) + 1) := by show _ = _; rw [HT.out, if_neg hz]
        clear hz hcs
        go_wp2
        go_roundw
        case rel => exact ⟨j + 1, by omega, by go_num, by rw [HE.out]; rfl, rfl, by rw [HE.out]; have := HC.out; omega, by rw [HS.out]; exact hjK.out, hB⟩
        case measure => simp [intOf]; omega
    · obtain rfl : j = n := by omega
      have HT : Hid (zs.take j = zs) := List.take_of_length_le (by omega)
      clear hge
      go_wp2
      go_ret2
      obtain ⟨h1, h2, h3⟩ := H.out
      rw [HT.out] at h1 h2
      exact ⟨by rw [HT.out]; rfl, h1, h2, h3⟩
end Go.Proofs.YtakfimhpnpapdaaGreatDoor
