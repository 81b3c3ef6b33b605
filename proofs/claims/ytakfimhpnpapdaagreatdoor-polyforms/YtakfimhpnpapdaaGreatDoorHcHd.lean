/-
  upoly.Gcd at 1 + 4x + 4x^2 and 1 + 2x.
-/
import Derived.Test.YtakfimhpnpapdaaGreatDoorUsHaHb
import Derived.Test.YtakfimhpnpapdaaGreatDoorPvPwUoPx
import Derived.Test.YtakfimhpnpapdaaGreatDoorUeUfUg
import Derived.RangeFuncNested
import Derived.RangeFuncBound
import Derived.RangeFuncCalls
import Derived.RangeFuncLeaves
import Derived.Shelf.Abstract
import Derived.Shelf.RegionOpen
import Derived.WalkKit
import Derived.OwnWalkIn
import Derived.TacticsInMore
import Derived.LoopNIn
import Derived.LoopIn
namespace Go.Proofs.YtakfimhpnpapdaaGreatDoor
open Go.RowKit
set_option linter.unusedVariables false
set_option linter.unusedSimpArgs false

set_option maxHeartbeats 4000000 in
set_option maxRecDepth 100000 in
/-- upoly.Gcd at the two polynomials. -/
theorem uGcd_start {w : World} {K L : Nat} {p q : Option Addr} {n nc m mc : Nat} {es fs : List Ent} (h : PA w K p n nc es [1, 4, 4]) (hb : PA w L q m mc fs [1, 2]) (hK : K < 80) (hL : L < 50) (hK1 : 1 ≤ K) (hL1 : 1 ≤ L) :
    Calls Tryz.prog 25 #[.slice p n nc, .slice q m mc] w (PnP [1, 2] (1 + L) w) := by
  have hn := h.zl
  have hm := hb.zl
  have hn9 : n ≤ 9 := by rw [← hn]; decide
  have hm9 : m ≤ 9 := by rw [← hm]; decide
  have HN : Hid (([1, 4, 4] : List Int).length = n ∧ ([1, 2] : List Int).length = m) := ⟨hn, hm⟩
  clear hn hm
  have ta : tr [1, 4, 4] = [1, 4, 4] := by decide
  have tb : tr [1, 2] = [1, 2] := by decide
  have hra := read_any K p n nc es _ w h (by omega) (by omega)
  rw [ta] at hra
  go_enter Tryz.func25, Tryz.ntmps25
  go_wp2_with fail
  refine hra.mono ?_
  rintro r w1 ⟨p1, n1, es1, rfl, h1, hb1⟩
  have hn1 := h1.zl
  have l1 : 1 ≤ n1 := by rw [← hn1]; decide
  have l2 : n1 ≤ 9 := by rw [← hn1]; decide
  clear hra hn1
  go_wp2_with fail
  refine (parts_any h1 (by omega) l1 (by omega) hK1).mono ?_
  rintro r w2 ⟨u2, p2, n2, es2, rfl, hu2, h2, hb2⟩
  have e1 : gcdl [1, 4, 4] = 1 := by decide
  have e2 : prml [1, 4, 4] = [1, 4, 4] := by decide
  rw [e1] at hu2
  rw [e2] at h2
  have hal := bel_al (o := .cells #[.bool u2.s, .slice u2.p u2.n u2.c] 29) (Below.refl w2.heap.size w2)
  have hX2 : Bx (w2.alloc (.cells #[.bool u2.s, .slice u2.p u2.n u2.c] 29)) w2.heap.size (.bool u2.s) (.slice u2.p u2.n u2.c) := Bx.new _ _ _ rfl
  have hB2 := bnext' (bnext' hb1 hb2) hal
  have hu3 := hu2.below hal
  have h3 := h2.below hal
  have hrb := read_any L q m mc fs _ (w2.alloc (.cells #[.bool u2.s, .slice u2.p u2.n u2.c] 29)) (hb.below hB2) (by omega) (by omega)
  rw [tb] at hrb
  clear h1 hb1 hb2 hal hu2 h2 e1 e2
  go_wp2_with fail
  generalize w2.alloc (.cells #[.bool u2.s, .slice u2.p u2.n u2.c] 29) = W2 at *
  refine hrb.mono ?_
  rintro r w3 ⟨p4, n4, es4, rfl, h4, hb3⟩
  have hn4 := h4.zl
  have l3 : 1 ≤ n4 := by rw [← hn4]; decide
  have l4 : n4 ≤ 9 := by rw [← hn4]; decide
  clear hrb hn4
  go_wp2_with fail
  refine (parts_any h4 (by omega) l3 (by omega) hL1).mono ?_
  rintro r w4 ⟨u5, p5, n5, es5, rfl, hu5, h5, hb4⟩
  have e1 : gcdl [1, 2] = 1 := by decide
  have e2 : prml [1, 2] = [1, 2] := by decide
  rw [e1] at hu5
  rw [e2] at h5
  have hb34 := bnext' hb3 hb4
  have hal := bel_al (o := .cells #[.bool u5.s, .slice u5.p u5.n u5.c] 29) (Below.refl w4.heap.size w4)
  have hX5 : Bx (w4.alloc (.cells #[.bool u5.s, .slice u5.p u5.n u5.c] 29)) w4.heap.size (.bool u5.s) (.slice u5.p u5.n u5.c) := Bx.new _ _ _ rfl
  have hX6 := (hX2.later hb34).later hal
  have hB6 := bnext' (bnext' hB2 hb34) hal
  have hu6 := (hu3.below hb34).below hal
  have hu7 := hu5.below hal
  have h6 := (h3.below hb34).below hal
  have h7 := h5.below hal
  have hn2 : n2 = 3 := by have := h6.zl; rw [← this]; rfl
  have hn5 : n5 = 2 := by have := h7.zl; rw [← this]; rfl
  subst hn2 hn5
  clear h3 hu3 hX2 hB2 h4 hb3 hb4 hb34 hal hu5 h5 e1 e2
  go_wp2_with fail
  generalize w4.alloc (.cells #[.bool u5.s, .slice u5.p u5.n u5.c] 29) = W4 at *
  refine (prim_start h6 h7 hK (by omega)).mono ?_
  rintro r w5 ⟨rfl, hb5⟩
  have hX8 := hX6.later hb5
  have hX9 := hX5.later hb5
  obtain ⟨q0, q1, -, -⟩ := id hX8
  obtain ⟨q2, q3, -, -⟩ := id hX9
  have hv2 := (hu6.below hb5).ev (by omega)
  have hv5 := (hu7.below hb5).ev (by omega)
  have hg := Gcd_ev hv2 hv5 (by omega) (by omega)
  have h8 := h7.below hb5
  have hB8 := bnext' hB6 hb5
  clear hX6 hX5 hu6 hu7 h6 h7 hb5 hB6
  go_wp2_with fail
  refine hg.mono ?_
  rintro r w6 ⟨v6, rfl, hv6, hb6⟩
  have hv7 : NV w5.heap.size w6 1 1 v6 := hv6.fit (by decide)
  have hs := uScale_any ((h8.below hb6).pa (by omega) (by omega)) (hv7.ev (by omega)) (by omega) (by omega) (by omega)
  have e3 : tr ((tr [1, 2]).map ((1 : Int) * ·)) = [1, 2] := by decide
  rw [e3] at hs
  have HB : Hid (Below w.heap.size w w6) := bnext' hB8 hb6
  clear hg q0 q1 q2 q3 hX8 hX9 hv6 h8 hB8 hb6 e3 hv2 hv5
  go_wp2_with fail
  refine hs.mono ?_
  rintro r w7 ⟨p8, n8, es8, rfl, h9, hb7⟩
  clear hs
  go_wp2
  go_ret
  exact PnP.from ⟨p8, n8, es8, rfl, h9, hb7⟩ HB.out
end Go.Proofs.YtakfimhpnpapdaaGreatDoor
/-
  upoly.Terms.
-/
namespace Go.Proofs.YtakfimhpnpapdaaGreatDoor
open Go.RowKit Go.Shelf
set_option linter.unusedVariables false
set_option linter.unusedSimpArgs false

set_option maxHeartbeats 2000000 in
set_option maxRecDepth 100000 in
/-- upoly.Terms: the normal form in a variable of its own, and the closure over it. -/
theorem uTerms_any {w : World} {K : Nat} {p : Option Addr} {n nc : Nat} {es : List Ent} {zs : List Int} (h : PA w K p n nc es zs) (hn : n ≤ 1000000) (hK : K ≤ 1000) :
    Calls Tryz.prog 21 #[.slice p n nc] w fun r w' => ∃ g q m fs, r = .returned (.func (.func 45) #[] #[.pointer (some ⟨g, 0, none⟩)]) ∧ w'.cell? ⟨g, 0, none⟩ = some (.slice q m m) ∧ PN w.heap.size w' K q m fs (tr zs) ∧ Below w.heap.size w w' := by
  go_enter Tryz.func21, Tryz.ntmps21
  go_wp2_with fail
  refine (uNorm_any K p n nc es zs _ h hn hK).mono ?_
  rintro r w1 ⟨q, m, fs, rfl, h1, hb1⟩
  have hal := bel_al (o := .cells #[.slice q m m] 23) (Below.refl w1.heap.size w1)
  have HF : Hid (PN w.heap.size (w1.alloc (.cells #[.slice q m m] 23)) K q m fs (tr zs) ∧ Below w.heap.size w (w1.alloc (.cells #[.slice q m m] 23))) := ⟨h1.below hal, bnext' hb1 hal⟩
  clear h1
  go_wp2
  go_ret
  exact ⟨w1.heap.size, q, m, fs, rfl, by simp [go_sem], HF.out⟩
attribute [local go_sem] Oper.semAt_some
/-- The powers that are there, among the first k. -/
def idx (zs : List Int) (k : Nat) : List Nat := (List.range k).filter fun j => gx zs j ≠ 0
theorem idx_succ (zs : List Int) (k : Nat) : idx zs (k + 1) = if gx zs k = 0 then idx zs k else idx zs k ++ [k] := by
  unfold idx
  rw [List.range_succ, List.filter_append]
  split
  · rename_i h; simp [h]
  · rename_i h; simp [h]
theorem idx_len (zs : List Int) (k : Nat) : (idx zs k).length ≤ k := by
  unfold idx
  exact Nat.le_trans (List.length_filter_le _ _) (by simp)
set_option maxHeartbeats 2000000 in
set_option maxRecDepth 100000 in
/-- The closure of Terms: for every loop body that keeps what lay below w0. -/
theorem terms1_in (n : Nat) (hn : 1 ≤ n) (l Bs : Nat) (w0 : World) {K : Nat} {p : Option Addr} {len : Nat} {es : List Ent} {zs : List Int} (hP : PA w0 K p len len es zs) (hlen : len ≤ 1000000) (hK : K ≤ 1000) (J Jx : List (Nat × Ent) → World → Prop) (hJ : ∀ s A B, J s A → Below A.heap.size A B → J s B)
    (hY : ∀ pre x W, J pre W → pre.length < len → YieldAt Fence.wide (n - 1) Tryz.prog l #[.int .i64 ((x.1 : Nat) : Int), .agg #[.bool x.2.s, .slice x.2.p x.2.n x.2.c]] W fun e W' =>
      (e = .returned (.bool true) ∧ J (pre ++ [x]) W' ∧ Below w0.heap.size W W') ∨ (e = .returned (.bool false) ∧ Jx (pre ++ [x]) W'))
    (W : World) (hW : Below w0.heap.size w0 W) (hBs : W.cell? ⟨Bs, 0, none⟩ = some (.slice p len len)) (h0 : J [] W) :
    CallsIn Fence.wide n Tryz.prog 45 #[.func (.yield l) #[] #[], .pointer (some ⟨Bs, 0, none⟩)] W fun e W' => (∃ v, e = .returned v) ∧
      ((∃ ys, ys.map (·.1) = idx zs len ∧ J ys W') ∨ (∃ pre, Jx pre W')) := by
  refine callsIn_of_wp Tryz.func45 rfl trivial ?_ rfl
  simp only [Tryz.ntmps45, List.size_toArray, List.length_cons, List.length_nil, Nat.reduceAdd, Nat.reduceSub, Array.replicate_succ, Array.replicate_zero, List.push_toArray, List.append_toArray, List.nil_append, List.cons_append]
  have HJ := (show Hid _ from hJ)
  have HY := (show Hid _ from hY)
  clear hJ hY
  gi_wp2
  gi_loopw [3, 4, 7] (fun _ _ i wr => ∃ k : Nat, k ≤ len ∧ i = .int .i64 k ∧ Hid ((∃ ys, ys.map (·.1) = idx zs k ∧ J ys wr) ∧ Below w0.heap.size w0 wr))
    (fun _ _ i _ => len - (intOf i).toNat)
  case atStart => exact ⟨0, Nat.zero_le _, rfl, ⟨[], rfl, h0⟩, hW⟩
  case round =>
    obtain ⟨k, hk, rfl, H⟩ := hrel
    by_cases hlt : k < len
    · obtain ⟨⟨ys, hys, hJs⟩, hB⟩ := H.out
      have hel := hP.el
      have hPr := hP.below hB
      obtain ⟨b, o, hp, hc⟩ := hPr.pl (by omega)
      subst hp
      obtain ⟨c0, c1⟩ := hc k (by omega)
      have hv := hPr.ev k hlt
      have HI : Hid (ys.map (·.1) = idx zs k ∧ J ys wr ∧ Below w0.heap.size w0 wr) := ⟨hys, hJs, hB⟩
      have hli : ys.length ≤ k := by rw [← List.length_map (f := (·.1)), hys]; exact idx_len zs k
      clear H hys hJs hB hPr hc
      gi_wp2_with fail
      have hal := bel_al (o := .cells #[.bool (ge es k).s, .slice (ge es k).p (ge es k).n (ge es k).c] 29) (Below.refl wr.heap.size wr)
      have hX : Bx (wr.alloc (.cells #[.bool (ge es k).s, .slice (ge es k).p (ge es k).n (ge es k).c] 29)) wr.heap.size (.bool (ge es k).s) (.slice (ge es k).p (ge es k).n (ge es k).c) := Bx.new _ _ _ rfl
      have hv1 := hv.below hal
      generalize wr.alloc (.cells #[.bool (ge es k).s, .slice (ge es k).p (ge es k).n (ge es k).c] 29) = W1 at *
      refine ⟨trivial, (callsIn_wide.2 (Sign_ev hv1)).mono ?_⟩
      rintro r w2 ⟨rfl, hb2⟩
      have hB2 := bnext' hal hb2
      have hv2 := hv1.below hb2
      obtain ⟨q0, q1, -, -⟩ := hX.later hb2
      clear hX hv1 hal hb2 c0 c1
      have hcs : Hid (gx zs k = 0 ∨ ¬ gx zs k = 0) := Classical.em _
      rcases hcs.out with hz | hz
      · rw [isgn_zero hz]
        have HZ : Hid (idx zs (k + 1) = idx zs k) := by show _ = _; rw [idx_succ, if_pos hz]
        clear hz hcs hv2
        gi_wp2
        refine ⟨trivial, ?_⟩
        gi_wp2
        refine ⟨fun _ h => (by cases h), ?_⟩
        gi_wp2
        go_roundw
        case rel => exact ⟨k + 1, by omega, by simp, ⟨ys, by rw [HZ.out]; exact HI.out.1, HJ.out _ _ _ HI.out.2.1 hB2⟩, HI.out.2.2.trans (hB2.mono HI.out.2.2.size)⟩
        case measure => simp [intOf]; omega
      · have HZ : Hid (idx zs (k + 1) = idx zs k ++ [k]) := by show _ = _; rw [idx_succ, if_neg hz]
        have hi : isgn (gx zs k) = 1 ∨ isgn (gx zs k) = -1 := by
          rcases (show 0 < gx zs k ∨ gx zs k < 0 by omega) with h | h
          · exact .inl (isgn_pos h)
          · exact .inr (isgn_neg h)
        have ho := own_any hv2 hK
        clear hz hcs
        rcases hi with hi | hi
        all_goals
          rw [hi]
          gi_wp2_with fail
          refine ⟨trivial, (callsIn_wide.2 ho).mono ?_⟩
          rintro r w3 ⟨f, rfl, hf, hb3⟩
          have hB3 := bnext' hB2 hb3
          obtain ⟨fn, tmps, assign, body, hy, hR⟩ := HY.out ys (k, f) w3 (HJ.out _ _ _ HI.out.2.1 hB3) (by omega)
          dsimp only at hy
          gi_wp2_with fail
          refine hR.mono ?_
          rintro e W3 (⟨rfl, hJ3, hk3⟩ | ⟨rfl, hJx3⟩)
          · have HF : Hid ((ys ++ [(k, f)]).map (·.1) = idx zs (k + 1) ∧ J (ys ++ [(k, f)]) W3 ∧ Below w0.heap.size w0 W3) := ⟨by rw [List.map_append, HI.out.1, HZ.out]; rfl, hJ3, (HI.out.2.2.trans (hB3.mono HI.out.2.2.size)).trans hk3⟩
            clear hJ3 hk3 hR hy q0 q1
            gi_wp2
            go_roundw
            case rel => exact ⟨k + 1, by omega, by simp, ⟨_, HF.out.1, HF.out.2.1⟩, HF.out.2.2⟩
            case measure => simp [intOf]; omega
          · have HF : Hid (Jx (ys ++ [(k, f)]) W3) := hJx3
            clear hJx3 hR hy q0 q1
            gi_wp2
            refine bodyPost_ret (results_none rfl _ _ _) rfl ?_
            exact ⟨⟨_, rfl⟩, .inr ⟨_, HF.out⟩⟩
    · obtain rfl : k = len := by omega
      gi_wp2
      go_end0
      exact ⟨⟨_, rfl⟩, .inl H.out.1⟩
/-- What a range over Terms may count on. -/
theorem terms_stops (n : Nat) (hn : 1 ≤ n) (Bs : Nat) (w0 : World) {K : Nat} {p : Option Addr} {len : Nat} {es : List Ent} {zs : List Int} (hP : PA w0 K p len len es zs) (hlen : len ≤ 1000000) (hK : K ≤ 1000) (hBs : w0.cell? ⟨Bs, 0, none⟩ = some (.slice p len len)) :
    SeqStopsK Fence.wide n Tryz.prog 45 #[.pointer (some ⟨Bs, 0, none⟩)] (fun x : Nat × Ent => #[Value.int .i64 ((x.1 : Nat) : Int), .agg #[.bool x.2.s, .slice x.2.p x.2.n x.2.c]]) (Below w0.heap.size) (fun ys => ys.map (·.1) = idx zs len) (fun _ => True) len w0 := fun l J Jx W hW hJ _ hY h0 => by
  refine (terms1_in n hn l Bs w0 hP hlen hK J Jx (fun s A B hs hb => hJ s A B none hs (grownBy_below hb none) (fun r e => by cases e)) hY W hW (cell_later hW hBs) h0).mono ?_
  rintro e W' ⟨he, h | ⟨pre, h⟩⟩
  · exact ⟨he, .inl h⟩
  · exact ⟨he, .inr ⟨pre, trivial, h⟩⟩
end Go.Proofs.YtakfimhpnpapdaaGreatDoor
