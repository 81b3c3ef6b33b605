/-
  upoly.Gcd at 1 + 4x + 4x^2 and 1 + 2x.
-/
import Derived.Test.YtneejidiefkgkaaGreatDoorUsHaHb
import Derived.Test.YtneejidiefkgkaaGreatDoorPvPwUoPx
import Derived.Test.YtneejidiefkgkaaGreatDoorUeUfUg
import Derived.RangeFuncNested
import Derived.RangeFuncBound
import Derived.RangeFuncCalls
import Derived.RangeFuncLeaves
import Derived.Shelf.Abstract
import Derived.Shelf.RegionOpen
import Derived.WalkKit
import Derived.OwnWalkIn
import Derived.TacticsInMore
import Derived.LoopNIn
import Derived.LoopIn
import Derived.Test.YtneejidiefkgkaaGreatDoorUiWiWj
namespace Go.Proofs.YtneejidiefkgkaaGreatDoor
open Go.RowKit
set_option linter.unusedVariables false
set_option linter.unusedSimpArgs false

set_option maxHeartbeats 4000000 in
set_option maxRecDepth 100000 in
/-- upoly.Gcd at the two polynomials. -/
theorem uGcd_start {w : World} {K L : Nat} {p q : Option Addr} {n nc m mc : Nat} {es fs : List Ent} (h : PA w K p n nc es [1, 4, 4]) (hb : PA w L q m mc fs [1, 2]) (hK : K < 80) (hL : L < 50) (hK1 : 1 ≤ K) (hL1 : 1 ≤ L) :
    Calls Tryz.prog 14 #[.slice p n nc, .slice q m mc] w (PnP [1, 2] (1 + L) w) := by
  have hn := h.zl
  have hm := hb.zl
  have hn9 : n ≤ 9 := by rw [← hn]; decide
  have hm9 : m ≤ 9 := by rw [← hm]; decide
  have HN : Hid (([1, 4, 4] : List Int).length = n ∧ ([1, 2] : List Int).length = m) := ⟨hn, hm⟩
  clear hn hm
  have ta : tr [1, 4, 4] = [1, 4, 4] := by decide
  have tb : tr [1, 2] = [1, 2] := by decide
  have hra := read_any K p n nc es _ w h (by omega) (by omega)
  rw [ta] at hra
  go_enter Tryz.func14, Tryz.ntmps14
  go_wp2_with fail
  refine hra.mono ?_
  rintro r w1 ⟨p1, n1, es1, rfl, h1, hb1⟩
  have hn1 := h1.zl
  have l1 : 1 ≤ n1 := by rw [← hn1]; decide
  have l2 : n1 ≤ 9 := by rw [← hn1]; decide
  clear hra hn1
  go_wp2_with fail
  refine (parts_any h1 (by omega) l1 (by omega) hK1).mono ?_
  rintro r w2 ⟨u2, p2, n2, es2, rfl, hu2, h2, hb2⟩
  have e1 : gcdl [1, 4, 4] = 1 := by decide
  have e2 : prml [1, 4, 4] = [1, 4, 4] := by decide
  rw [e1] at hu2
  rw [e2] at h2
  have hal := bel_al (o := .cells #[.bool u2.s, .slice u2.p u2.n u2.c] 47) (Below.refl w2.heap.size w2)
  have hX2 : Bx (w2.alloc (.cells #[.bool u2.s, .slice u2.p u2.n u2.c] 47)) w2.heap.size (.bool u2.s) (.slice u2.p u2.n u2.c) := Bx.new _ _ _ rfl
  have hB2 := bnext' (bnext' hb1 hb2) hal
  have hu3 := hu2.below hal
  have h3 := h2.below hal
  have hrb := read_any L q m mc fs _ (w2.alloc (.cells #[.bool u2.s, .slice u2.p u2.n u2.c] 47)) (hb.below hB2) (by omega) (by omega)
  rw [tb] at hrb
  clear h1 hb1 hb2 hal hu2 h2 e1 e2
  go_wp2_with fail
  generalize w2.alloc (.cells #[.bool u2.s, .slice u2.p u2.n u2.c] 47) = W2 at *
  refine hrb.mono ?_
  rintro r w3 ⟨p4, n4, es4, rfl, h4, hb3⟩
  have hn4 := h4.zl
  have l3 : 1 ≤ n4 := by rw [← hn4]; decide
  have l4 : n4 ≤ 9 := by rw [← hn4]; decide
  clear hrb hn4
  go_wp2_with fail
  refine (parts_any h4 (by omega) l3 (by omega) hL1).mono ?_
  rintro r w4 ⟨u5, p5, n5, es5, rfl, hu5, h5, hb4⟩
  have e1 : gcdl [1, 2] = 1 := by decide
  have e2 : prml [1, 2] = [1, 2] := by decide
  rw [e1] at hu5
  rw [e2] at h5
  have hb34 := bnext' hb3 hb4
  have hal := bel_al (o := .cells #[.bool u5.s, .slice u5.p u5.n u5.c] 47) (Below.refl w4.heap.size w4)
  have hX5 : Bx (w4.alloc (.cells #[.bool u5.s, .slice u5.p u5.n u5.c] 47)) w4.heap.size (.bool u5.s) (.slice u5.p u5.n u5.c) := Bx.new _ _ _ rfl
  have hX6 := (hX2.later hb34).later hal
  have hB6 := bnext' (bnext' hB2 hb34) hal
  have hu6 := (hu3.below hb34).below hal
  have hu7 := hu5.below hal
  have h6 := (h3.below hb34).below hal
  have h7 := h5.below hal
  have hn2 : n2 = 3 := by have := h6.zl; rw [← this]; rfl
  have hn5 : n5 = 2 := by have := h7.zl; rw [← this]; rfl
  subst hn2 hn5
  clear h3 hu3 hX2 hB2 h4 hb3 hb4 hb34 hal hu5 h5 e1 e2
  go_wp2_with fail
  generalize w4.alloc (.cells #[.bool u5.s, .slice u5.p u5.n u5.c] 47) = W4 at *
  refine (prim_start h6 h7 hK (by omega)).mono ?_
  rintro r w5 ⟨rfl, hb5⟩
  have hX8 := hX6.later hb5
  have hX9 := hX5.later hb5
  obtain ⟨q0, q1, -, -⟩ := id hX8
  obtain ⟨q2, q3, -, -⟩ := id hX9
  have hv2 := (hu6.below hb5).ev (by omega)
  have hv5 := (hu7.below hb5).ev (by omega)
  have hg := Gcd_ev hv2 hv5 (by omega) (by omega)
  have h8 := h7.below hb5
  have hB8 := bnext' hB6 hb5
  clear hX6 hX5 hu6 hu7 h6 h7 hb5 hB6
  go_wp2_with fail
  refine hg.mono ?_
  rintro r w6 ⟨v6, rfl, hv6, hb6⟩
  have hv7 : NV w5.heap.size w6 1 1 v6 := hv6.fit (by decide)
  have hs := uScale_any ((h8.below hb6).pa (by omega) (by omega)) (hv7.ev (by omega)) (by omega) (by omega) (by omega)
  have e3 : tr ((tr [1, 2]).map ((1 : Int) * ·)) = [1, 2] := by decide
  rw [e3] at hs
  have HB : Hid (Below w.heap.size w w6) := bnext' hB8 hb6
  clear hg q0 q1 q2 q3 hX8 hX9 hv6 h8 hB8 hb6 e3 hv2 hv5
  go_wp2_with fail
  refine hs.mono ?_
  rintro r w7 ⟨p8, n8, es8, rfl, h9, hb7⟩
  clear hs
  go_wp2
  go_ret
  exact PnP.from ⟨p8, n8, es8, rfl, h9, hb7⟩ HB.out
end Go.Proofs.YtneejidiefkgkaaGreatDoor
/-
  upoly.Terms.
-/
namespace Go.Proofs.YtneejidiefkgkaaGreatDoor
open Go.RowKit Go.Shelf
set_option linter.unusedVariables false
set_option linter.unusedSimpArgs false

set_option maxHeartbeats 2000000 in
set_option maxRecDepth 100000 in
/-- upoly.Terms: the normal form in a variable of its own, and the closure over it. -/
theorem uTerms_any {w : World} {K : Nat} {p : Option Addr} {n nc : Nat} {es : List Ent} {zs : List Int} (h : PA w K p n nc es zs) (hn : n ≤ 1000000) (hK : K ≤ 1000) :
    Calls Tryz.prog 18 #[.slice p n nc] w fun r w' => ∃ g q m fs, r = .returned (.func (.func 50) #[] #[.pointer (some ⟨g, 0, none⟩)]) ∧ w'.cell? ⟨g, 0, none⟩ = some (.slice q m m) ∧ PN w.heap.size w' K q m fs (tr zs) ∧ Below w.heap.size w w' := by
  go_enter Tryz.func18, Tryz.ntmps18
  go_wp2_with fail
  refine (uNorm_any K p n nc es zs _ h hn hK).mono ?_
  rintro r w1 ⟨q, m, fs, rfl, h1, hb1⟩
  have hal := bel_al (o := .cells #[.slice q m m] 23) (Below.refl w1.heap.size w1)
  have HF : Hid (PN w.heap.size (w1.alloc (.cells #[.slice q m m] 23)) K q m fs (tr zs) ∧ Below w.heap.size w (w1.alloc (.cells #[.slice q m m] 23))) := ⟨h1.below hal, bnext' hb1 hal⟩
  clear h1
  go_wp2
  go_ret
  exact ⟨w1.heap.size, q, m, fs, rfl, by simp [go_sem], HF.out⟩
attribute [local go_sem] Oper.semAt_some
/-- The powers that are there, among the first k. -/
def idx (zs : List Int) (k : Nat) : List Nat := (List.range k).filter fun j => gx zs j ≠ 0
theorem idx_succ (zs : List Int) (k : Nat) : idx zs (k + 1) = if gx zs k = 0 then idx zs k else idx zs k ++ [k] := by
  unfold idx
  rw [List.range_succ, List.filter_append]
  split
  · rename_i h; simp [h]
  · rename_i h; simp [h]
theorem idx_len (zs : List Int) (k : Nat) : (idx zs k).length ≤ k := by
  unfold idx
  exact Nat.le_trans (List.length_filter_le _ _) (by simp)
set_option maxHeartbeats 2000000 in
set_option maxRecDepth 100000 in
/-- The closure of Terms: for every loop body that keeps what lay below w0. -/
theorem terms1_in (n : Nat) (hn : 1 ≤ n) (l Bs : Nat) (w0 : World) {K : Nat} {p : Option Addr} {len : Nat} {es : List Ent} {zs : List Int} (hP : PA w0 K p len len es zs) (hlen : len ≤ 1000000) (hK : K ≤ 1000) (J Jx : List (Nat × Ent) → World → Prop) (hJ : ∀ s A B, J s A → Below A.heap.size A B → J s B)
    (hY : ∀ pre x W, J pre W → pre.length < len → YieldAt Fence.wide (n - 1) Tryz.prog l #[.int .i64 ((x.1 : Nat) : Int), .agg #[.bool x.2.s, .slice x.2.p x.2.n x.2.c]] W fun e W' =>
      (e = .returned (.bool true) ∧ J (pre ++ [x]) W' ∧ Below w0.heap.size W W') ∨ (e = .returned (.bool false) ∧ Jx (pre ++ [x]) W'))
    (W : World) (hW : Below w0.heap.size w0 W) (hBs : W.cell? ⟨Bs, 0, none⟩ = some (.slice p len len)) (h0 : J [] W) :
    CallsIn Fence.wide n Tryz.prog 50 #[.func (.yield l) #[] #[], .pointer (some ⟨Bs, 0, none⟩)] W fun e W' => (∃ v, e = .returned v) ∧
      ((∃ ys, ys.map (·.1) = idx zs len ∧ J ys W') ∨ (∃ pre, Jx pre W')) := by
  refine callsIn_of_wp Tryz.func50 rfl trivial ?_ rfl
  simp only [Tryz.ntmps50, List.size_toArray, List.length_cons, List.length_nil, Nat.reduceAdd, Nat.reduceSub, Array.replicate_succ, Array.replicate_zero, List.push_toArray, List.append_toArray, List.nil_append, List.cons_append]
  have HJ := (show Hid _ from hJ)
  have HY := (show Hid _ from hY)
  clear hJ hY
  gi_wp2
  gi_loopw [3, 4, 7] (fun _ _ i wr => ∃ k : Nat, k ≤ len ∧ i = .int .i64 k ∧ Hid ((∃ ys, ys.map (·.1) = idx zs k ∧ J ys wr) ∧ Below w0.heap.size w0 wr))
    (fun _ _ i _ => len - (intOf i).toNat)
  case atStart => exact ⟨0, Nat.zero_le _, rfl, ⟨[], rfl, h0⟩, hW⟩
  case round =>
    obtain ⟨k, hk, rfl, H⟩ := hrel
    by_cases hlt : k < len
    · obtain ⟨⟨ys, hys, hJs⟩, hB⟩ := H.out
      have hel := hP.el
      have hPr := hP.below hB
      obtain ⟨b, o, hp, hc⟩ := hPr.pl (by omega)
      subst hp
      obtain ⟨c0, c1⟩ := hc k (by omega)
      have hv := hPr.ev k hlt
      have HI : Hid (ys.map (·.1) = idx zs k ∧ J ys wr ∧ Below w0.heap.size w0 wr) := ⟨hys, hJs, hB⟩
      have hli : ys.length ≤ k := by rw [← List.length_map (f := (·.1)), hys]; exact idx_len zs k
      clear H hys hJs hB hPr hc
      gi_wp2_with fail
      have hal := bel_al (o := .cells #[.bool (ge es k).s, .slice (ge es k).p (ge es k).n (ge es k).c] 47) (Below.refl wr.heap.size wr)
      have hX : Bx (wr.alloc (.cells #[.bool (ge es k).s, .slice (ge es k).p (ge es k).n (ge es k).c] 47)) wr.heap.size (.bool (ge es k).s) (.slice (ge es k).p (ge es k).n (ge es k).c) := Bx.new _ _ _ rfl
      have hv1 := hv.below hal
      generalize wr.alloc (.cells #[.bool (ge es k).s, .slice (ge es k).p (ge es k).n (ge es k).c] 47) = W1 at *
      refine ⟨trivial, (callsIn_wide.2 (Sign_ev hv1)).mono ?_⟩
      rintro r w2 ⟨rfl, hb2⟩
      have hB2 := bnext' hal hb2
      have hv2 := hv1.below hb2
      obtain ⟨q0, q1, -, -⟩ := hX.later hb2
      clear hX hv1 hal hb2 c0 c1
      have hcs : Hid (gx zs k = 0 ∨ ¬ gx zs k = 0) := Classical.em _
      rcases hcs.out with hz | hz
      · rw [isgn_zero hz]
        have HZ : Hid (idx zs (k + 1) = idx zs k) := by show _ = _; rw [idx_succ, if_pos hz]
        clear hz hcs hv2
        gi_wp2
        refine ⟨trivial, ?_⟩
        gi_wp2
        refine ⟨fun _ h => (by cases h), ?_⟩
        gi_wp2
        go_roundw
        case rel => exact ⟨k + 1, by omega, by simp, ⟨ys, by rw [HZ.out]; exact HI.out.1, HJ.out _ _ _ HI.out.2.1 hB2⟩, HI.out.2.2.trans (hB2.mono HI.out.2.2.size)⟩
        case measure => simp [intOf]; omega
      · have HZ : Hid (idx zs (k + 1) = idx zs k ++ [k]) := by show _ = _; rw [idx_succ, if_neg hz]
        have hi : isgn (gx zs k) = 1 ∨ isgn (gx zs k) = -1 := by
          rcases (show 0 < gx zs k ∨ gx zs k < 0 by omega) with h | h
          · exact .inl (isgn_pos h)
          · exact .inr (isgn_neg h)
        have ho := own_any hv2 hK
        clear hz hcs
        rcases hi with hi | hi
        all_goals
          rw [hi]
          gi_wp2_with fail
          refine ⟨trivial, (callsIn_wide.2 ho).mono ?_⟩
          rintro r w3 ⟨f, rfl, hf, hb3⟩
          have hB3 := bnext' hB2 hb3
          obtain ⟨fn, tmps, assign, body, hy, hR⟩ := HY.out ys (k, f) w3 (HJ.out _ _ _ HI.out.2.1 hB3) (by omega)
          dsimp only at hy
          gi_wp2_with fail
          refine hR.mono ?_
          rintro e W3 (⟨rfl, hJ3, hk3⟩ | ⟨rfl, hJx3⟩)
          · have HF : Hid ((ys ++ [(k, f)]).map (·.1) = idx zs (k + 1) ∧ J (ys ++ [(k, f)]) W3 ∧ Below w0.heap.size w0 W3) := ⟨by rw [List.map_append, HI.out.1, HZ.out]; rfl, hJ3, (HI.out.2.2.trans (hB3.mono HI.out.2.2.size)).trans hk3⟩
            clear hJ3 hk3 hR hy q0 q1
            gi_wp2
            go_roundw
            case rel => exact ⟨k + 1, by omega, by simp, ⟨_, HF.out.1, HF.out.2.1⟩, HF.out.2.2⟩
            case measure => simp [intOf]; omega
          · have HF : Hid (Jx (ys ++ [(k, f)]) W3) := hJx3
            clear hJx3 hR hy q0 q1
            gi_wp2
            refine bodyPost_ret (results_none rfl _ _ _) rfl ?_
            exact ⟨⟨_, rfl⟩, .inr ⟨_, HF.out⟩⟩
    · obtain rfl : k = len := by omega
      gi_wp2
      go_end0
      exact ⟨⟨_, rfl⟩, .inl H.out.1⟩
/-- What a range over Terms may count on. -/
theorem terms_stops (n : Nat) (hn : 1 ≤ n) (Bs : Nat) (w0 : World) {K : Nat} {p : Option Addr} {len : Nat} {es : List Ent} {zs : List Int} (hP : PA w0 K p len len es zs) (hlen : len ≤ 1000000) (hK : K ≤ 1000) (hBs : w0.cell? ⟨Bs, 0, none⟩ = some (.slice p len len)) :
    SeqStopsK Fence.wide n Tryz.prog 50 #[.pointer (some ⟨Bs, 0, none⟩)] (fun x : Nat × Ent => #[Value.int .i64 ((x.1 : Nat) : Int), .agg #[.bool x.2.s, .slice x.2.p x.2.n x.2.c]]) (Below w0.heap.size) (fun ys => ys.map (·.1) = idx zs len) (fun _ => True) len w0 := fun l J Jx W hW hJ _ hY h0 => by
  refine (terms1_in n hn l Bs w0 hP hlen hK J Jx (fun s A B hs hb => hJ s A B none hs (grownBy_below hb none) (fun r e => by cases e)) hY W hW (cell_later hW hBs) h0).mono ?_
  rintro e W' ⟨he, h | ⟨pre, h⟩⟩
  · exact ⟨he, .inl h⟩
  · exact ⟨he, .inr ⟨pre, trivial, h⟩⟩
end Go.Proofs.YtneejidiefkgkaaGreatDoor
/-
  upoly.Eq.
-/
namespace Go.Proofs.YtneejidiefkgkaaGreatDoor
open Go.RowKit
set_option linter.unusedVariables false
set_option linter.unusedSimpArgs false

theorem Cmp_ev {w : World} {K L : Nat} {x y : Int} {e f : Ent} (h : EV w K x e) (k : EV w L y f) : Calls Tryz.prog 54 #[.agg #[.bool e.s, .slice e.p e.n e.c], .agg #[.bool f.s, .slice f.p f.n f.c]] w fun r w' => r = .returned (.int .i64 (icmp x y)) ∧ Below w.heap.size w w' := by
  obtain ⟨xs, h1, rfl, h3⟩ := h
  obtain ⟨ys, k1, rfl, k3⟩ := k
  exact Cmp_any e.s f.s e.p f.p e.n e.c f.n f.c xs ys w h1 k1
theorem icmp_dec (x y : Int) : (icmp x y == 0) = decide (x = y) := by
  unfold icmp
  rcases Int.lt_trichotomy x y with h | h | h
  · rw [if_pos h]; simp; omega
  · subst h; simp
  · rw [if_neg (by omega), if_pos h]; simp; omega
set_option maxHeartbeats 2000000 in
set_option maxRecDepth 100000 in
theorem eqSame_any {w : World} {K L : Nat} {x y : Int} {e f : Ent} (h : EV w K x e) (k : EV w L y f) : Calls Tryz.prog 53 #[.agg #[.bool e.s, .slice e.p e.n e.c], .agg #[.bool f.s, .slice f.p f.n f.c]] w fun r w' => r = .returned (.bool (decide (x = y))) ∧ Below w.heap.size w w' := by
  have hd : Hid ((icmp x y == 0) = decide (x = y)) := icmp_dec x y
  go_enter Tryz.func53, Tryz.ntmps53
  go_wp2_with fail
  have hW : Below w.heap.size w ((w.alloc (.cells #[.bool e.s, .slice e.p e.n e.c] 47)).alloc (.cells #[.bool f.s, .slice f.p f.n f.c] 47)) := ((Below.refl _ _).alloc (Nat.le_refl _) _).alloc (by simp) _
  generalize (w.alloc (.cells #[.bool e.s, .slice e.p e.n e.c] 47)).alloc (.cells #[.bool f.s, .slice f.p f.n f.c] 47) = W at *
  refine (Cmp_ev (h.below hW) (k.below hW)).mono ?_
  rintro r w1 ⟨rfl, hb1⟩
  go_wp2
  go_ret
  exact ⟨by rw [hd.out]; rfl, bnext' hW hb1⟩
theorem callSame (args : Array Value) (w' : World) : Sem.run Tryz.prog (callFunc 53 args) w' = .ok (.enter 53 args) w' := by
  have h1 : ¬ Tryz.f53.name = "runtime.NumGoroutine" := of_decide_eq_false (by kernel_rfl)
  have h2 : ¬ Tryz.f53.body = none := fun h => by cases h
  simp only [callFunc, Tryz.func53, go_sem]
  simp [h1, h2, go_sem]
set_option maxHeartbeats 2000000 in
set_option maxRecDepth 100000 in
/-- slices.EqualFunc. -/
theorem eqFunc_any {w : World} {K L : Nat} {p q : Option Addr} {n nc m mc : Nat} {es fs : List Ent} {zs ys : List Int} (h : PA w K p n nc es zs) (k : PA w L q m mc fs ys) (hn : n ≤ 1000000) (hm : m ≤ 1000000) :
    Calls Tryz.prog 55 #[.slice p n nc, .slice q m mc, .func (.func 53) #[] #[]] w fun r w' => r = .returned (.bool (decide (zs = ys))) ∧ Below w.heap.size w w' := by
  have hel := h.el
  have hfl := k.el
  have hzl := h.zl
  have hyl := k.zl
  by_cases hnm : n = m
  · subst hnm
    go_enter Tryz.func55, Tryz.ntmps55
    go_wp2_with fail
    have hE := callSame
    go_loopw [7, 8, 9, 17] (fun iv av bv kv wr => ∃ j : Nat, j ≤ n ∧ kv = .int .i64 j ∧ Hid ((∀ i, i < j → gx zs i = gx ys i) ∧ Below w.heap.size w wr)) (fun _ _ _ kv _ => n - (intOf kv).toNat)
    case atStart => exact ⟨0, Nat.zero_le _, by go_num, fun i hi => by omega, Below.refl _ _⟩
    case round =>
      obtain ⟨j, hj, rfl, H⟩ := hrel
      rcases Nat.lt_or_ge j n with hlt | hge
      · have hh := h.below H.out.2
        have hk := k.below H.out.2
        have hv := hh.ev j hlt
        have hw := hk.ev j hlt
        obtain ⟨b, o, hp, hc⟩ := hh.pl (by omega)
        obtain ⟨c, r, hq, hd⟩ := hk.pl (by omega)
        subst hp hq
        obtain ⟨c0, c1⟩ := hc j (by omega)
        obtain ⟨d0, d1⟩ := hd j (by omega)
        have sb : b < wr.heap.size := block_lt_of_cell c0
        have sc : c < wr.heap.size := block_lt_of_cell d0
        clear hc hd hh hk
        go_wp2_with fail
        have hal := bel_al (o := .cells #[.bool (ge fs j).s, .slice (ge fs j).p (ge fs j).n (ge fs j).c] 47) (bel_al (o := .cells #[.bool (ge es j).s, .slice (ge es j).p (ge es j).n (ge es j).c] 47) (Below.refl wr.heap.size wr))
        refine (eqSame_any (hv.below hal) (hw.below hal)).mono ?_
        rintro e w1 ⟨rfl, hb1⟩
        have hB := bnext' H.out.2 (bnext' hal hb1)
        have hcs : Hid (gx zs j = gx ys j ∨ ¬ gx zs j = gx ys j) := Classical.em _
        clear c0 c1 d0 d1 hv hw hal hb1 sb sc
        rcases hcs.out with hz | hz
        · rw [decide_eq_true hz]
          have HZ : Hid (gx zs j = gx ys j) := hz
          clear hz hcs
          go_wp2
          go_roundw
          case rel => exact ⟨j + 1, by omega, by go_num, fun i hi => by
            rcases Nat.lt_or_ge i j with h' | h'
            · exact H.out.1 i h'
            · obtain rfl : i = j := by omega
              exact HZ.out, hB⟩
          case measure => simp [intOf]; omega
        · rw [decide_eq_false hz]
          have HD : Hid (decide (zs = ys) = false) := decide_eq_false fun e => hz (by rw [e])
          clear hz hcs
          go_wp2
          go_ret
          exact ⟨by rw [HD.out]; rfl, hB⟩
      · obtain rfl : j = n := by omega
        have HD : Hid (decide (zs = ys) = true) := decide_eq_true (gx_ext _ _ (by omega) fun i hi => H.out.1 i (by omega))
        have hB := H.out.2
        clear hge
        go_wp2
        go_ret
        exact ⟨by rw [HD.out]; rfl, hB⟩
  · have hne : ¬ zs = ys := fun e => hnm (by rw [← hzl, ← hyl, e])
    have HD : Hid (decide (zs = ys) = false) := decide_eq_false hne
    have hI : ((n : Int) != (m : Int)) = true := by rw [bne_iff_ne]; omega
    clear hne hel hfl hzl hyl
    go_enter Tryz.func55, Tryz.ntmps55
    go_wp2
    go_ret
    exact ⟨by rw [HD.out]; rfl, Below.refl _ _⟩
set_option maxHeartbeats 2000000 in
set_option maxRecDepth 100000 in
/-- upoly.Eq. -/
theorem uEq_any {w : World} {K L : Nat} {p q : Option Addr} {n nc m mc : Nat} {es fs : List Ent} {zs ys : List Int} (h : PA w K p n nc es zs) (k : PA w L q m mc fs ys) (hn : n ≤ 1000000) (hm : m ≤ 1000000) :
    Calls Tryz.prog 20 #[.slice p n nc, .slice q m mc] w fun r w' => r = .returned (.bool (decide (tr zs = tr ys))) ∧ Below w.heap.size w w' := by
  have htl := tlen_le zs
  have htl' := tlen_le ys
  have hzl := h.zl
  have hyl := k.zl
  go_enter Tryz.func20, Tryz.ntmps20
  go_wp2_with fail
  refine (utrim_any K p n nc es zs _ h hn).mono ?_
  rintro e w1 ⟨rfl, hb1⟩
  go_wp2_with fail
  refine (utrim_any L q m mc fs ys _ (k.below hb1) hm).mono ?_
  rintro e w2 ⟨rfl, hb2⟩
  have h2 := ((h.below hb1).below hb2).trim
  have k2 := ((k.below hb1).below hb2).trim
  go_wp2_with fail
  refine (eqFunc_any h2 k2 (by omega) (by omega)).mono ?_
  rintro e w3 ⟨rfl, hb3⟩
  go_wp2
  go_ret
  exact ⟨rfl, bnext' (bnext' hb1 hb2) hb3⟩
end Go.Proofs.YtneejidiefkgkaaGreatDoor
/-
  ashlarlaw3.begun.
-/
namespace Go.Proofs.YtneejidiefkgkaaGreatDoor
open Go.RowKit Go.Shelf
set_option linter.unusedVariables false
set_option linter.unusedSimpArgs false
attribute [local go_sem] Oper.semAt_some

theorem eq_nilf (f : Fn) (a b : Array Value) (w : World) : (binOp .eql 42 (.func f a b) .nilFunc).run Tryz.prog w = .ok (.bool false) w := by
  have h : ∀ d : Nat, (Op.equalIn (d + 1) 42 (.func f a b) .nilFunc).run Tryz.prog w = .ok false w := fun d => by
    simp [Op.equalIn, run_underlying Tryz.underlying42]
  simp only [binOp]
  simp [Op.equal, Op.maxDepth, h 9999]
set_option maxHeartbeats 4000000 in
set_option maxRecDepth 100000 in
/-- ashlarlaw3.begun. -/
theorem begun3_any (w : World) : Calls Tryz.prog 5 #[] w fun r w' => r = .returned (.bool true) ∧ Below w.heap.size w w' := by
  refine (callsIn_wide (n := 5)).1 ?_
  refine callsIn_of_wp_marks Tryz.func5 rfl trivial ?_ rfl
  simp only [Tryz.ntmps5, List.size_toArray, List.length_cons, List.length_nil, Nat.reduceAdd, Nat.reduceSub, Array.replicate_succ, Array.replicate_zero, List.push_toArray, List.append_toArray, List.nil_append, List.cons_append]
  gi_wp2_with fail
  have hr0 : Rd (w.alloc (.cells #[.int .i64 1, .int .i64 2] 2)) (some ⟨w.heap.size, 0, none⟩) .i64 [1, 2] := fun _ => ⟨w.heap.size, 0, rfl, fun j hj => by
    rcases (show j = 0 ∨ j = 1 by simp at hj; omega) with rfl | rfl <;> simp [go_sem, gx]⟩
  have hal := bel_al (o := .cells #[.int .i64 1, .int .i64 2] 2) (Below.refl w.heap.size w)
  have hof := uOf_any _ 2 2 [1, 2] _ rfl (by decide) hr0 (fun j => by
    rcases (show j = 0 ∨ j = 1 ∨ 2 ≤ j by omega) with rfl | rfl | h
    · decide
    · decide
    · rw [gx_past [1, 2] 2 (by decide) j h]; decide)
  have e1 : tr [1, 2] = [1, 2] := by decide
  have e2 : tr [1, 4, 4] = [1, 4, 4] := by decide
  rw [e1] at hof
  generalize w.alloc (.cells #[.int .i64 1, .int .i64 2] 2) = W0 at *
  refine ⟨trivial, (callsIn_wide.2 hof).mono ?_⟩
  rintro r w1 ⟨p1, n1, es1, rfl, h1, hb1⟩
  obtain rfl : n1 = 2 := h1.zl.symm
  have hB1 := bnext' hal hb1
  have hpa1 := h1.pa (by decide) (by decide)
  have hmul := uMul_rows hpa1 hpa1 (by decide) (by decide) (by decide) (by decide) (by decide) (by decide) (by rw [e1]; decide) (by rw [e1]; decide) (by rw [e1]; decide)
  have e3 : mulz [1, 2] [1, 2] = [1, 4, 4] := by decide
  rw [e1, e3] at hmul
  clear hr0 hof hal hb1
  gi_wp2_with fail
  refine ⟨trivial, (callsIn_wide.2 hmul).mono ?_⟩
  rintro r w2 ⟨p2, n2, es2, rfl, h2, hb2⟩
  obtain rfl : n2 = 3 := h2.zl.symm
  have hB2 := bnext' hB1 hb2
  have hpa2 := h2.pa (by decide) (by decide)
  have hg := uGcd_start hpa2 (hpa1.below hb2) (by decide) (by decide) (by decide) (by decide)
  clear hmul
  gi_wp2_with fail
  refine ⟨trivial, (callsIn_wide.2 hg).mono ?_⟩
  rintro r w3 ⟨p3, n3, es3, rfl, h3, hb3⟩
  obtain rfl : n3 = 2 := h3.zl.symm
  have hB3 := bnext' hB2 hb3
  have hpa3 := h3.pa (by decide) (by decide)
  have hex := uExact_goes (qs := [1, 2]) (m' := 1) (k := 2) (M := 1) (hpa2.below hb3) ((hpa1.below hb2).below hb3) (by rw [e1, e2]; exact eg_start) (by decide) (by decide) (by decide) (by decide) (by decide)
  clear hg
  gi_wp2_with fail
  refine ⟨trivial, (callsIn_wide.2 hex).mono ?_⟩
  rintro r w4 ⟨p4, es4, rfl, l4, h4, f4, v4, hb4⟩
  have hB4 := bnext' hB3 hb4
  have hpa4 : PA w4 1 p4 2 2 es4 [1, 2] := ⟨l4, rfl, by decide, by decide, fun e => by subst e; obtain ⟨b, o, hp, -⟩ := h4 (by omega); exact absurd hp (by simp), h4, fun j hj => (v4 j hj).ev (by decide)⟩
  have hte := uTerms_any ((hpa2.below hb3).below hb4) (by decide) (by decide)
  rw [e2] at hte
  clear hex h4 f4 v4
  gi_wp2_with fail
  refine ⟨trivial, (callsIn_wide.2 hte).mono ?_⟩
  rintro r w5 ⟨g5, p5, n5, es5, rfl, c5, h5, hb5⟩
  obtain rfl : n5 = 3 := h5.zl.symm
  have hB5 := bnext' hB4 hb5
  have hpa5 := h5.pa (by decide) (by decide)
  have HP : Hid (PA w5 2 p1 2 2 es1 [1, 2] ∧ PA w5 5 p2 3 3 es2 [1, 4, 4] ∧ PA w5 3 p3 2 2 es3 [1, 2] ∧ PA w5 1 p4 2 2 es4 [1, 2] ∧ Below w.heap.size w w5) := ⟨(((hpa1.below hb2).below hb3).below hb4).below hb5, ((hpa2.below hb3).below hb4).below hb5, (hpa3.below hb4).below hb5, hpa4.below hb5, hB5⟩
  clear hte hpa1 hpa2 hpa3 hpa4 h1 h2 h3 h5 hb2 hb3 hb4 hb5 hB1 hB2 hB3 hB4 hB5
  have hnf := eq_nilf
  gi_wp2_with fail
  clear hnf
  have hs : (w5.alloc (.cells #[.int .i64 0] 3)).cell? ⟨w5.heap.size, 0, none⟩ = some (.int .i64 0) ∧ (w5.alloc (.cells #[.int .i64 0] 3)).frozen? ⟨w5.heap.size, 0, none⟩ = false := ⟨by simp [go_sem], by simp [go_sem]⟩
  have hB0 : Below w5.heap.size w5 (w5.alloc (.cells #[.int .i64 0] 3)) := (Below.refl _ _).alloc (Nat.le_refl _) _
  have hst := terms_stops (5 - 1) (by decide) g5 w5 hpa5 (by decide) (by decide) c5
  refine wpIn_rangeFunc_ownF rfl (by decide) (gf := 50) (lb := #[.pointer (some ⟨g5, 0, none⟩)]) rfl trivial (enters_of Tryz.func50 (by kernel_rfl) rfl)
    hst belowK_t (belowK_b (by simp)) hB0 (fun _ => rfl)
    (fun pre W => (W.cell? ⟨w5.heap.size, 0, none⟩ = some (.int .i64 (pre.length : Int)) ∧ W.frozen? ⟨w5.heap.size, 0, none⟩ = false) ∧ Below w5.heap.size w5 W)
    (fun _ _ _ => False)
    (OwnFrom.and (Own.from (fun s A B row hs hg hr => ⟨cell_kept hs.1 hg hr, (frozen_kept hs.1 hg hr).trans hs.2⟩) _) (ownFrom_below (Nat.le_refl _) (by simp)))
    (fun _ _ _ _ _ hs _ _ => hs)
    ⟨⟨hs.1, hs.2⟩, hB0⟩
    ?a1 ?assign ?body ?done ?stop
  case assign =>
    intro l x W K hK
    gi_wp2
    exact hK
  case body =>
    rintro l pre x W ⟨⟨hc, hf⟩, hB⟩ hlt
    gi_wp2
    exact ⟨KeepsOthers.setCell _ _ _, (Below.refl w5.heap.size W).setCell (p := ⟨w5.heap.size, 0, none⟩) (Nat.le_refl _) _, ⟨by rw [List.length_append]; exact World.cell?_setCell_same' _ _ _ (by rw [hc]; rfl), by rw [World.frozen?_setCell]; exact hf⟩, hB.setCell (p := ⟨w5.heap.size, 0, none⟩) (Nat.le_refl _) _⟩
  case done =>
    rintro D ys W hD hys ⟨⟨hc, _⟩, hB⟩ hK
    have hyl : ys.length = 3 := by
      have := congrArg List.length hys
      rw [List.length_map] at this
      rw [this]
      decide
    rw [hyl] at hc
    obtain ⟨a1, a2, a3, a4, hBw⟩ := HP.out
    have b1 := a1.below hB
    have b2 := a2.below hB
    have b3 := a3.below hB
    have b4 := a4.below hB
    have hBW := bnext' hBw hB
    have hDw : w.heap.size ≤ D := by have := hBw.size; simp at hD; omega
    clear HP a1 a2 a3 a4 hBw hB hys hyl hst hs hB0 c5 hpa5 hD e3
    have hdg := uDeg_any _ _ _ _ _ _ W b2 (by decide)
    rw [show ((tlen [1, 4, 4] : Int) - 1) = 2 from by decide] at hdg
    gi_wp2_with fail
    refine ⟨trivial, (callsIn_wide.2 hdg).mono ?_⟩
    rintro r x1 ⟨rfl, hx1⟩
    have h1 := uEq_any (b3.below hx1) (b1.below hx1) (by decide) (by decide)
    rw [decide_eq_true rfl] at h1
    clear hdg
    gi_wp2_with fail
    refine ⟨trivial, (callsIn_wide.2 h1).mono ?_⟩
    rintro r x2 ⟨rfl, hx2⟩
    have hX2 := bnext' hx1 hx2
    have h2 := uEq_any (b4.below hX2) (b1.below hX2) (by decide) (by decide)
    rw [decide_eq_true rfl] at h2
    clear h1
    gi_wp2_with fail
    refine ⟨trivial, (callsIn_wide.2 h2).mono ?_⟩
    rintro r x3 ⟨rfl, hx3⟩
    have hX3 := bnext' hX2 hx3
    have hc3 := cell_later hX3 hc
    have h3 := uAdd_any (b1.below hX3) (b2.below hX3) (by decide) (by decide) (by decide)
    rw [show tr (pz (· + ·) (tr [1, 2]) (tr [1, 4, 4])) = [2, 6, 4] from by decide] at h3
    clear h2
    gi_wp2_with fail
    refine ⟨trivial, (callsIn_wide.2 h3).mono ?_⟩
    rintro r x4 ⟨p6, n6, es6, rfl, h6, hx4⟩
    obtain rfl : n6 = 3 := h6.zl.symm
    have hX4 := bnext' hX3 hx4
    clear h3 h6
    gi_wp2_with fail
    have hR := Row2.new x4 47 (ezs 2)
    have ece : ca2 (ezs 2) = #[.bool false, .slice none 0 0, .bool false, .slice none 0 0] := rfl
    rw [ece] at hR
    have hal := bel_al (o := .cells #[.bool false, .slice none 0 0, .bool false, .slice none 0 0] 47) (Below.refl x4.heap.size x4)
    generalize x4.alloc (.cells #[.bool false, .slice none 0 0, .bool false, .slice none 0 0] 47) = X4 at *
    have hz : PA X4 1 (some ⟨x4.heap.size, 0, none⟩) 2 2 (ezs 2) (zeros 2) := ⟨rfl, rfl, Nat.le_refl _, by decide, fun e => by simp at e, hR.pl, fun j hj => by
      rw [gx_zeros, ge_ezs]
      exact (NV.ez 0 X4 1).ev (by decide)⟩
    have hnm := uNorm_any 1 _ _ _ _ _ X4 hz (by decide) (by decide)
    rw [show tr (zeros 2) = [] from by decide] at hnm
    clear hR ece hz
    refine ⟨trivial, (callsIn_wide.2 hnm).mono ?_⟩
    rintro r x5 ⟨p7, n7, es7, rfl, h7, hx5⟩
    obtain rfl : n7 = 0 := h7.zl.symm
    have hX5 := bnext' (bnext' hX4 hal) hx5
    have hDl : D < W.heap.size := (Array.getElem?_eq_some_iff.1 hK).1
    have hK5 : x5.heap[D]? = some (.deferred (some [])) := (hX5.block D hDl).trans hK
    have HF : Hid (Below w.heap.size w x5) := bnext' hBW hX5
    clear hnm h7 hX4 hal hx5 hX3 hc3 hX2 hx1 hx2 hx3 hx4 b1 b2 b3 b4 hBW hc
    gi_wp2
    refine ⟨by simp, .inl ⟨_, _, rfl, run_takeDeferred hK5, ?_⟩⟩
    exact ⟨_, results_tmp rfl _ _ _, rfl, HF.out.trans (belowK_b (w := w) (Nat.le_refl _) x5 D _ _ hDw hK5 rfl rfl)⟩
  case stop =>
    rintro D c pre W _ _ h _
    exact h.elim
end Go.Proofs.YtneejidiefkgkaaGreatDoor
