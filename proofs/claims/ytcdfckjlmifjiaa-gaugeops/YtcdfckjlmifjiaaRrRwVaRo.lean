/-
  Reference numbers with their values and a bound of their size.
-/
import Derived.Test.YtcdfckjlmifjiaaReRxRfRhCq
import Derived.Test.YtcdfckjlmifjiaaAaWhNjUb
import Derived.Test.YtcdfckjlmifjiaaUaOfVg
namespace Go.Proofs.Ytcdfckjlmifjiaa
open Go.RowKit
set_option linter.unusedVariables false
set_option linter.unusedSimpArgs false

/-- A reference number of the value z, of at most N digits. -/
def RV (w : World) (N : Nat) (z : Int) (s : Bool) (p : Option Addr) (n : Nat) : Prop := ∃ ds, RN w s p n ds ∧ rval s ds = z ∧ n ≤ N
def RVP (N : Nat) (z : Int) (w : World) (e : Ending) (w' : World) : Prop :=
  ∃ s p n, e = .returned (.agg #[.bool s, .slice p n n]) ∧ RV w' N z s p n ∧ Go.Proofs.Ytcdfckjlmifjiaa.From w.heap.size p ∧ Below w.heap.size w w'
section
variable {w w' : World} {N M K : Nat} {z x y : Int} {s t : Bool} {p q : Option Addr} {n m : Nat}
theorem RV.below (h : RV w N z s p n) (hb : Below w.heap.size w w') : RV w' N z s p n := by
  obtain ⟨ds, h1, h2⟩ := h
  exact ⟨ds, h1.below hb, h2⟩
theorem RV.drew (h : RV w N z s p n) : RV w.drew N z s p n := by
  obtain ⟨ds, h1, h2⟩ := h
  exact ⟨ds, h1.drew, h2⟩
theorem RV.alloc (h : RV w N z s p n) (o : Obj) : RV (w.alloc o) N z s p n := by
  obtain ⟨ds, h1, h2⟩ := h
  exact ⟨ds, h1.alloc o, h2⟩
theorem RV.off (h : RV w N z s p n) {g : Nat} (hg : w.heap.size ≤ g) : 0 < n → Off g p := by
  obtain ⟨ds, h1, h2⟩ := h
  exact fun hn => h1.rd.off hg (by rw [h1.len]; exact hn)
theorem RV.le (h : RV w N z s p n) : n ≤ N := by
  obtain ⟨ds, h1, h2, h3⟩ := h
  exact h3
theorem RV.up (h : RV w N z s p n) (hN : N ≤ M) : RV w M z s p n := by
  obtain ⟨ds, h1, h2, h3⟩ := h
  exact ⟨ds, h1, h2, by omega⟩
theorem RV.of (h : RV w N z s p n) (e : z = x) : RV w N x s p n := e ▸ h
theorem RV.bd (h : RV w N z s p n) : (z.natAbs : Int) < pd N := by
  obtain ⟨ds, h1, rfl, h3⟩ := h
  have a := vd_nonneg h1.u
  have b := vd_lt h1.u
  rw [h1.len] at b
  have c := pd_mono h3
  unfold rval
  split <;> omega
theorem RV.tight (h : RV w N z s p n) (hz : (z.natAbs : Int) < pw K) : RV w (2 * K) z s p n := by
  obtain ⟨ds, h1, rfl, h3⟩ := h
  refine ⟨ds, h1, rfl, ?_⟩
  have a := vd_nonneg h1.u
  have e : ((rval s ds).natAbs : Int) = vd ds := by unfold rval; split <;> omega
  rw [e, ← pd_two] at hz
  rcases Nat.lt_or_ge (2 * K) n with hk | hk
  · have b := vd_pos_of_top h1.u (by rw [h1.nrm]; omega)
    rw [h1.nrm] at b
    have c := pd_mono (show 2 * K ≤ n - 1 by omega)
    omega
  · exact hk
theorem RVP.of {e : Ending} (h : RAns N z w e w') : RVP N z w e w' := by
  obtain ⟨s, p, n, ds, h1, h2, h3, h4, h5, h6⟩ := h
  exact ⟨s, p, n, h1, ⟨ds, h2, h3, h4⟩, h5, h6⟩
end
end Go.Proofs.Ytcdfckjlmifjiaa
/-
  ashlarref1.Sign.
-/
namespace Go.Proofs.Ytcdfckjlmifjiaa
open Go.RowKit
set_option linter.unusedVariables false
set_option linter.unusedSimpArgs false

theorem isgn_rval_zero {s : Bool} {xs : List Int} (hU : U16 xs) (h : tlen xs = 0) : isgn (rval s xs) = 0 := by
  have := (tlen_zero_iff16 hU).1 h
  cases s <;> simp [rval, isgn, this]
theorem isgn_rval {s : Bool} {xs : List Int} (hU : U16 xs) (h : tlen xs ≠ 0) : isgn (rval s xs) = if s then -1 else 1 := by
  have h1 : vd xs ≠ 0 := fun e => h ((tlen_zero_iff16 hU).2 e)
  have h2 := vd_nonneg hU
  cases s
  · simp only [rval, isgn, Bool.false_eq_true, if_false]; rw [if_neg h1, if_neg (by omega)]
  · simp only [rval, isgn, if_true]; rw [if_neg (by omega), if_pos (by omega)]

set_option maxHeartbeats 400000 in
/-- ashlarref1.Sign. -/
theorem rSign_any (s : Bool) (p : Option Addr) (n nc : Nat) (xs : List Int) (w : World) (hU : U16 xs) (tx : tlen xs = n) :
    Calls Try.prog 52 #[.agg #[.bool s, .slice p n nc]] w fun e w' => e = .returned (.int .i64 (isgn (rval s xs))) ∧ Below w.heap.size w w' := by
  by_cases h0 : tlen xs = 0
  · rw [isgn_rval_zero hU h0]
    obtain rfl : n = 0 := by omega
    clear h0 tx
    go_enter Try.func52, Try.ntmps52
    go_wp2
    go_ret
    exact ⟨rfl, (Below.refl _ _).alloc (Nat.le_refl _) _⟩
  · rw [isgn_rval hU h0]
    have h1 : ((n : Int) == 0) = false := beq_eq_false_iff_ne.2 (by omega)
    clear tx
    cases s
    all_goals
      go_enter Try.func52, Try.ntmps52
      go_wp2
      go_ret
      exact ⟨rfl, (Below.refl _ _).alloc (Nat.le_refl _) _⟩

end Go.Proofs.Ytcdfckjlmifjiaa
/-
  Polynomials of the reference: Trim.
-/
namespace Go.Proofs.Ytcdfckjlmifjiaa
open Go.RowKit
set_option linter.unusedVariables false
set_option linter.unusedSimpArgs false

/-- The number of an element of the reference. -/
def RE (w : World) (N : Nat) (z : Int) (e : Ent) : Prop := RV w N z e.s e.p e.n ∧ e.c = e.n
/-- A list of the reference's numbers. -/
structure PR (w : World) (N : Nat) (p : Option Addr) (n nc : Nat) (es : List Ent) (zs : List Int) : Prop where
  el : es.length = n
  zl : zs.length = n
  cap : n ≤ nc
  bnd : nc ≤ maxLen
  pl : PL w p es
  ev : ∀ j, j < n → RE w N (gx zs j) (ge es j)
section
variable {w w' : World} {N : Nat} {z : Int} {e : Ent} {p : Option Addr} {n nc : Nat} {es : List Ent} {zs : List Int}
theorem RE.below (h : RE w N z e) (hb : Below w.heap.size w w') : RE w' N z e := ⟨h.1.below hb, h.2⟩
theorem RE.drew (h : RE w N z e) : RE w.drew N z e := ⟨h.1.drew, h.2⟩
theorem PR.below (h : PR w N p n nc es zs) (hb : Below w.heap.size w w') : PR w' N p n nc es zs := ⟨h.el, h.zl, h.cap, h.bnd, h.pl.below hb, fun j hj => (h.ev j hj).below hb⟩
theorem PR.drew (h : PR w N p n nc es zs) : PR w.drew N p n nc es zs := ⟨h.el, h.zl, h.cap, h.bnd, h.pl.drew, fun j hj => (h.ev j hj).drew⟩
theorem PR.take (h : PR w N p n nc es zs) (m c : Nat) (hm : m ≤ n) (hc : m ≤ c) (hc' : c ≤ nc) : PR w N p m c (es.take m) (zs.take m) :=
  ⟨by have := h.el; simp; omega, by have := h.zl; simp; omega, hc, Nat.le_trans hc' h.bnd, h.pl.take m, fun j hj => by rw [gx_take _ _ _ hj, ge_take _ _ _ hj]; exact h.ev j (by omega)⟩
theorem rSign_e (h : RE w N z e) : Calls Try.prog 52 #[.agg #[.bool e.s, .slice e.p e.n e.c]] w fun r w' => r = .returned (.int .i64 (isgn z)) ∧ Below w.heap.size w w' := by
  obtain ⟨⟨ds, h1, rfl, h3⟩, h4⟩ := h
  rw [h4]
  exact rSign_any e.s e.p e.n e.n ds w h1.u h1.nrm
end
set_option maxHeartbeats 1000000 in
/-- ashlarref3.Trim. -/
theorem rTrim_any (N : Nat) (p : Option Addr) (n nc : Nat) (es : List Ent) (zs : List Int) (w : World) (h : PR w N p n nc es zs) (hn : n ≤ 1000000) :
    Calls Try.prog 27 #[.slice p n nc] w fun e w' => e = .returned (.slice p (tlen zs) (tlen zs)) ∧ Below w.heap.size w w' := by
  have hle := h.el
  go_enter Try.func27, Try.ntmps27
  go_wp2
  go_loopw [3] (fun nv wr => ∃ k : Nat, k ≤ n ∧ nv = .int .i64 k ∧ Hid ((∀ j, k ≤ j → gx zs j = 0) ∧ Below w.heap.size w wr)) (fun nv _ => (intOf nv).toNat)
  case atStart => exact ⟨n, Nat.le_refl _, by go_num, fun j hj => gx_past zs n (by rw [h.zl]; exact Nat.le_refl _) j hj, Below.refl _ _⟩
  case round =>
    obtain ⟨k, hk, rfl, H⟩ := hrel
    rcases Nat.eq_zero_or_pos k with h0 | h0
    · subst h0
      have HT : Hid (tlen zs = 0) := tlen_eq zs 0 (fun j _ => H.out.1 j (Nat.zero_le _)) (.inl rfl)
      go_wp2
      go_ret
      exact ⟨by rw [HT.out]; rfl, H.out.2⟩
    · obtain ⟨i, rfl⟩ : ∃ i, k = i + 1 := ⟨k - 1, by omega⟩
      obtain ⟨H1, H2⟩ := H.out
      have HH : Hid ((∀ j, i + 1 ≤ j → gx zs j = 0) ∧ Below w.heap.size w wr) := ⟨H1, H2⟩
      have hw := h.below H2
      obtain ⟨b, o, hp, hc⟩ := hw.pl (by omega)
      subst hp
      obtain ⟨c0, c1⟩ := hc i (by omega)
      have hv := hw.ev i (by omega)
      have hcap := h.cap
      have hbnd := h.bnd
      unfold maxLen at hbnd
      clear H H1 H2 hc
      go_wp2_with fail
      refine (rSign_e hv).mono ?_
      rintro e w1 ⟨rfl, hb1⟩
      have hB := bnext' HH.out.2 hb1
      have hcs : Hid (gx zs i = 0 ∨ ¬ gx zs i = 0) := Classical.em _
      rcases hcs.out with hz | hz
      · rw [isgn_zero hz]
        have HZ : Hid (gx zs i = 0) := hz
        clear hz hcs c0 c1 hv
        go_wp2
        go_roundw
        case rel => exact ⟨i, by omega, by go_num, fun j hj => by
          rcases Nat.lt_or_ge i j with h | h
          · exact HH.out.1 j h
          · have : j = i := by omega
            subst this; exact HZ.out, hB⟩
        case measure => simp [intOf]
      · have HT : Hid (tlen zs = i + 1) := tlen_eq zs (i + 1) HH.out.1 (.inr hz)
        have hi : isgn (gx zs i) = 1 ∨ isgn (gx zs i) = -1 := by
          rcases (show 0 < gx zs i ∨ gx zs i < 0 by omega) with h | h
          · exact .inl (isgn_pos h)
          · exact .inr (isgn_neg h)
        clear hz hcs c0 c1 hv
        rcases hi with hi | hi
        all_goals
          rw [hi]
          clear hi
          go_wp2
          go_ret
          exact ⟨by rw [HT.out]; rfl, hB⟩
end Go.Proofs.Ytcdfckjlmifjiaa
/-
  ashlarref1.Of.
-/
namespace Go.Proofs.Ytcdfckjlmifjiaa
open Go.RowKit
set_option linter.unusedVariables false
set_option linter.unusedSimpArgs false

set_option maxRecDepth 100000 in
set_option maxHeartbeats 2000000 in
/-- ashlarref1.Of. -/
theorem rOf_neg (a : Int) (w : World) (h0 : 0 < a) (h1 : a ≤ 9223372036854775808) :
    Calls Try.prog 51 #[.int .i64 (-a)] w (RAns 4 (-a) w) := by
  obtain ⟨i0, hi, hzz⟩ := Option.map_eq_some_iff.1 info_int
  simp only [Prod.mk.injEq] at hzz
  obtain ⟨hz0, hz1, hz2⟩ := hzz
  have HI : Hid (Try.prog.info? 3 = some i0 ∧ i0.zero = some (.int .i64 0) ∧ i0.size = 1 ∧ i0.bytes = 8) := ⟨hi, hz0, hz1, hz2⟩
  clear hi hz0 hz1 hz2
  have hcmp : -a < 0 := by omega
  go_enter Try.func51, Try.ntmps51
  go_wp2
  have hb2 : Bx (w.alloc (.cells #[.bool false, .slice none 0 0] 40)) w.heap.size (.bool false) (.slice none 0 0) := Bx.new _ _ _ rfl
  have hbw : Below w.heap.size w (w.alloc (.cells #[.bool false, .slice none 0 0] 40)) := (Below.refl _ _).alloc (Nat.le_refl _) _
  have hsz : (w.alloc (.cells #[.bool false, .slice none 0 0] 40)).heap.size = w.heap.size + 1 := by simp
  generalize (w.alloc (.cells #[.bool false, .slice none 0 0] 40)) = W at *
  have HS : Hid (W.heap.size = w.heap.size + 1) := hsz
  clear hsz
  go_loopw [0, 4, 5] (fun nv dv kv wr => ∃ (k : Nat) (m : Int) (ds : List Int), nv = .int .i64 (-m) ∧ 0 ≤ m ∧ m ≤ 9223372036854775808 ∧ ds.length = k ∧ Hid (a = vd ds + pd k * m ∧ U16 ds ∧ wr.ownsRow W.heap.size 3 1 dv k (ds.map (Value.int .i64)) ∧ Below W.heap.size W wr)) (fun nv _ _ _ => (intOf nv).natAbs)
  case atStart => exact ⟨0, a, [], rfl, by omega, by omega, rfl, by simp [vd, pd_zero], u16_nil, World.ownsRow_nil _ _ _ _, Below.refl _ _⟩
  case round =>
    obtain ⟨k, m, ds, rfl, hm0, hm1, hkl, H⟩ := hrel
    have hBr := H.out.2.2.2
    have HV : Hid (a = vd ds + pd k * m ∧ U16 ds) := ⟨H.out.1, H.out.2.1⟩
    have HO : Hid (wr.ownsRow W.heap.size 3 1 u4 k (ds.map (Value.int .i64))) := H.out.2.2.1
    clear H
    have hb2r := hb2.later hBr
    have HK : Hid (0 < m → k < 4) := fun hm => by
      rcases Nat.lt_or_ge k 4 with h | h
      · exact h
      · exfalso
        have e1 := pd_mono h
        have e2 : pd 4 = 18446744073709551616 := rfl
        have e3 := vd_nonneg HV.out.2
        have e4 : pd k * 1 ≤ pd k * m := Int.mul_le_mul_of_nonneg_left (by omega) (Int.le_of_lt (pd_pos k))
        have e5 := HV.out.1
        omega
    have HL : Hid (ds.length = k) := hkl
    by_cases hlt : 0 < m
    · have hk4 := HK.out hlt
      obtain ⟨hi, hz0, hz1, hz2⟩ := HI.out
      clear hkl
      have q1 : (-m).tmod 65536 = -(m % 65536) := by rw [Int.neg_tmod, Int.tmod_eq_emod_of_nonneg (by omega)]
      have q2 : (-m).tdiv 65536 = -(m / 65536) := by rw [Int.neg_tdiv, Int.tdiv_eq_ediv_of_nonneg (by omega)]
      have q5 : (-m != 0) = true := by rw [bne_iff_ne]; omega
      have hkl := HL.out
      clear hkl
      by_cases hm0 : m % 65536 = 0
      · have q6 : ¬ -(m % 65536) < 0 := by omega
        have q7 : -(m % 65536) = 0 := by omega
        go_wp2_with (refine wpList_append_lies _ rfl _ _ 38 rfl W.heap.size 3 i0 (.int .i64 0) 1 8 Try.underlying38 hi hz0 hz1 hz2 rfl (by decide) u4 k (ds.map (Value.int .i64)) rfl (HO.out.alloc _) ⟨wr.heap.size, 0, none⟩ 1 1 [.int .i64 (0)] rfl rfl ?_ (fun x hx => by simp at hx; subst hx; rfl) (by decide) (by unfold maxLen; omega) (by omega) (by have := hBr.size; simp; omega) _ rfl ?_; exact World.news_of_block (heap_alloc_new wr _); intro g cap w3 hown3 hgrow3 hat3 hlt3; have hB3 : Below W.heap.size W w3 := (bel_alw hBr).grown hgrow3 (by have := hBr.size; simp; omega) (fun q hq => (HO.out.lt q hq).1))
        refine ⟨⟨k + 1, m / 65536, ds ++ [0], by go_num, by omega, by omega, by have := HL.out; simp; omega, ?_, u16_append HV.out.2 (u16_one (by omega)), ?_, hB3⟩, by simp [intOf]; omega⟩
        · rw [vd_append, vd_one, pd_succ, HL.out, HV.out.1]
          have := cut16 (pd k) m
          rw [hm0] at this; omega
        · rw [List.map_append]
          exact hown3
      · have q6 : -(m % 65536) < 0 := by omega
        go_wp2_with (refine wpList_append_lies _ rfl _ _ 38 rfl W.heap.size 3 i0 (.int .i64 0) 1 8 Try.underlying38 hi hz0 hz1 hz2 rfl (by decide) u4 k (ds.map (Value.int .i64)) rfl (HO.out.alloc _) ⟨wr.heap.size, 0, none⟩ 1 1 [.int .i64 (m % 65536)] rfl rfl ?_ (fun x hx => by simp at hx; subst hx; rfl) (by decide) (by unfold maxLen; omega) (by omega) (by have := hBr.size; simp; omega) _ rfl ?_; exact World.news_of_block (heap_alloc_new wr _); intro g cap w3 hown3 hgrow3 hat3 hlt3; have hB3 : Below W.heap.size W w3 := (bel_alw hBr).grown hgrow3 (by have := hBr.size; simp; omega) (fun q hq => (HO.out.lt q hq).1))
        refine ⟨⟨k + 1, m / 65536, ds ++ [m % 65536], by go_num, by omega, by omega, by have := HL.out; simp; omega, ?_, u16_append HV.out.2 (u16_one (by omega)), ?_, hB3⟩, by simp [intOf]; omega⟩
        · rw [vd_append, vd_one, pd_succ, HL.out, HV.out.1]
          have := cut16 (pd k) m
          omega
        · rw [List.map_append]
          exact hown3
    · obtain rfl : m = 0 := by omega
      have hform : ∃ q cap, u4 = .slice q k cap ∧ k ≤ cap ∧ cap ≤ maxLen ∧ Rd wr q .i64 ds ∧ Go.Proofs.Ytcdfckjlmifjiaa.From W.heap.size q := by
        have hown := HO.out
        rcases hown.2 with ⟨h1, h2⟩ | ⟨g, cap, cur, h1, hbg, _, h4, h5, _⟩
        · refine ⟨none, 0, by rw [h1, h2], by omega, Nat.zero_le _, ?_, from_none⟩
          have : ds = [] := List.eq_nil_of_length_eq_zero (by omega)
          rw [this]; exact Rd.nil
        · subst h1
          exact ⟨_, cap, rfl, h4, h5, rd_owns hown, from_new hbg⟩
      obtain ⟨q, cap, rfl, hq1, hq2, hq3, hq4⟩ := hform
      have hva : a = vd ds := by have := HV.out.1; omega
      have HA : Hid (a = vd ds) := hva
      clear hva
      have hq2' := hq2
      unfold maxLen at hq2'
      go_wp2_with fail
      refine (rtrim_any true q k cap ds _ hkl hq1 hq2 hq3).mono ?_
      rintro e w4 ⟨rfl, hb4⟩
      obtain ⟨z0, z1, z2, z3⟩ := resbox hb4 hb2r.c0 hb2r.c1 hb2r.f0 hb2r.f1
      go_wp2
      have hsW := HS.out
      have htl : tlen ds ≤ 4 := by
        rcases Nat.lt_or_ge 4 (tlen ds) with h | h
        · exfalso
          have e1 := vd_pos_of_top HV.out.2 (by omega)
          have e2 : pd 4 ≤ pd (tlen ds - 1) := pd_mono (by omega)
          have e3 : pd 4 = 18446744073709551616 := rfl
          have e5 := HA.out
          omega
        · exact h
      refine bodyPost_ret (v := .agg #[.bool (nsg true ds), .slice q (tlen ds) (tlen ds)]) (by simp [results, Try.results51, go_sem, z0, z1]) rfl ?_
      exact end_rn hbw (Nat.le_refl _) (by omega) hBr hb4 hq3 hq4 HV.out.2 (by omega) (by rw [HA.out]; rfl) htl

set_option maxRecDepth 100000 in
set_option maxHeartbeats 2000000 in
/-- ashlarref1.Of. -/
theorem rOf_pos (a : Int) (w : World) (h0 : 0 ≤ a) (h1 : a ≤ 9223372036854775807) :
    Calls Try.prog 51 #[.int .i64 (a)] w (RAns 4 (a) w) := by
  obtain ⟨i0, hi, hzz⟩ := Option.map_eq_some_iff.1 info_int
  simp only [Prod.mk.injEq] at hzz
  obtain ⟨hz0, hz1, hz2⟩ := hzz
  have HI : Hid (Try.prog.info? 3 = some i0 ∧ i0.zero = some (.int .i64 0) ∧ i0.size = 1 ∧ i0.bytes = 8) := ⟨hi, hz0, hz1, hz2⟩
  clear hi hz0 hz1 hz2
  have hcmp : ¬ a < 0 := by omega
  go_enter Try.func51, Try.ntmps51
  go_wp2
  have hb2 : Bx (w.alloc (.cells #[.bool false, .slice none 0 0] 40)) w.heap.size (.bool false) (.slice none 0 0) := Bx.new _ _ _ rfl
  have hbw : Below w.heap.size w (w.alloc (.cells #[.bool false, .slice none 0 0] 40)) := (Below.refl _ _).alloc (Nat.le_refl _) _
  have hsz : (w.alloc (.cells #[.bool false, .slice none 0 0] 40)).heap.size = w.heap.size + 1 := by simp
  generalize (w.alloc (.cells #[.bool false, .slice none 0 0] 40)) = W at *
  have HS : Hid (W.heap.size = w.heap.size + 1) := hsz
  clear hsz
  go_loopw [0, 4, 5] (fun nv dv kv wr => ∃ (k : Nat) (m : Int) (ds : List Int), nv = .int .i64 (m) ∧ 0 ≤ m ∧ m ≤ 9223372036854775808 ∧ ds.length = k ∧ Hid (a = vd ds + pd k * m ∧ U16 ds ∧ wr.ownsRow W.heap.size 3 1 dv k (ds.map (Value.int .i64)) ∧ Below W.heap.size W wr)) (fun nv _ _ _ => (intOf nv).natAbs)
  case atStart => exact ⟨0, a, [], rfl, by omega, by omega, rfl, by simp [vd, pd_zero], u16_nil, World.ownsRow_nil _ _ _ _, Below.refl _ _⟩
  case round =>
    obtain ⟨k, m, ds, rfl, hm0, hm1, hkl, H⟩ := hrel
    have hBr := H.out.2.2.2
    have HV : Hid (a = vd ds + pd k * m ∧ U16 ds) := ⟨H.out.1, H.out.2.1⟩
    have HO : Hid (wr.ownsRow W.heap.size 3 1 u4 k (ds.map (Value.int .i64))) := H.out.2.2.1
    clear H
    have hb2r := hb2.later hBr
    have HK : Hid (0 < m → k < 4) := fun hm => by
      rcases Nat.lt_or_ge k 4 with h | h
      · exact h
      · exfalso
        have e1 := pd_mono h
        have e2 : pd 4 = 18446744073709551616 := rfl
        have e3 := vd_nonneg HV.out.2
        have e4 : pd k * 1 ≤ pd k * m := Int.mul_le_mul_of_nonneg_left (by omega) (Int.le_of_lt (pd_pos k))
        have e5 := HV.out.1
        omega
    have HL : Hid (ds.length = k) := hkl
    by_cases hlt : 0 < m
    · have hk4 := HK.out hlt
      obtain ⟨hi, hz0, hz1, hz2⟩ := HI.out
      clear hkl
      have q1 : m.tmod 65536 = m % 65536 := Int.tmod_eq_emod_of_nonneg (by omega)
      have q2 : m.tdiv 65536 = m / 65536 := Int.tdiv_eq_ediv_of_nonneg (by omega)
      have q5 : (m != 0) = true := by rw [bne_iff_ne]; omega
      have hkl := HL.out
      clear hkl
      · have q6 : ¬ m % 65536 < 0 := by omega
        go_wp2_with (refine wpList_append_lies _ rfl _ _ 38 rfl W.heap.size 3 i0 (.int .i64 0) 1 8 Try.underlying38 hi hz0 hz1 hz2 rfl (by decide) u4 k (ds.map (Value.int .i64)) rfl (HO.out.alloc _) ⟨wr.heap.size, 0, none⟩ 1 1 [.int .i64 (m % 65536)] rfl rfl ?_ (fun x hx => by simp at hx; subst hx; rfl) (by decide) (by unfold maxLen; omega) (by omega) (by have := hBr.size; simp; omega) _ rfl ?_; exact World.news_of_block (heap_alloc_new wr _); intro g cap w3 hown3 hgrow3 hat3 hlt3; have hB3 : Below W.heap.size W w3 := (bel_alw hBr).grown hgrow3 (by have := hBr.size; simp; omega) (fun q hq => (HO.out.lt q hq).1))
        refine ⟨⟨k + 1, m / 65536, ds ++ [m % 65536], by go_num, by omega, by omega, by have := HL.out; simp; omega, ?_, u16_append HV.out.2 (u16_one (by omega)), ?_, hB3⟩, by simp [intOf]; omega⟩
        · rw [vd_append, vd_one, pd_succ, HL.out, HV.out.1]
          have := cut16 (pd k) m
          omega
        · rw [List.map_append]
          exact hown3
    · obtain rfl : m = 0 := by omega
      have hform : ∃ q cap, u4 = .slice q k cap ∧ k ≤ cap ∧ cap ≤ maxLen ∧ Rd wr q .i64 ds ∧ Go.Proofs.Ytcdfckjlmifjiaa.From W.heap.size q := by
        have hown := HO.out
        rcases hown.2 with ⟨h1, h2⟩ | ⟨g, cap, cur, h1, hbg, _, h4, h5, _⟩
        · refine ⟨none, 0, by rw [h1, h2], by omega, Nat.zero_le _, ?_, from_none⟩
          have : ds = [] := List.eq_nil_of_length_eq_zero (by omega)
          rw [this]; exact Rd.nil
        · subst h1
          exact ⟨_, cap, rfl, h4, h5, rd_owns hown, from_new hbg⟩
      obtain ⟨q, cap, rfl, hq1, hq2, hq3, hq4⟩ := hform
      have hva : a = vd ds := by have := HV.out.1; omega
      have HA : Hid (a = vd ds) := hva
      clear hva
      have hq2' := hq2
      unfold maxLen at hq2'
      go_wp2_with fail
      refine (rtrim_any false q k cap ds _ hkl hq1 hq2 hq3).mono ?_
      rintro e w4 ⟨rfl, hb4⟩
      obtain ⟨z0, z1, z2, z3⟩ := resbox hb4 hb2r.c0 hb2r.c1 hb2r.f0 hb2r.f1
      go_wp2
      have hsW := HS.out
      have htl : tlen ds ≤ 4 := by
        rcases Nat.lt_or_ge 4 (tlen ds) with h | h
        · exfalso
          have e1 := vd_pos_of_top HV.out.2 (by omega)
          have e2 : pd 4 ≤ pd (tlen ds - 1) := pd_mono (by omega)
          have e3 : pd 4 = 18446744073709551616 := rfl
          have e5 := HA.out
          omega
        · exact h
      refine bodyPost_ret (v := .agg #[.bool (nsg false ds), .slice q (tlen ds) (tlen ds)]) (by simp [results, Try.results51, go_sem, z0, z1]) rfl ?_
      exact end_rn hbw (Nat.le_refl _) (by omega) hBr hb4 hq3 hq4 HV.out.2 (by omega) (by rw [HA.out]; rfl) htl

theorem rOf_any (z : Int) (w : World) (h0 : -9223372036854775808 ≤ z) (h1 : z ≤ 9223372036854775807) : Calls Try.prog 51 #[.int .i64 z] w (RAns 4 z w) := by
  by_cases h : z < 0
  · have := rOf_neg (-z) w (by omega) (by omega)
    rwa [Int.neg_neg] at this
  · exact rOf_pos z w (by omega) h1
end Go.Proofs.Ytcdfckjlmifjiaa
