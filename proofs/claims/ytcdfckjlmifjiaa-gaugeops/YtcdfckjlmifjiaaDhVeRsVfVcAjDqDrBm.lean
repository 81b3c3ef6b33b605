/-
  ashlarref3.Deg.
-/
import Derived.Test.YtcdfckjlmifjiaaRrRwVaRo
import Derived.Test.YtcdfckjlmifjiaaAhAdDtAgWvUhAiVdRt
import Derived.Test.YtcdfckjlmifjiaaRmRpDkDlDbRiRjRgRkUiVqDcUjLeUkWiWjUl
import Derived.Deep.DeepFit
import Derived.Test.YtcdfckjlmifjiaaVbDaCxRb
import Derived.Test.YtcdfckjlmifjiaaUmVsUoDmVtAf
import Derived.Test.YtcdfckjlmifjiaaBnBoBsBrVvJpRzCwVkJoBp
import Derived.Test.YtcdfckjlmifjiaaUcUdRaWmBe
import Derived.Test.YtcdfckjlmifjiaaLnWrIbWgUeUfUg
namespace Go.Proofs.Ytcdfckjlmifjiaa
open Go.RowKit
set_option linter.unusedVariables false
set_option linter.unusedSimpArgs false

set_option maxHeartbeats 2000000 in
set_option maxRecDepth 100000 in
/-- ashlarref3.Deg. -/
theorem rpDeg_any (p : Option Addr) (n nc : Nat) (w : World) (hn : n ≤ 1000000) :
    Calls Try.prog 44 #[.slice p n nc] w fun r w' => r = .returned (.int .i64 ((n : Int) - 1)) ∧ Below w.heap.size w w' := by
  have v1 : IntKind.i64.wrap ((n : Int) - 1) = (n : Int) - 1 := by rw [IntKind.wrap_i64]; omega
  go_enter Try.func44, Try.ntmps44
  go_wp2
  go_ret
  exact ⟨rfl, Below.refl _ _⟩
end Go.Proofs.Ytcdfckjlmifjiaa
/-
  ashlarref3.Deg, Bits.
-/
namespace Go.Proofs.Ytcdfckjlmifjiaa
open Go.RowKit
set_option linter.unusedVariables false
set_option linter.unusedSimpArgs false

theorem rBits_w {w : World} {N : Nat} {x : Int} {s : Bool} {p : Option Addr} {n : Nat} (h : RV w N x s p n) (hN : N ≤ 1000) :
    Calls Try.prog 38 #[.agg #[.bool s, .slice p n n]] w fun e w' => ∃ b : Nat, e = .returned (.int .i64 (b : Int)) ∧ b ≤ 16 * N ∧ Hid (IB b (x.natAbs : Int)) ∧ Below w.heap.size w w' := by
  have hbd := h.bd
  obtain ⟨ds, h1, rfl, h3⟩ := h
  have a := vd_nonneg h1.u
  have e : ((rval s ds).natAbs : Int) = vd ds := by unfold rval; split <;> omega
  rw [e] at hbd ⊢
  refine (rBits_any s p n n ds w h1.len (by omega) h1.nrm h1.rd h1.u).mono ?_
  rintro e w' ⟨b, g1, g2, g3⟩
  refine ⟨b, g1, ?_, g2, g3⟩
  have hp : pd N = 2 ^ (16 * N) := by rw [pd, show (65536 : Int) = 2 ^ 16 from rfl, ← Int.pow_mul]
  rcases Nat.lt_or_ge (16 * N) b with hb | hb
  · rcases g2.out.2.2 with k | k
    · omega
    · have := p2_mono (show 16 * N ≤ b - 1 by omega)
      omega
  · exact hb
theorem rBits_e {w : World} {N : Nat} {z : Int} {e : Ent} (h : RE w N z e) (hN : N ≤ 1000) :
    Calls Try.prog 38 #[.agg #[.bool e.s, .slice e.p e.n e.c]] w fun r w' => r = .returned (.int .i64 (zb z)) ∧ zb z ≤ 16 * N ∧ Below w.heap.size w w' := by
  obtain ⟨h1, h2⟩ := h
  rw [h2]
  refine (rBits_w h1 hN).mono ?_
  rintro r w' ⟨b, rfl, hl, hI, hb⟩
  have e2 := hI.out.uniq (zb_ib z)
  subst e2
  exact ⟨rfl, hl, hb⟩
set_option maxHeartbeats 2000000 in
set_option maxRecDepth 100000 in
/-- ashlarref3.Bits. -/
theorem rpBits_any {w : World} {N : Nat} {q : Option Addr} {n nc : Nat} {fs : List Ent} {zs : List Int} (k : PR w N q n nc fs zs) (hN : N ≤ 1000) (hn : n ≤ 1000000) :
    Calls Try.prog 45 #[.slice q n nc] w fun r w' => r = .returned (.int .i64 (pb zs)) ∧ Below w.heap.size w w' := by
  have hfl := k.el
  have hzl := k.zl
  go_enter Try.func45, Try.ntmps45
  go_wp2_with fail
  go_loopw [3, 4, 5] (fun mv kv cv wr => ∃ j : Nat, j ≤ n ∧ kv = .int .i64 j ∧ mv = .int .i64 (pb (zs.take j)) ∧ Hid (pb (zs.take j) ≤ 16 * N ∧ Below w.heap.size w wr)) (fun _ kv _ _ => n - (intOf kv).toNat)
  case atStart => exact ⟨0, Nat.zero_le _, by go_num, by simp [pb], by simp [pb], Below.refl _ _⟩
  case round =>
    obtain ⟨j, hj, rfl, rfl, H⟩ := hrel
    rcases Nat.lt_or_ge j n with hlt | hge
    · have hh := k.below H.out.2
      have hv := hh.ev j hlt
      obtain ⟨b, o, hp, hc⟩ := hh.pl (by omega)
      subst hp
      obtain ⟨c0, c1⟩ := hc j (by omega)
      have HT : Hid (pb (zs.take (j + 1)) = max (pb (zs.take j)) (zb (gx zs j))) := pb_take zs j (by omega)
      clear hc hh
      go_wp2_with fail
      refine (rBits_e hv hN).mono ?_
      rintro e w1 ⟨rfl, hz, hb1⟩
      have hB := bnext' H.out.2 hb1
      clear c0 c1 hv hb1
      by_cases hgt : (pb (zs.take j) : Int) < (zb (gx zs j) : Int)
      · have e1 : pb (zs.take (j + 1)) = zb (gx zs j) := by rw [HT.out]; omega
        have HE : Hid (pb (zs.take (j + 1)) = zb (gx zs j)) := e1
        clear e1
        go_wp2
        go_roundw
        case rel => exact ⟨j + 1, by omega, by go_num, by rw [HE.out], by rw [HE.out]; exact hz, hB⟩
        case measure => simp [intOf]; omega
      · have e1 : pb (zs.take (j + 1)) = pb (zs.take j) := by rw [HT.out]; omega
        have HE : Hid (pb (zs.take (j + 1)) = pb (zs.take j)) := e1
        clear e1
        go_wp2
        go_roundw
        case rel => exact ⟨j + 1, by omega, by go_num, by rw [HE.out], by rw [HE.out]; exact H.out.1, hB⟩
        case measure => simp [intOf]; omega
    · obtain rfl : j = n := by omega
      have HT : Hid (zs.take j = zs) := List.take_of_length_le (by omega)
      clear hge
      go_wp2
      go_ret
      obtain ⟨h1, h2⟩ := H.out
      exact ⟨by rw [HT.out]; rfl, h2⟩
end Go.Proofs.Ytcdfckjlmifjiaa
/-
  ashlarref1.Sign, Cmp.
-/
namespace Go.Proofs.Ytcdfckjlmifjiaa
open Go.RowKit
set_option linter.unusedVariables false
set_option linter.unusedSimpArgs false

theorem icmp_same16 {s t : Bool} {xs ys : List Int} (hX : U16 xs) (hY : U16 ys) (h : isgn (rval s xs) = isgn (rval t ys)) : isgn (rval s xs) * icmp (vd xs) (vd ys) = icmp (rval s xs) (rval t ys) := by
  have h1 := vd_nonneg hX
  have h2 := vd_nonneg hY
  rcases isgn_cases (rval s xs) with ⟨a1, a2⟩ | ⟨a1, a2⟩ | ⟨a1, a2⟩ <;> rcases isgn_cases (rval t ys) with ⟨b1, b2⟩ | ⟨b1, b2⟩ | ⟨b1, b2⟩ <;> rw [a2, b2] at h <;> (try (exact absurd h (by decide))) <;> rw [a2]
  · rw [a1, b1, icmp_eq, Int.zero_mul]
  · have e1 : s = true := by cases s <;> simp_all [rval] <;> omega
    have e2 : t = true := by cases t <;> simp_all [rval] <;> omega
    subst e1 e2
    simp only [rval, if_true]
    rcases Int.lt_trichotomy (vd xs) (vd ys) with g | g | g
    · rw [icmp_lt g, icmp_gt (by omega)]; rfl
    · rw [g, icmp_eq, icmp_eq]; rfl
    · rw [icmp_gt g, icmp_lt (by omega)]; rfl
  · have e1 : s = false := by cases s <;> simp_all [rval] <;> omega
    have e2 : t = false := by cases t <;> simp_all [rval] <;> omega
    subst e1 e2
    simp only [rval, Bool.false_eq_true, if_false, Int.one_mul]

end Go.Proofs.Ytcdfckjlmifjiaa
/-
  ashlarref3.Eq.
-/
namespace Go.Proofs.Ytcdfckjlmifjiaa
open Go.RowKit
set_option linter.unusedVariables false
set_option linter.unusedSimpArgs false

end Go.Proofs.Ytcdfckjlmifjiaa
/-
  ashlarref3.Of.
-/
namespace Go.Proofs.Ytcdfckjlmifjiaa
open Go.RowKit
set_option linter.unusedVariables false
set_option linter.unusedSimpArgs false

set_option maxHeartbeats 2000000 in
set_option maxRecDepth 100000 in
/-- ashlarref3.Of. -/
theorem rpOf_any (p : Option Addr) (n nc : Nat) (xs : List Int) (w : World) (hl : xs.length = n) (hn : n ≤ 1000000) (hX : Rd w p .i64 xs) (hx : ∀ j, -9223372036854775808 ≤ gx xs j ∧ gx xs j ≤ 9223372036854775807) :
    Calls Try.prog 24 #[.slice p n nc] w (PrP (tr xs) 4 w) := by
  obtain ⟨i0, hi, hzz⟩ := Option.map_eq_some_iff.1 info_ref
  simp only [Prod.mk.injEq] at hzz
  obtain ⟨hz0, hz1, hz2⟩ := hzz
  have HI : Hid (Try.prog.info? 40 = some i0 ∧ i0.zero = some (.agg #[.bool false, .slice none 0 0]) ∧ i0.size = 2 ∧ i0.bytes = 32) := ⟨hi, hz0, hz1, hz2⟩
  have HX : Hid (Rd w p .i64 xs ∧ ∀ j, -9223372036854775808 ≤ gx xs j ∧ gx xs j ≤ 9223372036854775807) := ⟨hX, hx⟩
  clear hX hx hi hz0 hz1 hz2
  go_enter Try.func24, Try.ntmps24
  go_wp2_with fail
  go_loopw [3, 4] (fun qv iv wr => ∃ (k : Nat) (es : List Ent), k ≤ n ∧ iv = .int .i64 k ∧ Hid (es.length = k ∧ LR w.heap.size wr 4 qv es (xs.take k) ∧ Below w.heap.size w wr)) (fun _ iv _ => n - (intOf iv).toNat)
  case atStart => exact ⟨0, [], Nat.zero_le _, by go_num, rfl, by rw [List.take_zero]; exact LR.nil _ _ _, Below.refl _ _⟩
  case round =>
    obtain ⟨k, es, hk, rfl, H⟩ := hrel
    rcases Nat.lt_or_ge k n with hlt | hge
    · obtain ⟨hel, hLR, hB⟩ := H.out
      obtain ⟨b, o, hp, hc⟩ := (HX.out.1.below hB) (by omega)
      subst hp
      have c0 := hc k (by omega)
      obtain ⟨x0, x1⟩ := HX.out.2 k
      clear hel hLR hB hc
      go_wp2_with fail
      refine (rOf_any (gx xs k) _ x0 x1).mono ?_
      rintro e w1 ⟨s1, p1, n1, d1, rfl, hR1, hv1, hn1, hF1, hb1⟩
      have HE : Hid (RE w1 4 (gx xs k) ⟨s1, p1, n1, n1⟩) := ⟨⟨d1, hR1, hv1, hn1⟩, rfl⟩
      clear c0 hR1 hv1
      obtain ⟨hi, hz0, hz1, hz2⟩ := HI.out
      have hown0 := own_below H.out.2.1.own hb1
      rw [H.out.1] at hown0
      have HO : Hid (w1.ownsRow w.heap.size 40 2 u3 k (fl es)) := hown0
      have hsz : w.heap.size ≤ w1.heap.size := Nat.le_trans H.out.2.2.size hb1.size
      clear hown0
      go_wp2_with (refine wpList_append_lies _ rfl _ _ 36 rfl w.heap.size 40 i0 (.agg #[.bool false, .slice none 0 0]) 2 32 Try.underlying36 hi hz0 hz1 hz2 rfl (by decide) u3 k (fl es) rfl (HO.out.alloc _) ⟨w1.heap.size, 0, none⟩ 1 1 [.bool s1, .slice p1 n1 n1] rfl rfl ?_ (fun x hx => by simp at hx; rcases hx with rfl | rfl <;> rfl) (by decide) (by unfold maxLen; omega) (by omega) (by simp; omega) _ rfl ?_; exact World.news_of_block (heap_alloc_new w1 _); intro g cap w3 hown3 hgrow3 hat3 hlt3; have hB3 : Below w.heap.size w w3 := ((bnext' H.out.2.2 hb1).alloc hsz _).grown hgrow3 (by simp; omega) (fun q hq => (HO.out.lt q hq).1); have HA : Hid (LR w.heap.size w3 4 (.slice (some ⟨g, 0, none⟩) (k + 1) cap) (es ++ [⟨s1, p1, n1, n1⟩]) (xs.take k ++ [gx xs k])) := lr_app H.out.1 H.out.2.1 hb1 HE.out hF1 hown3 hgrow3 hat3; clear hown3 hgrow3 hat3)
      refine ⟨⟨k + 1, es ++ [⟨s1, p1, n1, n1⟩], by omega, by go_num, by have := H.out.1; simp; omega, by rw [take_snocg xs k (by omega)]; exact HA.out, hB3⟩, by simp [intOf]; omega⟩
    · obtain rfl : k = n := by omega
      obtain ⟨hel, hLR, hB⟩ := H.out
      rw [List.take_of_length_le (by omega)] at hLR
      obtain ⟨q, cap, hv, hPR, hF⟩ := hLR.pr
      subst hv
      rw [hel] at hPR ⊢
      have HB : Hid (Below w.heap.size w wr) := hB
      clear H hLR hB hge hk
      go_wp2_with fail
      refine (rTrim_any 4 q k cap es xs _ hPR hn).mono ?_
      rintro e w1 ⟨rfl, hb1⟩
      have HP : Hid (PR wr 4 q k cap es xs) := hPR
      clear hPR
      go_wp2
      go_ret
      have htl := tlen_le xs
      have hcap := HP.out.cap
      have hT := (HP.out.below hb1).take (tlen xs) (tlen xs) (by omega) (Nat.le_refl _) (by omega)
      exact ⟨q, tlen xs, es.take (tlen xs), rfl, hT, hF, tlen_tr xs, bnext' HB.out hb1⟩
end Go.Proofs.Ytcdfckjlmifjiaa
/-
  The reference's operators: Is, Eq, Lead, Order, Degree, Bits, Sub.
-/
namespace Go.Proofs.Ytcdfckjlmifjiaa
open Go.RowKit
set_option linter.unusedVariables false
set_option linter.unusedSimpArgs false

end Go.Proofs.Ytcdfckjlmifjiaa
/-
  limbs.Sub of entries (out of Ut).
-/
namespace Go.Proofs.Ytcdfckjlmifjiaa
open Go.RowKit
set_option linter.unusedVariables false
set_option linter.unusedSimpArgs false

end Go.Proofs.Ytcdfckjlmifjiaa
/-
  upoly.Sub (out of Py).
-/
namespace Go.Proofs.Ytcdfckjlmifjiaa
open Go.RowKit
set_option linter.unusedVariables false
set_option linter.unusedSimpArgs false

end Go.Proofs.Ytcdfckjlmifjiaa
/-
  ore.Sub (out of Ad).
-/
namespace Go.Proofs.Ytcdfckjlmifjiaa
open Go.RowKit
set_option linter.unusedVariables false
set_option linter.unusedSimpArgs false

end Go.Proofs.Ytcdfckjlmifjiaa
