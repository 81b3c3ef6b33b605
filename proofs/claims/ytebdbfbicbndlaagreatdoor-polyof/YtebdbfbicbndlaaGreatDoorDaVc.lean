/-
  Numbers of the reference: the type, what a function answers.
-/
import Derived.Test.YtebdbfbicbndlaaGreatDoorVb
namespace Go.Proofs.YtebdbfbicbndlaaGreatDoor
open Go.RowKit
set_option linter.unusedVariables false
set_option linter.unusedSimpArgs false

theorem info_ref : (Tryz.prog.info? 47).map (fun i => (i.zero, i.size, i.bytes)) = some (some (.agg #[.bool false, .slice none 0 0]), 2, 32) := by kernel_rfl
theorem lr_app {base : Nat} {wr w1 w3 : World} {N : Nat} {v : Value} {es : List Ent} {zs : List Int} {z : Int} {s : Bool} {p : Option Addr} {n k : Nat} {o : Obj} {g cap : Nat} (hk : es.length = k) (h : LR base wr N v es zs) (hb1 : Below wr.heap.size wr w1) (hE : RE w1 N z ⟨s, p, n, n⟩) (hF : Go.Proofs.YtebdbfbicbndlaaGreatDoor.From wr.heap.size p)
    (hown : w3.ownsRow base 47 2 (.slice (some ⟨g, 0, none⟩) (k + 1) cap) (k + 1) (fl es ++ [.bool s, .slice p n n])) (hgrow : (w1.alloc o).grownBy w3 v.ownBlock) (hat : v.ownBlock = some g ∨ g = (w1.alloc o).heap.size) :
    LR base w3 N (.slice (some ⟨g, 0, none⟩) (k + 1) cap) (es ++ [⟨s, p, n, n⟩]) (zs ++ [z]) := by
  subst hk
  exact h.app hb1 hE hF hown hgrow hat
/-- What a function of the reference answers that gives a polynomial: no zero at its end. -/
def PrP (zs : List Int) (N : Nat) (w : World) (e : Ending) (w' : World) : Prop :=
  ∃ p n es, e = .returned (.slice p n n) ∧ PR w' N p n n es zs ∧ Go.Proofs.YtebdbfbicbndlaaGreatDoor.From w.heap.size p ∧ tlen zs = n ∧ Below w.heap.size w w'
end Go.Proofs.YtebdbfbicbndlaaGreatDoor
/-
  ashlarref3.Of.
-/
namespace Go.Proofs.YtebdbfbicbndlaaGreatDoor
open Go.RowKit
set_option linter.unusedVariables false
set_option linter.unusedSimpArgs false

set_option maxHeartbeats 2000000 in
set_option maxRecDepth 100000 in
/-- ashlarref3.Of. -/
theorem rpOf_any (p : Option Addr) (n nc : Nat) (xs : List Int) (w : World) (hl : xs.length = n) (hn : n ≤ 1000000) (hX : Rd w p .i64 xs) (hx : ∀ j, -9223372036854775808 ≤ gx xs j ∧ gx xs j ≤ 9223372036854775807) :
    Calls Tryz.prog 7 #[.slice p n nc] w (PrP (tr xs) 4 w) := by
  obtain ⟨i0, hi, hzz⟩ := Option.map_eq_some_iff.1 info_ref
  simp only [Prod.mk.injEq] at hzz
  obtain ⟨hz0, hz1, hz2⟩ := hzz
  have HI : Hid (Tryz.prog.info? 47 = some i0 ∧ i0.zero = some (.agg #[.bool false, .slice none 0 0]) ∧ i0.size = 2 ∧ i0.bytes = 32) := ⟨hi, hz0, hz1, hz2⟩
  have HX : Hid (Rd w p .i64 xs ∧ ∀ j, -9223372036854775808 ≤ gx xs j ∧ gx xs j ≤ 9223372036854775807) := ⟨hX, hx⟩
  clear hX hx hi hz0 hz1 hz2
  go_enter Tryz.func7, Tryz.ntmps7
  go_wp2_with fail
  go_loopw [3, 4] (fun qv iv wr => ∃ (k : Nat) (es : List Ent), k ≤ n ∧ iv = .int .i64 k ∧ Hid (es.length = k ∧ LR w.heap.size wr 4 qv es (xs.take k) ∧ Below w.heap.size w wr)) (fun _ iv _ => n - (intOf iv).toNat)
  case atStart => exact ⟨0, [], Nat.zero_le _, by go_num, rfl, by rw [List.take_zero]; exact LR.nil _ _ _, Below.refl _ _⟩
  case round =>
    obtain ⟨k, es, hk, rfl, H⟩ := hrel
    rcases Nat.lt_or_ge k n with hlt | hge
    · obtain ⟨hel, hLR, hB⟩ := H.out
      obtain ⟨b, o, hp, hc⟩ := (HX.out.1.below hB) (by omega)
      subst hp
      have c0 := hc k (by omega)
      obtain ⟨x0, x1⟩ := HX.out.2 k
      clear hel hLR hB hc
      go_wp2_with fail
      refine (rOf_any (gx xs k) _ x0 x1).mono ?_
      rintro e w1 ⟨s1, p1, n1, d1, rfl, hR1, hv1, hn1, hF1, hb1⟩
      have HE : Hid (RE w1 4 (gx xs k) ⟨s1, p1, n1, n1⟩) := ⟨⟨d1, hR1, hv1, hn1⟩, rfl⟩
      clear c0 hR1 hv1
      obtain ⟨hi, hz0, hz1, hz2⟩ := HI.out
      have hown0 := own_below H.out.2.1.own hb1
      rw [H.out.1] at hown0
      have HO : Hid (w1.ownsRow w.heap.size 47 2 u3 k (fl es)) := hown0
      have hsz : w.heap.size ≤ w1.heap.size := Nat.le_trans H.out.2.2.size hb1.size
      clear hown0
      go_wp2_with (refine wpList_append_lies _ rfl _ _ 29 rfl w.heap.size 47 i0 (.agg #[.bool false, .slice none 0 0]) 2 32 Tryz.underlying29 hi hz0 hz1 hz2 rfl (by decide) u3 k (fl es) rfl (HO.out.alloc _) ⟨w1.heap.size, 0, none⟩ 1 1 [.bool s1, .slice p1 n1 n1] rfl rfl ?_ (fun x hx => by simp at hx; rcases hx with rfl | rfl <;> rfl) (by decide) (by unfold maxLen; omega) (by omega) (by simp; omega) _ rfl ?_; exact World.news_of_block (heap_alloc_new w1 _); intro g cap w3 hown3 hgrow3 hat3 hlt3; have hB3 : Below w.heap.size w w3 := ((bnext' H.out.2.2 hb1).alloc hsz _).grown hgrow3 (by simp; omega) (fun q hq => (HO.out.lt q hq).1); have HA : Hid (LR w.heap.size w3 4 (.slice (some ⟨g, 0, none⟩) (k + 1) cap) (es ++ [⟨s1, p1, n1, n1⟩]) (xs.take k ++ [gx xs k])) := lr_app H.out.1 H.out.2.1 hb1 HE.out hF1 hown3 hgrow3 hat3; clear hown3 hgrow3 hat3)
      refine ⟨⟨k + 1, es ++ [⟨s1, p1, n1, n1⟩], by omega, by go_num, by have := H.out.1; simp; omega, by rw [take_snocg xs k (by omega)]; exact HA.out, hB3⟩, by simp [intOf]; omega⟩
    · obtain rfl : k = n := by omega
      obtain ⟨hel, hLR, hB⟩ := H.out
      rw [List.take_of_length_le (by omega)] at hLR
      obtain ⟨q, cap, hv, hPR, hF⟩ := hLR.pr
      subst hv
      rw [hel] at hPR ⊢
      have HB : Hid (Below w.heap.size w wr) := hB
      clear H hLR hB hge hk
      go_wp2_with fail
      refine (rTrim_any 4 q k cap es xs _ hPR hn).mono ?_
      rintro e w1 ⟨rfl, hb1⟩
      have HP : Hid (PR wr 4 q k cap es xs) := hPR
      clear hPR
      go_wp2
      go_ret
      have htl := tlen_le xs
      have hcap := HP.out.cap
      have hT := (HP.out.below hb1).take (tlen xs) (tlen xs) (by omega) (Nat.le_refl _) (by omega)
      exact ⟨q, tlen xs, es.take (tlen xs), rfl, hT, hF, tlen_tr xs, bnext' HB.out hb1⟩
end Go.Proofs.YtebdbfbicbndlaaGreatDoor
