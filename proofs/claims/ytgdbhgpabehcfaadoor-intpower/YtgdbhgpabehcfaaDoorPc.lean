/-
  ashlarref1.Power.
-/
import Derived.Test.YtgdbhgpabehcfaaDoorRo
import Derived.Test.YtgdbhgpabehcfaaDoorRm
import Derived.Test.YtgdbhgpabehcfaaDoorCz
namespace Go.Proofs.YtgdbhgpabehcfaaDoor
open Go.RowKit
set_option linter.unusedVariables false
set_option linter.unusedSimpArgs false

/-- What Power's variables hold. -/
structure Pv (w wr : World) (g : Nat) (s : Bool) (p : Option Addr) (n : Nat) (ds : List Int) (s1 : Bool) (p1 : Option Addr) (n1 : Nat) (d1 : List Int) : Prop where
  ba : Bx wr w.heap.size (.bool s) (.slice p n n)
  br : Bx wr (w.heap.size + 1) (.bool false) (.slice none 0 0)
  bp : Bx wr g (.bool s1) (.slice p1 n1 n1)
  ra : RN wr s p n ds
  r1 : RN wr s1 p1 n1 d1
  hg : w.heap.size + 2 ≤ g
  f1 : Go.Proofs.YtgdbhgpabehcfaaDoor.From (w.heap.size + 2) p1
  bel : Below w.heap.size w wr
theorem Pv.later {w wr w' : World} {g : Nat} {s : Bool} {p : Option Addr} {n : Nat} {ds : List Int} {s1 : Bool} {p1 : Option Addr} {n1 : Nat} {d1 : List Int} (h : Pv w wr g s p n ds s1 p1 n1 d1) (hb : Below wr.heap.size wr w') : Pv w w' g s p n ds s1 p1 n1 d1 :=
  ⟨h.ba.later hb, h.br.later hb, h.bp.later hb, h.ra.below hb, h.r1.below hb, h.hg, h.f1, h.bel.trans (hb.mono h.bel.size)⟩
/-- p = what is answered. -/
theorem Pv.put {w wr w' : World} {g : Nat} {s : Bool} {p : Option Addr} {n : Nat} {ds : List Int} {s1 : Bool} {p1 : Option Addr} {n1 : Nat} {d1 : List Int} {s2 : Bool} {p2 : Option Addr} {n2 : Nat} {d2 : List Int}
    (h : Pv w wr g s p n ds s1 p1 n1 d1) (hb : Below wr.heap.size wr w') (hp : 0 < n → ∀ x, p = some x → x.block < w.heap.size) (hr : RN w' s2 p2 n2 d2) (hf : Go.Proofs.YtgdbhgpabehcfaaDoor.From wr.heap.size p2) :
    Pv w ((w'.setCell ⟨g, 0, none⟩ (.bool s2)).setCell ⟨g, 1, none⟩ (.slice p2 n2 n2)) g s p n ds s2 p2 n2 d2 := by
  have k := h.later hb
  have hgw : g < wr.heap.size := block_lt_of_cell h.bp.c0
  have hg := h.hg
  exact ⟨Bx_oth k.ba (by omega), Bx_oth k.br (by omega), Bx_set k.bp, RN_st2 hp (by show _ ≤ g; omega) (RN_st2 hp (by show _ ≤ g; omega) k.ra), RN_st3 hf (by show g < _; omega) (RN_st3 hf (by show g < _; omega) hr), hg, hf.mono (by have := h.bel.size; omega), bset2 k.bel (by omega) _ _⟩

set_option maxRecDepth 100000 in
set_option maxHeartbeats 2000000 in
/-- ashlarref1.Power. -/
theorem rPower_any (s : Bool) (p : Option Addr) (n k : Nat) (ds : List Int) (w : World) (hA : RN w s p n ds) (hn : n ≤ 48) (hk : k ≤ 20) :
    Calls Tryd.prog 18 #[.agg #[.bool s, .slice p n n], .int .i64 k] w (RAns 1000 (rval s ds ^ k) w) := by
  have hpl := hA.lt
  have b1 : Bx ((w.alloc (.cells #[.bool s, .slice p n n] 29)).alloc (.cells #[.bool false, .slice none 0 0] 29)) w.heap.size (.bool s) (.slice p n n) := (Bx.new _ _ _ rfl).alloc _
  have b2 : Bx ((w.alloc (.cells #[.bool s, .slice p n n] 29)).alloc (.cells #[.bool false, .slice none 0 0] 29)) (w.heap.size + 1) (.bool false) (.slice none 0 0) := Bx.new _ _ _ (by rw [World.size_alloc])
  have hbw : Below w.heap.size w ((w.alloc (.cells #[.bool s, .slice p n n] 29)).alloc (.cells #[.bool false, .slice none 0 0] 29)) := bel_al (bel_al (Below.refl _ _))
  have hsz : w.heap.size + 2 ≤ ((w.alloc (.cells #[.bool s, .slice p n n] 29)).alloc (.cells #[.bool false, .slice none 0 0] 29)).heap.size := by simp
  go_enter Tryd.func18, Tryd.ntmps18
  go_wp2_with fail
  generalize ((w.alloc (.cells #[.bool s, .slice p n n] 29)).alloc (.cells #[.bool false, .slice none 0 0] 29)) = wc at *
  have hA1 := hA.below hbw
  refine (rOf_any 1 _ (by decide) (by decide)).mono ?_
  rintro e w4 ⟨s4, p4, n4, d4, rfl, hR4, hv4, hn4, hF4, hb4⟩
  have HP : Hid (Pv w (w4.alloc (.cells #[.bool s4, .slice p4 n4 n4] 29)) w4.heap.size s p n ds s4 p4 n4 d4 ∧ rval s4 d4 = rval s ds ^ 0 ∧ n4 ≤ 4) :=
    ⟨⟨(b1.later hb4).alloc _, (b2.later hb4).alloc _, Bx.new _ _ _ rfl, (hA1.below hb4).alloc _, hR4.alloc _, Nat.le_trans hsz hb4.size, hF4.mono hsz, (bnext hbw (Nat.le_refl _) hb4).alloc (Nat.le_trans hbw.size hb4.size) _⟩, by rw [hv4, Int.pow_zero], hn4⟩
  have HO : Hid (0 < n → ∀ x, p = some x → x.block < w.heap.size) := hpl
  clear hv4 hR4 hF4 hb4 b1 b2 hA1 hbw hpl hsz hn4
  go_wp2
  generalize w4.alloc (.cells #[.bool s4, .slice p4 n4 n4] 29) = wd at *
  generalize w4.heap.size = g at *
  go_loopw [6] (fun kv wr => ∃ (j : Nat) (s1 : Bool) (p1 : Option Addr) (n1 : Nat) (d1 : List Int), kv = .int .i64 j ∧ j ≤ k ∧ n1 ≤ 4 + 49 * j ∧ Hid (Pv w wr g s p n ds s1 p1 n1 d1 ∧ rval s1 d1 = rval s ds ^ j)) (fun kv _ => (k - intOf kv).toNat)
  case atStart => exact ⟨0, s4, p4, n4, d4, rfl, Nat.zero_le _, HP.out.2.2, HP.out.1, HP.out.2.1⟩
  case round =>
    obtain ⟨j, s1, p1, n1, d1, rfl, hj, hn1, H⟩ := hrel
    have c0 := H.out.1.bp.c0
    have c1 := H.out.1.bp.c1
    by_cases hjk : j = k
    · subst hjk
      have z0 := H.out.1.br.c0
      have z1 := H.out.1.br.c1
      have f0 := H.out.1.br.f0
      have f1 := H.out.1.br.f1
      go_wp2
      refine bodyPost_ret (v := .agg #[.bool s1, .slice p1 n1 n1]) (by simp [results, Tryd.results18, go_sem, c0, c1, z0, z1]) rfl ⟨_, _, _, d1, rfl, ?_, H.out.2, by omega, ?_, ?_⟩
      · exact RN_st3 H.out.1.f1 (Nat.lt_succ_self _) (RN_st3 H.out.1.f1 (Nat.lt_succ_self _) H.out.1.r1)
      · exact H.out.1.f1.mono (by omega)
      · exact bset2 H.out.1.bel (by omega) _ _
    · have hlt : j < k := by omega
      have a0 := H.out.1.ba.c0
      have a1 := H.out.1.ba.c1
      have hml := rMul_rn H.out.1.r1 H.out.1.ra (by omega) (by omega)
      go_wp2_with fail
      refine hml.mono ?_
      rintro e w1 ⟨s2, p2, n2, d2, rfl, hR2, hv2, hn2, hF2, hb2⟩
      have HQ : Hid (Pv w ((w1.setCell ⟨g, 0, none⟩ (.bool s2)).setCell ⟨g, 1, none⟩ (.slice p2 n2 n2)) g s p n ds s2 p2 n2 d2 ∧ rval s2 d2 = rval s ds ^ (j + 1)) :=
        ⟨H.out.1.put hb2 HO.out hR2 hF2, by rw [hv2, H.out.2, Int.pow_succ]⟩
      have hV1 := H.out.1.later hb2
      obtain ⟨x0, x1, x2, x3⟩ := hV1.bp
      clear c0 c1 a0 a1 hml hv2 hV1
      go_wp2
      refine ⟨⟨j + 1, s2, p2, n2, d2, by go_num, by omega, by omega, HQ.out⟩, by simp [intOf]; omega⟩
end Go.Proofs.YtgdbhgpabehcfaaDoor
