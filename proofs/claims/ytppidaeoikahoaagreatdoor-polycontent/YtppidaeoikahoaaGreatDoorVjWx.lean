/-
  ashlarref3.Content.
-/
import Derived.Test.YtppidaeoikahoaaGreatDoorTf
import Derived.Test.YtppidaeoikahoaaGreatDoorCyViOaOf
import Derived.Test.YtppidaeoikahoaaGreatDoorGgUn
import Derived.Deep.DeepFit
import Derived.Test.YtppidaeoikahoaaGreatDoorWkWlBxOw
namespace Go.Proofs.YtppidaeoikahoaaGreatDoor
open Go.RowKit
set_option linter.unusedVariables false
set_option linter.unusedSimpArgs false

theorem rval_abs (s : Bool) {ds : List Int} (h : U16 ds) : vd ds = ((rval s ds).natAbs : Int) := by
  have := vd_nonneg h
  unfold rval
  split <;> omega
theorem rGcd_e {w : World} {N : Nat} {x y : Int} {e f : Ent} (V : Nat → Prop) (h : RE w N x e) (k : RE w N y f) (hN : N ≤ 1000) (hVp : 0 < e.n → ∀ a, e.p = some a → V a.block) (hVq : 0 < f.n → ∀ a, f.p = some a → V a.block) (hVn : ∀ b, w.heap.size ≤ b → V b) :
    Calls Tryz.prog 104 #[.agg #[.bool e.s, .slice e.p e.n e.c], .agg #[.bool f.s, .slice f.p f.n f.c]] w fun r w' => ∃ u : Ent, r = .returned (.agg #[.bool u.s, .slice u.p u.n u.c]) ∧ RE w' N (Int.gcd x y) u ∧ (0 < u.n → ∀ a, u.p = some a → V a.block) ∧ Below w.heap.size w w' := by
  obtain ⟨⟨ds, h1, rfl, h3⟩, h4⟩ := h
  obtain ⟨⟨es, k1, rfl, k3⟩, k4⟩ := k
  rw [h4, k4]
  have e1 : Int.gcd (vd ds) (vd es) = Int.gcd (rval e.s ds) (rval f.s es) := by
    rw [rval_abs e.s h1.u, rval_abs f.s k1.u]
    simp [Int.gcd]
  refine (rGcd_V V e.s f.s e.p f.p e.n f.n N ds es w h1 k1 h3 k3 hN hVp hVq hVn).mono ?_
  rintro r w' ⟨p', n', ds', g1, g2, g3, g4, g5, g6⟩
  rw [e1] at g3
  exact ⟨⟨false, p', n', n'⟩, g1, ⟨⟨ds', g2, g3, g4⟩, rfl⟩, g6, g5⟩
theorem RE.set2 {w : World} {N : Nat} {z : Int} {e : Ent} {g o : Nat} {u v : Value} (h : RE w N z e) (ho : 0 < e.n → Off g e.p) : RE ((w.setCell ⟨g, o, none⟩ u).setCell ⟨g, o + 1, none⟩ v) N z e := by
  obtain ⟨⟨ds, h1, h2⟩, h4⟩ := h
  refine ⟨⟨ds, ⟨h1.len, fun hx => ?_, h1.u, h1.nrm, h1.sg, h1.sml⟩, h2⟩, h4⟩
  have := ho (by rw [h1.len] at hx; exact hx)
  exact ((h1.rd.set_other ⟨g, o, none⟩ u this).set_other ⟨g, o + 1, none⟩ v this) hx
/-- What Content of the reference answers. -/
def RcP (z : Int) (N : Nat) (w : World) (e : Ending) (w' : World) : Prop :=
  ∃ u : Ent, e = .returned (.agg #[.bool u.s, .slice u.p u.n u.c]) ∧ RE w' N z u ∧ Below w.heap.size w w'
/-- Content's variable behind some rounds. -/
structure CV (w wr : World) (g N : Nat) (z : Int) (u : Ent) : Prop where
  b : Bx wr g (.bool u.s) (.slice u.p u.n u.c)
  r : RE wr N z u
  o : 0 < u.n → Off g u.p ∧ Off w.heap.size u.p
  rb : Bx wr w.heap.size (.bool false) (.slice none 0 0)
  bw : Below w.heap.size w wr
set_option maxHeartbeats 4000000 in
set_option maxRecDepth 100000 in
/-- ashlarref3.Content. -/
theorem rpContent_any {w : World} {N : Nat} {p : Option Addr} {n nc : Nat} {es : List Ent} {zs : List Int} (h : PR w N p n nc es zs) (hn : n ≤ 100000) (hN : N ≤ 1000) (hN4 : 4 ≤ N) :
    Calls Tryz.prog 48 #[.slice p n nc] w (RcP (gcdl zs) N w) := by
  have HX : Hid (PR w N p n nc es zs) := h
  have hel := h.el
  have hzl := h.zl
  clear h
  go_enter Tryz.func48, Tryz.ntmps48
  go_wp2_with fail
  have hr0 : Bx (w.alloc (.cells #[.bool false, .slice none 0 0] 35)) w.heap.size (.bool false) (.slice none 0 0) := Bx.new _ _ _ rfl
  have hal0 := bel_al (o := .cells #[.bool false, .slice none 0 0] 35) (Below.refl w.heap.size w)
  generalize w.alloc (.cells #[.bool false, .slice none 0 0] 35) = W0 at *
  refine (rOf_any 0 W0 (by decide) (by decide)).mono ?_
  rintro e w1 ⟨s1, p1, n1, d1, rfl, hR1, hv1, hn1, hF1, hb1⟩
  have hal := bel_al (o := .cells #[.bool s1, .slice p1 n1 n1] 35) (Below.refl w1.heap.size w1)
  have hB1 : Bx (w1.alloc (.cells #[.bool s1, .slice p1 n1 n1] 35)) w1.heap.size (.bool s1) (.slice p1 n1 n1) := Bx.new _ _ _ rfl
  have hw0 : w.heap.size < W0.heap.size := block_lt_of_cell hr0.c0
  have hlt : w.heap.size < w1.heap.size := Nat.lt_of_lt_of_le hw0 hb1.size
  have hRE : RE w1 N 0 ⟨s1, p1, n1, n1⟩ := ⟨⟨d1, hR1, hv1, by show n1 ≤ N; omega⟩, rfl⟩
  have HC : Hid (CV w (w1.alloc (.cells #[.bool s1, .slice p1 n1 n1] 35)) w1.heap.size N (gcdl (zs.take 0)) ⟨s1, p1, n1, n1⟩) := by
    refine ⟨hB1, hRE.below hal, fun h0 => ⟨fun a ha e => ?_, fun a ha e => ?_⟩, (hr0.later hb1).later hal, bnext' (bnext' hal0 hb1) hal⟩
    · have := hRE.lt h0 a ha; omega
    · have := hF1 a ha; omega
  clear hr0 hal0 hR1 hv1 hn1 hF1 hb1 hal hB1 hw0 hRE
  go_wp2_with fail
  generalize w1.alloc (.cells #[.bool s1, .slice p1 n1 n1] 35) = W1 at *
  generalize w1.heap.size = g at *
  go_loopw [4] (fun iv wr => ∃ (k : Nat) (u : Ent), k ≤ n ∧ iv = .int .i64 k ∧ Hid (CV w wr g N (gcdl (zs.take k)) u)) (fun iv _ => n - (intOf iv).toNat)
  case atStart => exact ⟨0, ⟨s1, p1, n1, n1⟩, Nat.zero_le _, by go_num, HC.out⟩
  case round =>
    clear HC
    obtain ⟨k, u, hk, rfl, H⟩ := hrel
    rcases Nat.lt_or_ge k n with hlt' | hge
    · have hV := H.out
      have hP := HX.out.below hV.bw
      obtain ⟨b, o, hp, hc⟩ := hP.pl (by omega)
      subst hp
      obtain ⟨c0, c1⟩ := hc k (by omega)
      have he := hP.ev k hlt'
      obtain ⟨q0, q1, -, -⟩ := id hV.b
      have i1 : (k : Int) < (n : Int) := by omega
      have hbg : (0 : Nat) < n := by omega
      have hdr : Below wr.heap.size wr wr.drew := (Below.refl _ _).drew
      have hlb : b < w.heap.size := by
        obtain ⟨b', o', hb', hl'⟩ := HX.out.pl.lt (by omega)
        cases hb'
        exact hl'
      have hgr : g < wr.heap.size := block_lt_of_cell q0
      have heo : 0 < (ge es k).n → ∀ a, (ge es k).p = some a → a.block < w.heap.size := (HX.out.ev k hlt').lt
      have hgc := rGcd_e (fun x => x ≠ g ∧ x ≠ w.heap.size) (hV.r.below hdr) (he.below hdr) hN (fun h0 a ha => ⟨(hV.o h0).1 a ha, (hV.o h0).2 a ha⟩) (fun h0 a ha => by have := heo h0 a ha; constructor <;> omega) (fun x hx => by have : wr.heap.size ≤ x := hx; constructor <;> omega)
      have HV : Hid (CV w wr g N (gcdl (zs.take k)) u) := hV
      clear hV hP hc he
      go_upto_region 5 with fail
      go_region_with ((go_at_call 104; go_fit hgc; rintro r v1 ⟨x, rfl, hRx, hox, hb1⟩; have hB1 := undrew hb1; obtain ⟨z0, z1, f0, f1⟩ := HV.out.b.later hB1))
      all_goals
        have hnx : CV w ((v1.setCell ⟨g, 0, none⟩ (.bool x.s)).setCell ⟨g, 1, none⟩ (.slice x.p x.n x.c)) g N (gcdl (zs.take (k + 1))) x := by
          rw [gcdl_take zs k (by omega)]
          refine ⟨Bx_set (HV.out.b.later hB1), hRx.set2 (o := 0) (fun h0 a ha e => (hox h0 a ha).1 e), fun h0 => ⟨fun a ha => (hox h0 a ha).1, fun a ha => (hox h0 a ha).2⟩, Bx_oth (HV.out.rb.later hB1) (by omega), bset2 (bnext' HV.out.bw hB1) (by omega) _ _⟩
        have HN := (show Hid _ from hnx)
        clear hnx hRx hox hgc c0 c1 q0 q1 z0 z1 f0 f1 HV H
        go_wp2
        refine ⟨⟨k + 1, x, by omega, by go_num, HN.out⟩, by simp [intOf]; omega⟩
    · obtain rfl : k = n := by omega
      have hV := H.out
      rw [List.take_of_length_le (by omega)] at hV
      obtain ⟨q0, q1, -, -⟩ := id hV.b
      obtain ⟨r0, r1, f0, f1⟩ := id hV.rb
      have HV : Hid (CV w wr g N (gcdl zs) u) := hV
      clear H hV
      go_wp2
      refine bodyPost_ret (v := .agg #[.bool u.s, .slice u.p u.n u.c]) (by simp [results, Tryz.results48, go_sem, r0, r1]) rfl ⟨u, rfl, ?_, ?_⟩
      · exact HV.out.r.set2 (o := 0) fun h0 => (HV.out.o h0).2
      · exact bset2 HV.out.bw (Nat.le_refl _) _ _
end Go.Proofs.YtppidaeoikahoaaGreatDoor
/-
  limbs.Mod.
-/
namespace Go.Proofs.YtppidaeoikahoaaGreatDoor
open Go.RowKit
set_option linter.unusedVariables false
set_option linter.unusedSimpArgs false

set_option maxHeartbeats 1000000 in
/-- limbs.Mod: a small number that is none. -/
theorem Mod_bad (s : Bool) (p : Option Addr) (n nc : Nat) (m : Int) (w : World) (h : m < 1 ∨ 2147483647 < m) :
    Calls Tryz.prog 171 #[.agg #[.bool s, .slice p n nc], .int .i64 m] w fun e w' => e = .returned (.tuple #[.int .i64 0, .int .i64 1]) ∧ Below w.heap.size w w' := by
  rcases h with h | h
  · go_enter Tryz.func171, Tryz.ntmps171
    go_wp2
    go_ret2
    exact ⟨rfl, (Below.refl _ _).alloc (Nat.le_refl _) _⟩
  · have h' : ¬ m < 1 := by omega
    go_enter Tryz.func171, Tryz.ntmps171
    go_wp2
    go_ret2
    exact ⟨rfl, (Below.refl _ _).alloc (Nat.le_refl _) _⟩

set_option maxHeartbeats 1000000 in
/-- limbs.Mod. -/
theorem Mod_any (s : Bool) (p : Option Addr) (n nc : Nat) (xs : List Int) (m : Int) (w : World) (hA : AI w p n nc xs) (h1 : 1 ≤ m) (h2 : m ≤ 2147483647) :
    Calls Tryz.prog 171 #[.agg #[.bool s, .slice p n nc], .int .i64 m] w fun e w' => e = .returned (.tuple #[.int .i64 (ival s xs % m), .int .i64 0]) ∧ Below w.heap.size w w' := by
  have h1' : ¬ m < 1 := by omega
  have h2' : ¬ 2147483647 < m := by omega
  have hl := hA.len
  have hs := hA.sml
  go_enter Tryz.func171, Tryz.ntmps171
  go_wp2
  go_loop [6, 7] (fun rv iv => ∃ (k : Nat) (r : Int), k ≤ n ∧ iv = .int .i64 ((k : Int) - 1) ∧ rv = .int .u64 r ∧ 0 ≤ r ∧ r < m ∧ Hid (r = val (xs.drop k) % m)) (fun _ iv => (intOf iv + 1).toNat)
  case atStart => exact ⟨n, 0, Nat.le_refl _, by go_num, rfl, by decide, by omega, by show _ = _; rw [List.drop_of_length_le (by omega)]; simp [val]⟩
  case round =>
    obtain ⟨k, r, hk, rfl, rfl, hr0, hr1, HR⟩ := hrel
    by_cases h0 : k = 0
    · subst h0
      have hv := HR.out
      rw [List.drop_zero] at hv
      have HV : Hid (r = val xs % m) := hv
      clear hv HR
      cases s
      · go_wp2
        go_ret2
        have hv := HV.out
        subst hv
        exact ⟨rfl, (Below.refl _ _).alloc (Nat.le_refl _) _⟩
      · by_cases hz : r = 0
        · have hz' : ¬ 0 < r := by omega
          go_wp2
          go_ret2
          have hv := HV.out
          have e : ival true xs % m = 0 := by
            simp only [ival, if_true]; rw [hz] at hv; exact Int.emod_eq_zero_of_dvd (Int.dvd_neg.2 (Int.dvd_of_emod_eq_zero hv.symm))
          rw [e]
          exact ⟨rfl, (Below.refl _ _).alloc (Nat.le_refl _) _⟩
        · have hz' : 0 < r := by omega
          go_wp2
          go_ret2
          have hv := HV.out
          have e : ival true xs % m = m - r := by
            simp only [ival, if_true]
            exact neg_emod h1 hv hz
          rw [e]
          exact ⟨rfl, (Below.refl _ _).alloc (Nat.le_refl _) _⟩
    · obtain ⟨j, rfl⟩ : ∃ j, k = j + 1 := ⟨k - 1, by omega⟩
      have ej : ((j + 1 : Nat) : Int) - 1 = (j : Int) := by omega
      rw [ej]
      clear ej
      obtain ⟨b, off, hp, hcell⟩ := hA.rd (by omega)
      have hc := hcell j (by omega)
      have hlt := block_lt_of_cell hc
      obtain ⟨b0, b1⟩ := hA.u j
      have ho := or_join r (gx xs j) hr0 (by omega) b0 b1
      have hmz : (m == 0) = false := beq_eq_false_iff_ne.2 (by omega)
      subst hp
      clear hcell
      go_wp2
      refine ⟨⟨j, _, by omega, rfl, rfl, Int.emod_nonneg _ (by omega), Int.emod_lt_of_pos _ (by omega), ?_⟩, by simp [intOf]⟩
      show _ = _
      rw [drop_cons xs j (by omega)]
      simp only [val]
      have e := Int.emod_add_mul_ediv (val (xs.drop (j + 1))) m
      rw [← HR.out] at e
      have e2 : gx xs j + 4294967296 * val (xs.drop (j + 1)) = (r * 4294967296 + gx xs j) + m * (4294967296 * (val (xs.drop (j + 1)) / m)) := by
        rw [Int.mul_left_comm]; omega
      rw [e2, Int.add_mul_emod_self_left]
end Go.Proofs.YtppidaeoikahoaaGreatDoor
