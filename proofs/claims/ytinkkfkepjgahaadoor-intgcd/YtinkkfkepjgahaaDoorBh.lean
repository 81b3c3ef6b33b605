/-
  ashlarlaw1.begun is true.
-/
import Derived.Test.YtinkkfkepjgahaaDoorBf
namespace Go.Proofs.YtinkkfkepjgahaaDoor
open Go.RowKit
set_option linter.unusedVariables false
set_option linter.unusedSimpArgs false

set_option maxRecDepth 100000 in
set_option maxHeartbeats 4000000 in
theorem begun_any (w : World) : Calls Tryd.prog 4 #[] w fun e w' => e = .returned (.bool true) ∧ Below w.heap.size w w' := by
  go_enter Tryd.func4, Tryd.ntmps4
  go_wp2_with fail
  refine (Of_any (-7) _ (by decide) (by decide)).mono ?_
  rintro e w1 ⟨sa, pa, na, xa, rfl, hNa, hna, hb1⟩
  go_upto_region 2 with fail
  have hWa : Bx (w1.alloc (.cells #[.bool sa, .slice pa na na] 24)) w1.heap.size (.bool sa) (.slice pa na na) := Bx.new _ _ _ rfl
  have hbW : Below w.heap.size w (w1.alloc (.cells #[.bool sa, .slice pa na na] 24)) := hb1.alloc hb1.size _
  have hNa1 := hNa.below ((Below.refl w1.heap.size w1).alloc (Nat.le_refl _) (.cells #[.bool sa, .slice pa na na] 24))
  have hlt1 : w1.heap.size < (w1.alloc (.cells #[.bool sa, .slice pa na na] 24)).heap.size := by simp
  generalize w1.alloc (.cells #[.bool sa, .slice pa na na] 24) = W at *
  have k0 := hWa.c0
  have k1 := hWa.c1
  go_cut [2, 3, 4] (fun qv rv ev wc => ∃ (g2 g3 : Nat) (s3 : Bool) (p3 : Option Addr) (n3 : Nat) (x3 : List Int) (s4 : Bool) (p4 : Option Addr) (n4 : Nat) (x4 : List Int), qv = .pointer (some ⟨g2, 0, none⟩) ∧ rv = .pointer (some ⟨g3, 0, none⟩) ∧ ev = .int .i64 0 ∧ Bg w wc w1.heap.size g2 g3 sa pa na xa s3 p3 n3 x3 s4 p4 n4 x4)
  case first =>
    have t1 := hbW.size
    have hUa := hNa1.lt
    have kf0 := hWa.f0
    have kf1 := hWa.f1
    go_region_held3 (fun w' => w'.cell? ⟨w1.heap.size, 0, none⟩ = some (.bool sa) ∧ w'.cell? ⟨w1.heap.size, 1, none⟩ = some (.slice pa na na)) (simp [go_sem, *])
      (first
        | (go_at_call 13; refine (Of_any 2 _ (by decide) (by decide)).mono ?_; rintro e w2 ⟨s2, p2, n2, x2, rfl, hN2, hn2, hb2⟩; have hB2 := undrew hb2; have hW2 := comp (X2 := W) (w2 := W) (Below.refl _ _) (by (repeat apply bel_al); exact Below.refl _ _) hB2; obtain ⟨hc2, hf2, hz2, -, -⟩ := brules hB2; obtain ⟨o1, o2, o3, o4⟩ := bne hB2; have k20 := cell_later hW2 k0; have k21 := cell_later hW2 k1; have s20 := Nat.lt_of_lt_of_le hlt1 hW2.size; have t2 := hW2.size; have t2b := hB2.size)
        | (go_at_call 14; refine (quo72 (B1 := w.heap.size) (xa := xa) (x2 := x2) (hNa1.below (by (repeat apply bel_al); exact hW2)) hna (by (repeat apply NI_al); exact hN2) hn2).mono ?_; rintro e w3 ⟨s3, p3, n3, x3, s4, p4, n4, x4, rfl, hN3, hN4, hn3, hn4, hb3⟩; have hb23 := comp hB2 (by (repeat apply bel_al); exact Below.refl _ _) hb3; have hW3 := comp hW2 (by (repeat apply bel_al); exact Below.refl _ _) hb3; obtain ⟨hc3, hf3, hz3, -, -⟩ := brules hb3; obtain ⟨hc4, hf4, hz4, -, -⟩ := brules hb23; obtain ⟨m1, m2, m3, m4⟩ := bne hb3; obtain ⟨m5, m6, m7, m8⟩ := bne hb23; have k30 := cell_later hW3 k0; have k31 := cell_later hW3 k1; have s30 := Nat.lt_of_lt_of_le hlt1 hW3.size; have hBa3 := hWa.later hW3; have t3 := hW3.size; have t3b := hb3.size))
    all_goals (go_wp2_with fail; go_meet)
    all_goals
      refine ⟨_, _, s3, p3, n3, x3, s4, p4, n4, x4, rfl, rfl, rfl, ?_, ?_, ?_, ?_, ?_, ?_, hna, hn3, hn4, ?_⟩
      · (repeat (first | exact hBa3 | apply Bx_al | refine Bx_oth ?_ (by have h1 := t2b; have h2 := t3b; have h3 := t3; have h4 := t2; (try simp only [World.size_alloc] at h1 h2); (try simp only [World.size_alloc]); (try dsimp only); omega)))
      · (repeat (first | exact Bx_new (by simp; done) | refine Bx_set (u := .bool false) (v := .slice none 0 0) ?_ | refine Bx_oth ?_ (by have h1 := t2b; have h2 := t3b; have h3 := t3; have h4 := t2; (try simp only [World.size_alloc] at h1 h2); (try simp only [World.size_alloc]); (try dsimp only); omega) | apply Bx_al)); all_goals exact ⟨by simp [go_sem, *], by simp [go_sem, *], by simp [go_sem, *], by simp [go_sem, *]⟩
      · (repeat (first | exact Bx_new (by simp; done) | refine Bx_set (u := .bool false) (v := .slice none 0 0) ?_ | refine Bx_oth ?_ (by have h1 := t2b; have h2 := t3b; have h3 := t3; have h4 := t2; (try simp only [World.size_alloc] at h1 h2); (try simp only [World.size_alloc]); (try dsimp only); omega) | apply Bx_al)); all_goals exact ⟨by simp [go_sem, *], by simp [go_sem, *], by simp [go_sem, *], by simp [go_sem, *]⟩
      · (repeat (first | apply NI_al | refine NI_st2 hUa (by have h1 := t2b; have h2 := t3b; have h3 := t3; have h4 := t2; (try simp only [World.size_alloc] at h1 h2); (try simp only [World.size_alloc]); (try dsimp only); omega) ?_)); exact (hNa1.below hW3).mono (Nat.zero_le _)
      · (repeat (first | apply NI_al | refine NI_st3 hN3.fr (by have h1 := t2b; have h2 := t3b; have h3 := t3; have h4 := t2; (try simp only [World.size_alloc] at h1 h2); (try simp only [World.size_alloc]); (try dsimp only); omega) ?_)); exact hN3.mono (Nat.zero_le _)
      · (repeat (first | apply NI_al | refine NI_st3 hN4.fr (by have h1 := t2b; have h2 := t3b; have h3 := t3; have h4 := t2; (try simp only [World.size_alloc] at h1 h2); (try simp only [World.size_alloc]); (try dsimp only); omega) ?_)); exact hN4.mono (Nat.zero_le _)
      · (repeat (first | refine Bel_al ?_ (Nat.le_refl _) | refine Bel_st ?_ (by have h1 := t2b; have h2 := t3b; have h3 := t3; have h4 := t2; (try simp only [World.size_alloc] at h1 h2); (try simp only [World.size_alloc]); (try dsimp only); omega))); exact hbW.trans (hW3.mono hbW.size)
  case rest =>
    obtain ⟨g2, g3, s3, p3, n3, x3, s4, p4, n4, x4, rfl, rfl, rfl, hG⟩ := hcut
    clear hWa hbW hNa1 hlt1 k0 k1 hNa hb1
    have k0 := hG.ba.c0
    have k1 := hG.ba.c1
    have k2 := hG.b2.c0
    have k3 := hG.b2.c1
    have k4 := hG.b3.c0
    have k5 := hG.b3.c1
    go_wp2_with fail
    go_region_held3 (fun w' => w'.cell? ⟨g2, 0, none⟩ = some (.bool s3) ∧ w'.cell? ⟨g2, 1, none⟩ = some (.slice p3 n3 n3)) (first | (simp [go_sem, *]; done) | exact keepc2 (by assumption) (by assumption))
      (first
        | (go_at_call 13; refine (Of_any 3 _ (by decide) (by decide)).mono ?_; rintro e w4 ⟨s5, p5, n5, x5, rfl, hN5, hn5, hb4⟩)
        | (go_at_call 10; refine (Mul_small s3 s5 p3 p5 n3 n3 n5 n5 x3 x5 _ ((hG.i2.below (undrew hb4)).hai (Nat.le_trans hG.l2 (by decide))) (hN5.hai (by omega)) (.inr (by omega))).mono ?_; rintro e w5 ⟨s6, p6, n6, x6, rfl, hN6, hn6, hb5⟩)
        | (go_at_call 15; refine (Small_fit s6 p6 n6 n6 x6 _ (hN6.hai (by have := hG.l2; omega)) (by rw [hN6.v, hG.i2.v, hN5.v]; decide) (by rw [hN6.v, hG.i2.v, hN5.v]; decide)).mono ?_; rw [hN6.v, hG.i2.v, hN5.v]; rintro e w6 ⟨rfl, hb6⟩))
    have hB6 : Below wc.heap.size wc w6 := comp (comp (undrew hb4) (Below.refl _ _) hb5) (Below.refl _ _) hb6
    have hG0 := hG.later hB6
    clear hB6 hb4 hb5 hb6 hN5 hN6 hn5 hn6 hG k0 k1 k2 k3 k4 k5
    have k0 := hG0.ba.c0
    have k1 := hG0.ba.c1
    have k2 := hG0.b2.c0
    have k3 := hG0.b2.c1
    have k4 := hG0.b3.c0
    have k5 := hG0.b3.c1
    go_wp2_with fail
    refine (text7 hG0.ia hG0.la).mono ?_
    rintro e v1 ⟨rfl, hv1⟩
    have hG1 := hG0.later hv1
    clear k0 k1 k2 k3 k4 k5
    have k0 := hG1.ba.c0
    have k1 := hG1.ba.c1
    have k2 := hG1.b2.c0
    have k3 := hG1.b2.c1
    have k4 := hG1.b3.c0
    have k5 := hG1.b3.c1
    go_wp2_with fail
    refine (text1 hG1.i3 hG1.l3).mono ?_
    rintro e v2 ⟨rfl, hv2⟩
    have hG2 := hG1.later hv2
    clear k0 k1 k2 k3 k4 k5
    have k0 := hG2.ba.c0
    have k1 := hG2.ba.c1
    have k2 := hG2.b2.c0
    have k3 := hG2.b2.c1
    have k4 := hG2.b3.c0
    have k5 := hG2.b3.c1
    go_wp2_with fail
    refine (cmp74 hG2.ia hG2.la hG2.i2 hG2.l2).mono ?_
    rintro e v3 ⟨rfl, hv3⟩
    have hG3 := hG2.later hv3
    clear k0 k1 k2 k3 k4 k5
    have k0 := hG3.ba.c0
    have k1 := hG3.ba.c1
    have k2 := hG3.b2.c0
    have k3 := hG3.b2.c1
    have k4 := hG3.b3.c0
    have k5 := hG3.b3.c1
    go_wp2_with fail
    refine (sign7 hG3.ia hG3.la).mono ?_
    rintro e v4 ⟨rfl, hv4⟩
    have hG4 := hG3.later hv4
    clear k0 k1 k2 k3 k4 k5
    have k0 := hG4.ba.c0
    have k1 := hG4.ba.c1
    have k2 := hG4.b2.c0
    have k3 := hG4.b2.c1
    have k4 := hG4.b3.c0
    have k5 := hG4.b3.c1
    go_wp2_with fail
    refine (bits7 hG4.ia hG4.la).mono ?_
    rintro e v5 ⟨rfl, hv5⟩
    have hG5 := hG4.later hv5
    clear k0 k1 k2 k3 k4 k5
    have k0 := hG5.ba.c0
    have k1 := hG5.ba.c1
    have k2 := hG5.b2.c0
    have k3 := hG5.b2.c1
    have k4 := hG5.b3.c0
    have k5 := hG5.b3.c1
    go_wp2
    go_ret
    exact ⟨rfl, hG5.bel⟩
end Go.Proofs.YtinkkfkepjgahaaDoor
