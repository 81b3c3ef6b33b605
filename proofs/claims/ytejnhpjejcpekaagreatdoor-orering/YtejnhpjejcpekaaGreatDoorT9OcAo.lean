/-
  OreRing's walk.
-/
import Derived.Test.YtejnhpjejcpekaaGreatDoorT4T6T0
import Derived.Test.YtejnhpjejcpekaaGreatDoorKjDwNfNn
import Derived.Test.YtejnhpjejcpekaaGreatDoorVkJoNcDpAaEpGiGj
import Derived.Test.YtejnhpjejcpekaaGreatDoorAiRzVdRtDhVeRsVfVcAjDqDrBmBqDuAkBrAl
import Derived.Deep.DeepFit
import Derived.Test.YtejnhpjejcpekaaGreatDoorCuOaOfJpCwDj
namespace Go.Proofs.YtejnhpjejcpekaaGreatDoor
open Go.RowKit
set_option linter.unusedVariables false
set_option linter.unusedSimpArgs false
set_option maxHeartbeats 8000000
structure It where
  D : Nat
  E : Nat
  K : Nat
  L : List (List Int)
  h : Hdr
def Pk (v : World) (l : List It) : Prop := ∀ (i : Nat) (x : It), l[i]? = some x → Lies (EOp x.D x.E x.K) 0 (fun _ => False) v x.L x.h
theorem Pk.later {v v' : World} {l : List It} (k : Pk v l) (hb : Below v.heap.size v v') : Pk v' l := fun i x hx => (k i x hx).below (lOp _ _ _) hb
theorem Pk.nil (v : World) : Pk v [] := fun i x hx => by simp at hx
theorem Pk.cons {v : World} {l : List It} {D E K : Nat} {L : List (List Int)} {h : Hdr} (k : Pk v l) (hl : Lies (EOp D E K) 0 (fun _ => False) v L h) : Pk v (⟨D, E, K, L, h⟩ :: l) := fun i x hx => by
  cases i with
  | zero => simp at hx; subst hx; exact hl
  | succ i => simp at hx; exact k i x hx
def MuL (D K E : Nat) (al y : Int) (zss yss : List (List Int)) (w : World) (r : Ending) (w' : World) : Prop :=
  ∃ L h e, r = .returned (.tuple #[.slice h.p h.n h.c, .int .i64 e]) ∧ Lies (EOp D E K) 0 (fun _ => False) w' L h ∧ (e = 0 ∨ e = 4) ∧ (e = 0 → L = Pzs al y zss yss (olen zss)) ∧ Below w.heap.size w w'
theorem mul_lies {w : World} {g : Nat} {al y : Int} (hr : RuleQ w g al y) {zss yss : List (List Int)} {h k : Hdr} {D1 D2 E1 E2 K1 K2 : Nat} (D E K : Nat) (H : Lies (EOp D1 E1 K1) 0 (fun _ => False) w zss h) (G : Lies (EOp D2 E2 K2) 0 (fun _ => False) w yss k)
    (hD1 : D1 ≤ 5 := by decide) (hD2 : D2 ≤ 5 := by decide) (hE1 : E1 ≤ 5 := by decide) (hE2 : E2 ≤ 5 := by decide) (hK1 : K1 ≤ 12 := by decide) (hK2 : K2 ≤ 12 := by decide) (hD : D1 + D2 ≤ D + 1 := by decide) (hE : E1 + E2 ≤ E + 1 := by decide) (hK : K1 + (K2 + (D1 - 1) * (E2 + 1)) + 1 ≤ K := by decide) (hD' : D ≤ 900 := by decide) (hE' : E ≤ 1000 := by decide) (hK' : K ≤ 900 := by decide) :
    Calls Tryz.prog 25 #[.pointer (some ⟨g, 0, none⟩), .slice h.p h.n h.c, .slice k.p k.n k.c] w (MuL D K E al y zss yss w) := by
  obtain ⟨B, T, h1, h2, -, -⟩ := H
  obtain ⟨B', T', h3, h4, -, -⟩ := G
  refine (mul_told hr h1 h2 h3 h4 hD1 hD2 hE1 hE2 hK1 hK2 hD hE hK hD' hE' hK').mono ?_
  rintro r w' ⟨L, q, m, e, B, h5, h6, h7, h8, h9⟩
  exact ⟨L, ⟨q, m, m⟩, e, h5, ⟨B, _, h6, Nat.le_refl _, Nat.zero_le _, fun _ h => h.elim⟩, h7, h8, h9⟩
theorem add_lies {w : World} {zss yss : List (List Int)} {h k : Hdr} {D E K1 K2 : Nat} (K : Nat) (H : Lies (EOp D E K1) 0 (fun _ => False) w zss h) (G : Lies (EOp D E K2) 0 (fun _ => False) w yss k) (hD : D ≤ 1000 := by decide) (hE : E ≤ 1000 := by decide) (hK : K1 + K2 + 1 ≤ K := by decide) (hK' : K ≤ 1000 := by decide) :
    Calls Tryz.prog 31 #[.slice h.p h.n h.c, .slice k.p k.n k.c] w fun r w' => ∃ h' : Hdr, r = .returned (.slice h'.p h'.n h'.c) ∧ Lies (EOp D E K) 0 (fun _ => False) w' (otr (opz (· + ·) zss yss)) h' ∧ Below w.heap.size w w' := by
  obtain ⟨B, T, h1, h2, -, -⟩ := H
  obtain ⟨B', T', h3, h4, -, -⟩ := G
  have r1 := HR.rows h1
  have r2 := HR.rows h3
  refine (oAdd_any h1 h3 h2 h4 hD hD (by omega) (by omega)).mono ?_
  rintro r w' ⟨p, hs, rfl, h5, h6⟩
  have h7 : olen (opz (· + ·) zss yss) ≤ D := by
    have := olen_le (opz (· + ·) zss yss)
    have h8 : (opz (· + ·) zss yss).length = max (olen zss) (olen yss) := by simp [opz]
    omega
  exact ⟨⟨p, _, _⟩, rfl, ⟨_, _, ((h5.hr (by omega) (by omega) (by omega)).up h7 hK (Nat.le_refl _)), Nat.le_refl _, Nat.zero_le _, fun _ h => h.elim⟩, h6⟩
theorem eq_lies {w : World} {zss yss : List (List Int)} {h k : Hdr} {D E K1 K2 : Nat} (H : Lies (EOp D E K1) 0 (fun _ => False) w zss h) (G : Lies (EOp D E K2) 0 (fun _ => False) w yss k) (he : oz zss = oz yss) (hD : D ≤ 1000 := by decide) (hE : E ≤ 1000 := by decide) :
    Calls Tryz.prog 33 #[.slice h.p h.n h.c, .slice k.p k.n k.c] w fun r w' => r = .returned (.bool true) ∧ Below w.heap.size w w' := by
  obtain ⟨B, T, h1, h2, -, -⟩ := H
  obtain ⟨B', T', h3, h4, -, -⟩ := G
  refine (oEq_any h1 h3 h2 h4 hD (by omega)).mono ?_
  rintro r w' ⟨rfl, h5⟩
  exact ⟨by rw [decide_eq_true he], h5⟩
theorem ord_lies {w : World} {zss : List (List Int)} {h : Hdr} {D E K1 : Nat} (H : Lies (EOp D E K1) 0 (fun _ => False) w zss h) (hD : D ≤ 1000 := by decide) (hE : E ≤ 1000 := by decide) :
    Calls Tryz.prog 32 #[.slice h.p h.n h.c] w fun r w' => r = .returned (.int .i64 ((olen zss : Int) - 1)) ∧ Below w.heap.size w w' := by
  obtain ⟨B, T, h1, h2, -, -⟩ := H
  exact oOrder_any h1 h2 (by omega) (by omega)
def RiS (w v : World) (g : Nat) (al y : Int) (l : List It) : Prop := Pk v l ∧ RuleQ v g al y ∧ Below w.heap.size w v
theorem RiS.later {w v v' : World} {g : Nat} {al y : Int} {l : List It} (k : RiS w v g al y l) (hb : Below v.heap.size v v') : RiS w v' g al y l := ⟨k.1.later hb, k.2.1.below hb, bnext' k.2.2 hb⟩
theorem RiS.cons {w v : World} {g : Nat} {al y : Int} {l : List It} {D E K : Nat} {L : List (List Int)} {h : Hdr} (k : RiS w v g al y l) (hl : Lies (EOp D E K) 0 (fun _ => False) v L h) : RiS w v g al y (⟨D, E, K, L, h⟩ :: l) := ⟨k.1.cons hl, k.2⟩
set_option maxRecDepth 100000 in
theorem OreRing_walk {w : World} {al : Int} {e : Ent} {p : Option Addr} {n nc : Nat} {hs0 : List Hdr} {q : Option Addr} {m mc : Nat} {rs0 : List Hdr} {q2 : Option Addr} {m2 mc2 : Nat} {rs2 : List Hdr} (he : RawE w e) (h : RZ w p n nc hs0) (k : RZ w q m mc rs0) (k2 : RZ w q2 m2 mc2 rs2) (hal : -9223372036854775808 ≤ al ∧ al ≤ 9223372036854775807) :
    Calls Tryz.prog 7 #[.int .i64 al, .agg #[.bool e.s, .slice e.p e.n e.c], .slice p n nc, .slice q m mc, .slice q2 m2 mc2] w fun r w' => r = .returned (.bool true) ∧ Below w.heap.size w w' := by
  have HX : Hid (RawE w e ∧ RZ w p n nc hs0 ∧ RZ w q m mc rs0 ∧ RZ w q2 m2 mc2 rs2) := ⟨he, h, k, k2⟩
  clear h he k k2
  have hW0 : Below w.heap.size w (w.alloc (.cells #[.bool e.s, .slice e.p e.n e.c] 26)) := (Below.refl _ _).alloc (Nat.le_refl _) _
  have hBx : Bx (w.alloc (.cells #[.bool e.s, .slice e.p e.n e.c] 26)) w.heap.size (.bool e.s) (.slice e.p e.n e.c) := Bx.new _ _ _ rfl
  go_enter Tryz.func7, Tryz.ntmps7
  go_wp2_with fail
  go_fit (begun8_any _)
  rintro e1 W ⟨rfl, hb1⟩
  have hW := bnext' hW0 hb1
  have HBx : Hid (Bx W w.heap.size (.bool e.s) (.slice e.p e.n e.c)) := hBx.later hb1
  clear hBx hb1 hW0
  go_wp2_with fail
  go_fit (Cut8_any (HX.out.2.1.below hW) 2 3 1 (by decide) (by decide) (by decide))
  rintro r w1 ⟨g_a, za, rfl, -, hA, hb1⟩
  have hB1 := bnext' hW hb1
  have P1 : Hid (Pk w1 [⟨3, 3, 1, za, g_a⟩]) := (Pk.nil w1).cons ⟨_, _, hA, Nat.le_refl _, Nat.zero_le _, fun _ h => h.elim⟩
  clear hA
  dsimp only [Hdr.val]
  go_wp2_with fail
  go_fit (Cut8_any (HX.out.2.2.1.below hB1) 2 3 1 (by decide) (by decide) (by decide))
  rintro r w2 ⟨g_b, zb, rfl, -, hA, hb2⟩
  have hB2 := bnext' hB1 hb2
  have P2 : Hid (Pk w2 [⟨3, 3, 1, zb, g_b⟩, ⟨3, 3, 1, za, g_a⟩]) := (P1.out.later hb2).cons ⟨_, _, hA, Nat.le_refl _, Nat.zero_le _, fun _ h => h.elim⟩
  clear hA P1 hB1
  dsimp only [Hdr.val]
  go_wp2_with fail
  go_fit (Cut8_any (HX.out.2.2.2.below hB2) 2 3 1 (by decide) (by decide) (by decide))
  rintro r w3 ⟨g_c, zc, rfl, -, hA, hb3⟩
  have hB3 := bnext' hB2 hb3
  have P3 : Hid (Pk w3 [⟨3, 3, 1, zc, g_c⟩, ⟨3, 3, 1, zb, g_b⟩, ⟨3, 3, 1, za, g_a⟩]) := (P2.out.later hb3).cons ⟨_, _, hA, Nat.le_refl _, Nat.zero_le _, fun _ h => h.elim⟩
  have hru := lRule_any (HX.out.1.below hB3) hal
  have hcx := HBx.out.later (bnext' (bnext' hb1 hb2) hb3)
  have x0 : w3.cell? ⟨w.heap.size, 0, none⟩ = some (.bool e.s) := hcx.c0
  have x1 : w3.cell? ⟨w.heap.size, 1, none⟩ = some (.slice e.p e.n e.c) := hcx.c1
  clear hA hb1 hb2 hb3 P2 hB2 hW HBx hcx
  dsimp only [Hdr.val]
  go_wp2_with fail
  go_fit hru
  rintro r w4 ⟨hR, hb4⟩
  have hB4 := bnext' hB3 hb4
  clear hru x0 x1
  rcases hR with rfl | ⟨g, y, xe, rfl, hRQ, hRE⟩
  · have HB : Hid (Below w.heap.size w w4) := hB4
    clear P3 hB3 hb4 hB4
    go_wp2_with fail
    go_ret
    exact ⟨rfl, bel_al HB.out⟩
  have hal4 := bel_al (o := .cells #[.int .i64 al, .bool xe.s, .slice xe.p xe.n xe.c] 55) (Below.refl w4.heap.size w4)
  have hb5 := bnext' hb4 hal4
  have S4 : Hid (RiS w (w4.alloc (.cells #[.int .i64 al, .bool xe.s, .slice xe.p xe.n xe.c] 55)) g al y [⟨3, 3, 1, zc, g_c⟩, ⟨3, 3, 1, zb, g_b⟩, ⟨3, 3, 1, za, g_a⟩]) := ⟨P3.out.later hb5, hRQ.below hal4, bnext' hB3 hb5⟩
  clear P3 hb4 hb5 hRQ hRE hB3 HX hB4 hal4
  go_wp2_with fail
  generalize (w4.alloc (.cells #[.int .i64 al, .bool xe.s, .slice xe.p xe.n xe.c] 55)) = W5 at *
  go_fit (mul_lies S4.out.2.1 5 5 11 (show Lies (EOp 3 3 1) 0 (fun _ => False) _ (za) g_a from S4.out.1 2 _ rfl) (show Lies (EOp 3 3 1) 0 (fun _ => False) _ (zb) g_b from S4.out.1 1 _ rfl))
  rintro r w5 ⟨z_ab, h_ab, e_ab, rfl, hl, he_ab, hf, hb⟩
  have F_ab : Hid (e_ab = 0 → z_ab = Pzs al y za zb (olen za)) := hf
  have S5 : Hid (RiS w w5 g al y [⟨5, 5, 11, z_ab, h_ab⟩, ⟨3, 3, 1, zc, g_c⟩, ⟨3, 3, 1, zb, g_b⟩, ⟨3, 3, 1, za, g_a⟩]) := (S4.out.later hb).cons hl
  clear S4 hl hf hb
  go_wp2_with fail
  go_fit (mul_lies S5.out.2.1 5 5 11 (show Lies (EOp 3 3 1) 0 (fun _ => False) _ (zb) g_b from S5.out.1 2 _ rfl) (show Lies (EOp 3 3 1) 0 (fun _ => False) _ (zc) g_c from S5.out.1 1 _ rfl))
  rintro r w6 ⟨z_bc, h_bc, e_bc, rfl, hl, he_bc, hf, hb⟩
  have F_bc : Hid (e_bc = 0 → z_bc = Pzs al y zb zc (olen zb)) := hf
  have S6 : Hid (RiS w w6 g al y [⟨5, 5, 11, z_bc, h_bc⟩, ⟨5, 5, 11, z_ab, h_ab⟩, ⟨3, 3, 1, zc, g_c⟩, ⟨3, 3, 1, zb, g_b⟩, ⟨3, 3, 1, za, g_a⟩]) := (S5.out.later hb).cons hl
  clear S5 hl hf hb
  go_wp2_with fail
  go_fit (mul_lies S6.out.2.1 7 7 29 (show Lies (EOp 5 5 11) 0 (fun _ => False) _ (z_ab) h_ab from S6.out.1 1 _ rfl) (show Lies (EOp 3 3 1) 0 (fun _ => False) _ (zc) g_c from S6.out.1 2 _ rfl))
  rintro r w7 ⟨z_one, h_one, e_one, rfl, hl, he_one, hf, hb⟩
  have F_one : Hid (e_one = 0 → z_one = Pzs al y z_ab zc (olen z_ab)) := hf
  have S7 : Hid (RiS w w7 g al y [⟨7, 7, 29, z_one, h_one⟩, ⟨5, 5, 11, z_bc, h_bc⟩, ⟨5, 5, 11, z_ab, h_ab⟩, ⟨3, 3, 1, zc, g_c⟩, ⟨3, 3, 1, zb, g_b⟩, ⟨3, 3, 1, za, g_a⟩]) := (S6.out.later hb).cons hl
  clear S6 hl hf hb
  go_wp2_with fail
  go_fit (mul_lies S7.out.2.1 7 7 25 (show Lies (EOp 3 3 1) 0 (fun _ => False) _ (za) g_a from S7.out.1 5 _ rfl) (show Lies (EOp 5 5 11) 0 (fun _ => False) _ (z_bc) h_bc from S7.out.1 1 _ rfl))
  rintro r w8 ⟨z_two, h_two, e_two, rfl, hl, he_two, hf, hb⟩
  have F_two : Hid (e_two = 0 → z_two = Pzs al y za z_bc (olen za)) := hf
  have S8 : Hid (RiS w w8 g al y [⟨7, 7, 25, z_two, h_two⟩, ⟨7, 7, 29, z_one, h_one⟩, ⟨5, 5, 11, z_bc, h_bc⟩, ⟨5, 5, 11, z_ab, h_ab⟩, ⟨3, 3, 1, zc, g_c⟩, ⟨3, 3, 1, zb, g_b⟩, ⟨3, 3, 1, za, g_a⟩]) := (S7.out.later hb).cons hl
  clear S7 hl hf hb
  go_wp2_with fail
  go_fit (mul_lies S8.out.2.1 5 5 11 (show Lies (EOp 3 3 1) 0 (fun _ => False) _ (za) g_a from S8.out.1 6 _ rfl) (show Lies (EOp 3 3 1) 0 (fun _ => False) _ (zc) g_c from S8.out.1 4 _ rfl))
  rintro r w9 ⟨z_ac, h_ac, e_ac, rfl, hl, he_ac, hf, hb⟩
  have F_ac : Hid (e_ac = 0 → z_ac = Pzs al y za zc (olen za)) := hf
  have S9 : Hid (RiS w w9 g al y [⟨5, 5, 11, z_ac, h_ac⟩, ⟨7, 7, 25, z_two, h_two⟩, ⟨7, 7, 29, z_one, h_one⟩, ⟨5, 5, 11, z_bc, h_bc⟩, ⟨5, 5, 11, z_ab, h_ab⟩, ⟨3, 3, 1, zc, g_c⟩, ⟨3, 3, 1, zb, g_b⟩, ⟨3, 3, 1, za, g_a⟩]) := (S8.out.later hb).cons hl
  clear S8 hl hf hb
  go_wp2_with fail
  go_fit (add_lies 3 (show Lies (EOp 3 3 1) 0 (fun _ => False) _ (zb) g_b from S9.out.1 6 _ rfl) (show Lies (EOp 3 3 1) 0 (fun _ => False) _ (zc) g_c from S9.out.1 5 _ rfl))
  rintro r w10 ⟨h_b_c, rfl, hl, hb⟩
  have S10 : Hid (RiS w w10 g al y [⟨3, 3, 3, otr (opz (· + ·) zb zc), h_b_c⟩, ⟨5, 5, 11, z_ac, h_ac⟩, ⟨7, 7, 25, z_two, h_two⟩, ⟨7, 7, 29, z_one, h_one⟩, ⟨5, 5, 11, z_bc, h_bc⟩, ⟨5, 5, 11, z_ab, h_ab⟩, ⟨3, 3, 1, zc, g_c⟩, ⟨3, 3, 1, zb, g_b⟩, ⟨3, 3, 1, za, g_a⟩]) := (S9.out.later hb).cons hl
  clear S9 hl hb
  go_wp2_with fail
  go_fit (mul_lies S10.out.2.1 5 5 13 (show Lies (EOp 3 3 1) 0 (fun _ => False) _ (za) g_a from S10.out.1 8 _ rfl) (show Lies (EOp 3 3 3) 0 (fun _ => False) _ (otr (opz (· + ·) zb zc)) h_b_c from S10.out.1 0 _ rfl))
  rintro r w11 ⟨z_sum, h_sum, e_sum, rfl, hl, he_sum, hf, hb⟩
  have F_sum : Hid (e_sum = 0 → z_sum = Pzs al y za (otr (opz (· + ·) zb zc)) (olen za)) := hf
  have S11 : Hid (RiS w w11 g al y [⟨5, 5, 13, z_sum, h_sum⟩, ⟨3, 3, 3, otr (opz (· + ·) zb zc), h_b_c⟩, ⟨5, 5, 11, z_ac, h_ac⟩, ⟨7, 7, 25, z_two, h_two⟩, ⟨7, 7, 29, z_one, h_one⟩, ⟨5, 5, 11, z_bc, h_bc⟩, ⟨5, 5, 11, z_ab, h_ab⟩, ⟨3, 3, 1, zc, g_c⟩, ⟨3, 3, 1, zb, g_b⟩, ⟨3, 3, 1, za, g_a⟩]) := (S10.out.later hb).cons hl
  clear S10 hl hf hb
  go_wp2_with fail
  go_fit (add_lies 3 (show Lies (EOp 3 3 1) 0 (fun _ => False) _ (za) g_a from S11.out.1 9 _ rfl) (show Lies (EOp 3 3 1) 0 (fun _ => False) _ (zb) g_b from S11.out.1 8 _ rfl))
  rintro r w12 ⟨h_a_b, rfl, hl, hb⟩
  have S12 : Hid (RiS w w12 g al y [⟨3, 3, 3, otr (opz (· + ·) za zb), h_a_b⟩, ⟨5, 5, 13, z_sum, h_sum⟩, ⟨3, 3, 3, otr (opz (· + ·) zb zc), h_b_c⟩, ⟨5, 5, 11, z_ac, h_ac⟩, ⟨7, 7, 25, z_two, h_two⟩, ⟨7, 7, 29, z_one, h_one⟩, ⟨5, 5, 11, z_bc, h_bc⟩, ⟨5, 5, 11, z_ab, h_ab⟩, ⟨3, 3, 1, zc, g_c⟩, ⟨3, 3, 1, zb, g_b⟩, ⟨3, 3, 1, za, g_a⟩]) := (S11.out.later hb).cons hl
  clear S11 hl hb
  go_wp2_with fail
  go_fit (mul_lies S12.out.2.1 5 5 13 (show Lies (EOp 3 3 3) 0 (fun _ => False) _ (otr (opz (· + ·) za zb)) h_a_b from S12.out.1 0 _ rfl) (show Lies (EOp 3 3 1) 0 (fun _ => False) _ (zc) g_c from S12.out.1 8 _ rfl))
  rintro r w13 ⟨z_left, h_left, e_left, rfl, hl, he_left, hf, hb⟩
  have F_left : Hid (e_left = 0 → z_left = Pzs al y (otr (opz (· + ·) za zb)) zc (olen (otr (opz (· + ·) za zb)))) := hf
  have S13 : Hid (RiS w w13 g al y [⟨5, 5, 13, z_left, h_left⟩, ⟨3, 3, 3, otr (opz (· + ·) za zb), h_a_b⟩, ⟨5, 5, 13, z_sum, h_sum⟩, ⟨3, 3, 3, otr (opz (· + ·) zb zc), h_b_c⟩, ⟨5, 5, 11, z_ac, h_ac⟩, ⟨7, 7, 25, z_two, h_two⟩, ⟨7, 7, 29, z_one, h_one⟩, ⟨5, 5, 11, z_bc, h_bc⟩, ⟨5, 5, 11, z_ab, h_ab⟩, ⟨3, 3, 1, zc, g_c⟩, ⟨3, 3, 1, zb, g_b⟩, ⟨3, 3, 1, za, g_a⟩]) := (S12.out.later hb).cons hl
  clear S12 hl hf hb
  have HB : Hid (Below w.heap.size w w13) := S13.out.2.2
  rcases he_ab with rfl | rfl
  rotate_left
  · clear S13 F_ab F_bc F_one F_two F_ac F_sum F_left he_bc he_one he_two he_ac he_sum he_left
    go_wp2_with fail
    go_ret
    exact ⟨rfl, HB.out⟩
  rcases he_bc with rfl | rfl
  rotate_left
  · clear S13 F_ab F_bc F_one F_two F_ac F_sum F_left he_one he_two he_ac he_sum he_left
    go_wp2_with fail
    go_ret
    exact ⟨rfl, HB.out⟩
  rcases he_one with rfl | rfl
  rotate_left
  · clear S13 F_ab F_bc F_one F_two F_ac F_sum F_left he_two he_ac he_sum he_left
    go_wp2_with fail
    go_ret
    exact ⟨rfl, HB.out⟩
  rcases he_two with rfl | rfl
  rotate_left
  · clear S13 F_ab F_bc F_one F_two F_ac F_sum F_left he_ac he_sum he_left
    go_wp2_with fail
    go_ret
    exact ⟨rfl, HB.out⟩
  rcases he_ac with rfl | rfl
  rotate_left
  · clear S13 F_ab F_bc F_one F_two F_ac F_sum F_left he_sum he_left
    go_wp2_with fail
    go_ret
    exact ⟨rfl, HB.out⟩
  rcases he_sum with rfl | rfl
  rotate_left
  · clear S13 F_ab F_bc F_one F_two F_ac F_sum F_left he_left
    go_wp2_with fail
    go_ret
    exact ⟨rfl, HB.out⟩
  rcases he_left with rfl | rfl
  rotate_left
  · clear S13 F_ab F_bc F_one F_two F_ac F_sum F_left 
    go_wp2_with fail
    go_ret
    exact ⟨rfl, HB.out⟩
  have q_ab := F_ab.out rfl
  have q_bc := F_bc.out rfl
  have q_one := F_one.out rfl
  have q_two := F_two.out rfl
  have q_ac := F_ac.out rfl
  have q_sum := F_sum.out rfl
  have q_left := F_left.out rfl
  have ha3 := S13.out.2.1.a
  have E1 : Hid (oz z_one = oz z_two) := by show _ = _; rw [q_one, q_two]; exact ring_one ha3 q_ab q_bc
  have E2 : Hid (oz z_sum = oz (otr (opz (· + ·) z_ab z_ac))) := by show _ = _; rw [q_sum]; exact ring_sum ha3 q_ab q_ac
  have E3 : Hid (oz z_left = oz (otr (opz (· + ·) z_ac z_bc))) := by show _ = _; rw [q_left]; exact ring_left q_ac q_bc
  have E4 : Hid (0 < olen za → 0 < olen zb → olen z_ab + 1 = olen za + olen zb) := fun a1 a2 => by rw [q_ab]; exact Sk.order_prod ha3 S13.out.2.1.q za zb a1 a2
  clear F_ab F_bc F_one F_two F_ac F_sum F_left ha3 q_ab q_bc q_one q_two q_ac q_sum q_left
  go_wp2_with fail
  go_fit (ord_lies (show Lies (EOp 3 3 1) 0 (fun _ => False) _ (za) g_a from S13.out.1 11 _ rfl))
  rintro r y1 ⟨rfl, hb⟩
  have T1 : Hid (RiS w y1 g al y [⟨5, 5, 13, z_left, h_left⟩, ⟨3, 3, 3, otr (opz (· + ·) za zb), h_a_b⟩, ⟨5, 5, 13, z_sum, h_sum⟩, ⟨3, 3, 3, otr (opz (· + ·) zb zc), h_b_c⟩, ⟨5, 5, 11, z_ac, h_ac⟩, ⟨7, 7, 25, z_two, h_two⟩, ⟨7, 7, 29, z_one, h_one⟩, ⟨5, 5, 11, z_bc, h_bc⟩, ⟨5, 5, 11, z_ab, h_ab⟩, ⟨3, 3, 1, zc, g_c⟩, ⟨3, 3, 1, zb, g_b⟩, ⟨3, 3, 1, za, g_a⟩]) := S13.out.later hb
  clear S13 hb
  by_cases hA : 0 < olen za
  rotate_left
  · have hA0 : olen za = 0 := by omega
    have i1 : ¬ ((0 : Int) ≤ ((olen za : Nat) : Int) - 1) := by omega
    clear E4 hA
    go_wp2_with fail
    go_fit (eq_lies (show Lies (EOp 7 7 29) 0 (fun _ => False) _ (z_one) h_one from T1.out.1 6 _ rfl) (show Lies (EOp 7 7 25) 0 (fun _ => False) _ (z_two) h_two from T1.out.1 5 _ rfl) E1.out)
    rintro r x1 ⟨rfl, hb⟩
    have Q1 : Hid (RiS w x1 g al y [⟨5, 5, 13, z_left, h_left⟩, ⟨3, 3, 3, otr (opz (· + ·) za zb), h_a_b⟩, ⟨5, 5, 13, z_sum, h_sum⟩, ⟨3, 3, 3, otr (opz (· + ·) zb zc), h_b_c⟩, ⟨5, 5, 11, z_ac, h_ac⟩, ⟨7, 7, 25, z_two, h_two⟩, ⟨7, 7, 29, z_one, h_one⟩, ⟨5, 5, 11, z_bc, h_bc⟩, ⟨5, 5, 11, z_ab, h_ab⟩, ⟨3, 3, 1, zc, g_c⟩, ⟨3, 3, 1, zb, g_b⟩, ⟨3, 3, 1, za, g_a⟩]) := T1.out.later hb
    clear T1 hb E1
    go_wp2_with fail
    go_fit (add_lies 23 (show Lies (EOp 5 5 11) 0 (fun _ => False) _ (z_ab) h_ab from Q1.out.1 8 _ rfl) (show Lies (EOp 5 5 11) 0 (fun _ => False) _ (z_ac) h_ac from Q1.out.1 4 _ rfl))
    rintro r x2 ⟨h5, rfl, hl, hb⟩
    have Q2 : Hid (RiS w x2 g al y [⟨5, 5, 13, z_left, h_left⟩, ⟨3, 3, 3, otr (opz (· + ·) za zb), h_a_b⟩, ⟨5, 5, 13, z_sum, h_sum⟩, ⟨3, 3, 3, otr (opz (· + ·) zb zc), h_b_c⟩, ⟨5, 5, 11, z_ac, h_ac⟩, ⟨7, 7, 25, z_two, h_two⟩, ⟨7, 7, 29, z_one, h_one⟩, ⟨5, 5, 11, z_bc, h_bc⟩, ⟨5, 5, 11, z_ab, h_ab⟩, ⟨3, 3, 1, zc, g_c⟩, ⟨3, 3, 1, zb, g_b⟩, ⟨3, 3, 1, za, g_a⟩] ∧ Lies (EOp 5 5 23) 0 (fun _ => False) x2 (otr (opz (· + ·) z_ab z_ac)) h5) := ⟨Q1.out.later hb, hl⟩
    clear Q1 hl hb
    go_wp2_with fail
    go_fit (eq_lies (show Lies (EOp 5 5 13) 0 (fun _ => False) _ (z_sum) h_sum from Q2.out.1.1 2 _ rfl) Q2.out.2 E2.out)
    rintro r x3 ⟨rfl, hb⟩
    have Q3 : Hid (RiS w x3 g al y [⟨5, 5, 13, z_left, h_left⟩, ⟨3, 3, 3, otr (opz (· + ·) za zb), h_a_b⟩, ⟨5, 5, 13, z_sum, h_sum⟩, ⟨3, 3, 3, otr (opz (· + ·) zb zc), h_b_c⟩, ⟨5, 5, 11, z_ac, h_ac⟩, ⟨7, 7, 25, z_two, h_two⟩, ⟨7, 7, 29, z_one, h_one⟩, ⟨5, 5, 11, z_bc, h_bc⟩, ⟨5, 5, 11, z_ab, h_ab⟩, ⟨3, 3, 1, zc, g_c⟩, ⟨3, 3, 1, zb, g_b⟩, ⟨3, 3, 1, za, g_a⟩]) := Q2.out.1.later hb
    clear Q2 hb E2
    go_wp2_with fail
    go_fit (add_lies 23 (show Lies (EOp 5 5 11) 0 (fun _ => False) _ (z_ac) h_ac from Q3.out.1 4 _ rfl) (show Lies (EOp 5 5 11) 0 (fun _ => False) _ (z_bc) h_bc from Q3.out.1 7 _ rfl))
    rintro r x4 ⟨h6, rfl, hl, hb⟩
    have Q4 : Hid (RiS w x4 g al y [⟨5, 5, 13, z_left, h_left⟩, ⟨3, 3, 3, otr (opz (· + ·) za zb), h_a_b⟩, ⟨5, 5, 13, z_sum, h_sum⟩, ⟨3, 3, 3, otr (opz (· + ·) zb zc), h_b_c⟩, ⟨5, 5, 11, z_ac, h_ac⟩, ⟨7, 7, 25, z_two, h_two⟩, ⟨7, 7, 29, z_one, h_one⟩, ⟨5, 5, 11, z_bc, h_bc⟩, ⟨5, 5, 11, z_ab, h_ab⟩, ⟨3, 3, 1, zc, g_c⟩, ⟨3, 3, 1, zb, g_b⟩, ⟨3, 3, 1, za, g_a⟩] ∧ Lies (EOp 5 5 23) 0 (fun _ => False) x4 (otr (opz (· + ·) z_ac z_bc)) h6) := ⟨Q3.out.later hb, hl⟩
    clear Q3 hl hb
    go_wp2_with fail
    go_fit (eq_lies (show Lies (EOp 5 5 13) 0 (fun _ => False) _ (z_left) h_left from Q4.out.1.1 0 _ rfl) Q4.out.2 E3.out)
    rintro r x5 ⟨rfl, hb⟩
    have HF : Hid (Below w.heap.size w x5) := (Q4.out.1.later hb).2.2
    clear Q4 hb E3
    go_wp2
    go_ret
    exact ⟨rfl, HF.out⟩
  have i1 : (0 : Int) ≤ ((olen za : Nat) : Int) - 1 := by omega
  go_wp2_with fail
  go_fit (ord_lies (show Lies (EOp 3 3 1) 0 (fun _ => False) _ (zb) g_b from T1.out.1 10 _ rfl))
  rintro r y2 ⟨rfl, hb⟩
  have T2 : Hid (RiS w y2 g al y [⟨5, 5, 13, z_left, h_left⟩, ⟨3, 3, 3, otr (opz (· + ·) za zb), h_a_b⟩, ⟨5, 5, 13, z_sum, h_sum⟩, ⟨3, 3, 3, otr (opz (· + ·) zb zc), h_b_c⟩, ⟨5, 5, 11, z_ac, h_ac⟩, ⟨7, 7, 25, z_two, h_two⟩, ⟨7, 7, 29, z_one, h_one⟩, ⟨5, 5, 11, z_bc, h_bc⟩, ⟨5, 5, 11, z_ab, h_ab⟩, ⟨3, 3, 1, zc, g_c⟩, ⟨3, 3, 1, zb, g_b⟩, ⟨3, 3, 1, za, g_a⟩]) := T1.out.later hb
  clear T1 hb
  by_cases hB : 0 < olen zb
  rotate_left
  · have i2 : ¬ ((0 : Int) ≤ ((olen zb : Nat) : Int) - 1) := by omega
    clear E4 hA hB
    go_wp2_with fail
    go_fit (eq_lies (show Lies (EOp 7 7 29) 0 (fun _ => False) _ (z_one) h_one from T2.out.1 6 _ rfl) (show Lies (EOp 7 7 25) 0 (fun _ => False) _ (z_two) h_two from T2.out.1 5 _ rfl) E1.out)
    rintro r x1 ⟨rfl, hb⟩
    have Q1 : Hid (RiS w x1 g al y [⟨5, 5, 13, z_left, h_left⟩, ⟨3, 3, 3, otr (opz (· + ·) za zb), h_a_b⟩, ⟨5, 5, 13, z_sum, h_sum⟩, ⟨3, 3, 3, otr (opz (· + ·) zb zc), h_b_c⟩, ⟨5, 5, 11, z_ac, h_ac⟩, ⟨7, 7, 25, z_two, h_two⟩, ⟨7, 7, 29, z_one, h_one⟩, ⟨5, 5, 11, z_bc, h_bc⟩, ⟨5, 5, 11, z_ab, h_ab⟩, ⟨3, 3, 1, zc, g_c⟩, ⟨3, 3, 1, zb, g_b⟩, ⟨3, 3, 1, za, g_a⟩]) := T2.out.later hb
    clear T2 hb E1
    go_wp2_with fail
    go_fit (add_lies 23 (show Lies (EOp 5 5 11) 0 (fun _ => False) _ (z_ab) h_ab from Q1.out.1 8 _ rfl) (show Lies (EOp 5 5 11) 0 (fun _ => False) _ (z_ac) h_ac from Q1.out.1 4 _ rfl))
    rintro r x2 ⟨h5, rfl, hl, hb⟩
    have Q2 : Hid (RiS w x2 g al y [⟨5, 5, 13, z_left, h_left⟩, ⟨3, 3, 3, otr (opz (· + ·) za zb), h_a_b⟩, ⟨5, 5, 13, z_sum, h_sum⟩, ⟨3, 3, 3, otr (opz (· + ·) zb zc), h_b_c⟩, ⟨5, 5, 11, z_ac, h_ac⟩, ⟨7, 7, 25, z_two, h_two⟩, ⟨7, 7, 29, z_one, h_one⟩, ⟨5, 5, 11, z_bc, h_bc⟩, ⟨5, 5, 11, z_ab, h_ab⟩, ⟨3, 3, 1, zc, g_c⟩, ⟨3, 3, 1, zb, g_b⟩, ⟨3, 3, 1, za, g_a⟩] ∧ Lies (EOp 5 5 23) 0 (fun _ => False) x2 (otr (opz (· + ·) z_ab z_ac)) h5) := ⟨Q1.out.later hb, hl⟩
    clear Q1 hl hb
    go_wp2_with fail
    go_fit (eq_lies (show Lies (EOp 5 5 13) 0 (fun _ => False) _ (z_sum) h_sum from Q2.out.1.1 2 _ rfl) Q2.out.2 E2.out)
    rintro r x3 ⟨rfl, hb⟩
    have Q3 : Hid (RiS w x3 g al y [⟨5, 5, 13, z_left, h_left⟩, ⟨3, 3, 3, otr (opz (· + ·) za zb), h_a_b⟩, ⟨5, 5, 13, z_sum, h_sum⟩, ⟨3, 3, 3, otr (opz (· + ·) zb zc), h_b_c⟩, ⟨5, 5, 11, z_ac, h_ac⟩, ⟨7, 7, 25, z_two, h_two⟩, ⟨7, 7, 29, z_one, h_one⟩, ⟨5, 5, 11, z_bc, h_bc⟩, ⟨5, 5, 11, z_ab, h_ab⟩, ⟨3, 3, 1, zc, g_c⟩, ⟨3, 3, 1, zb, g_b⟩, ⟨3, 3, 1, za, g_a⟩]) := Q2.out.1.later hb
    clear Q2 hb E2
    go_wp2_with fail
    go_fit (add_lies 23 (show Lies (EOp 5 5 11) 0 (fun _ => False) _ (z_ac) h_ac from Q3.out.1 4 _ rfl) (show Lies (EOp 5 5 11) 0 (fun _ => False) _ (z_bc) h_bc from Q3.out.1 7 _ rfl))
    rintro r x4 ⟨h6, rfl, hl, hb⟩
    have Q4 : Hid (RiS w x4 g al y [⟨5, 5, 13, z_left, h_left⟩, ⟨3, 3, 3, otr (opz (· + ·) za zb), h_a_b⟩, ⟨5, 5, 13, z_sum, h_sum⟩, ⟨3, 3, 3, otr (opz (· + ·) zb zc), h_b_c⟩, ⟨5, 5, 11, z_ac, h_ac⟩, ⟨7, 7, 25, z_two, h_two⟩, ⟨7, 7, 29, z_one, h_one⟩, ⟨5, 5, 11, z_bc, h_bc⟩, ⟨5, 5, 11, z_ab, h_ab⟩, ⟨3, 3, 1, zc, g_c⟩, ⟨3, 3, 1, zb, g_b⟩, ⟨3, 3, 1, za, g_a⟩] ∧ Lies (EOp 5 5 23) 0 (fun _ => False) x4 (otr (opz (· + ·) z_ac z_bc)) h6) := ⟨Q3.out.later hb, hl⟩
    clear Q3 hl hb
    go_wp2_with fail
    go_fit (eq_lies (show Lies (EOp 5 5 13) 0 (fun _ => False) _ (z_left) h_left from Q4.out.1.1 0 _ rfl) Q4.out.2 E3.out)
    rintro r x5 ⟨rfl, hb⟩
    have HF : Hid (Below w.heap.size w x5) := (Q4.out.1.later hb).2.2
    clear Q4 hb E3
    go_wp2
    go_ret
    exact ⟨rfl, HF.out⟩
  have i2 : (0 : Int) ≤ ((olen zb : Nat) : Int) - 1 := by omega
  have E5 : Hid ((((olen z_ab : Nat) : Int) - 1) = (((olen za : Nat) : Int) - 1) + (((olen zb : Nat) : Int) - 1)) := by have := E4.out hA hB; show _ = _; omega
  have hsa : olen za ≤ 3 := HR.rows (show Lies (EOp 3 3 1) 0 (fun _ => False) _ za g_a from T2.out.1 11 _ rfl).choose_spec.choose_spec.1
  have hsb : olen zb ≤ 3 := HR.rows (show Lies (EOp 3 3 1) 0 (fun _ => False) _ zb g_b from T2.out.1 10 _ rfl).choose_spec.choose_spec.1
  have b1 : ((olen za : Nat) : Int) - 1 ≤ 2 := by omega
  have b2 : ((olen zb : Nat) : Int) - 1 ≤ 2 := by omega
  clear E4 hA hB hsa hsb
  go_wp2_with fail
  go_fit (ord_lies (show Lies (EOp 5 5 11) 0 (fun _ => False) _ (z_ab) h_ab from T2.out.1 8 _ rfl))
  rintro r y3 ⟨rfl, hb⟩
  have T3 : Hid (RiS w y3 g al y [⟨5, 5, 13, z_left, h_left⟩, ⟨3, 3, 3, otr (opz (· + ·) za zb), h_a_b⟩, ⟨5, 5, 13, z_sum, h_sum⟩, ⟨3, 3, 3, otr (opz (· + ·) zb zc), h_b_c⟩, ⟨5, 5, 11, z_ac, h_ac⟩, ⟨7, 7, 25, z_two, h_two⟩, ⟨7, 7, 29, z_one, h_one⟩, ⟨5, 5, 11, z_bc, h_bc⟩, ⟨5, 5, 11, z_ab, h_ab⟩, ⟨3, 3, 1, zc, g_c⟩, ⟨3, 3, 1, zb, g_b⟩, ⟨3, 3, 1, za, g_a⟩]) := T2.out.later hb
  clear T2 hb
  go_wp2_with fail
  go_fit (ord_lies (show Lies (EOp 3 3 1) 0 (fun _ => False) _ (za) g_a from T3.out.1 11 _ rfl))
  rintro r y4 ⟨rfl, hb⟩
  have T4 : Hid (RiS w y4 g al y [⟨5, 5, 13, z_left, h_left⟩, ⟨3, 3, 3, otr (opz (· + ·) za zb), h_a_b⟩, ⟨5, 5, 13, z_sum, h_sum⟩, ⟨3, 3, 3, otr (opz (· + ·) zb zc), h_b_c⟩, ⟨5, 5, 11, z_ac, h_ac⟩, ⟨7, 7, 25, z_two, h_two⟩, ⟨7, 7, 29, z_one, h_one⟩, ⟨5, 5, 11, z_bc, h_bc⟩, ⟨5, 5, 11, z_ab, h_ab⟩, ⟨3, 3, 1, zc, g_c⟩, ⟨3, 3, 1, zb, g_b⟩, ⟨3, 3, 1, za, g_a⟩]) := T3.out.later hb
  clear T3 hb
  go_wp2_with fail
  go_fit (ord_lies (show Lies (EOp 3 3 1) 0 (fun _ => False) _ (zb) g_b from T4.out.1 10 _ rfl))
  rintro r y5 ⟨rfl, hb⟩
  have T5 : Hid (RiS w y5 g al y [⟨5, 5, 13, z_left, h_left⟩, ⟨3, 3, 3, otr (opz (· + ·) za zb), h_a_b⟩, ⟨5, 5, 13, z_sum, h_sum⟩, ⟨3, 3, 3, otr (opz (· + ·) zb zc), h_b_c⟩, ⟨5, 5, 11, z_ac, h_ac⟩, ⟨7, 7, 25, z_two, h_two⟩, ⟨7, 7, 29, z_one, h_one⟩, ⟨5, 5, 11, z_bc, h_bc⟩, ⟨5, 5, 11, z_ab, h_ab⟩, ⟨3, 3, 1, zc, g_c⟩, ⟨3, 3, 1, zb, g_b⟩, ⟨3, 3, 1, za, g_a⟩]) := T4.out.later hb
  clear T4 hb
  rw [E5.out]
  generalize ((olen za : Nat) : Int) - 1 = oa at *
  generalize ((olen zb : Nat) : Int) - 1 = ob at *
  go_wp2_with fail
  go_fit (eq_lies (show Lies (EOp 7 7 29) 0 (fun _ => False) _ (z_one) h_one from T5.out.1 6 _ rfl) (show Lies (EOp 7 7 25) 0 (fun _ => False) _ (z_two) h_two from T5.out.1 5 _ rfl) E1.out)
  rintro r x1 ⟨rfl, hb⟩
  have Q1 : Hid (RiS w x1 g al y [⟨5, 5, 13, z_left, h_left⟩, ⟨3, 3, 3, otr (opz (· + ·) za zb), h_a_b⟩, ⟨5, 5, 13, z_sum, h_sum⟩, ⟨3, 3, 3, otr (opz (· + ·) zb zc), h_b_c⟩, ⟨5, 5, 11, z_ac, h_ac⟩, ⟨7, 7, 25, z_two, h_two⟩, ⟨7, 7, 29, z_one, h_one⟩, ⟨5, 5, 11, z_bc, h_bc⟩, ⟨5, 5, 11, z_ab, h_ab⟩, ⟨3, 3, 1, zc, g_c⟩, ⟨3, 3, 1, zb, g_b⟩, ⟨3, 3, 1, za, g_a⟩]) := T5.out.later hb
  clear T5 hb E1
  go_wp2_with fail
  go_fit (add_lies 23 (show Lies (EOp 5 5 11) 0 (fun _ => False) _ (z_ab) h_ab from Q1.out.1 8 _ rfl) (show Lies (EOp 5 5 11) 0 (fun _ => False) _ (z_ac) h_ac from Q1.out.1 4 _ rfl))
  rintro r x2 ⟨h5, rfl, hl, hb⟩
  have Q2 : Hid (RiS w x2 g al y [⟨5, 5, 13, z_left, h_left⟩, ⟨3, 3, 3, otr (opz (· + ·) za zb), h_a_b⟩, ⟨5, 5, 13, z_sum, h_sum⟩, ⟨3, 3, 3, otr (opz (· + ·) zb zc), h_b_c⟩, ⟨5, 5, 11, z_ac, h_ac⟩, ⟨7, 7, 25, z_two, h_two⟩, ⟨7, 7, 29, z_one, h_one⟩, ⟨5, 5, 11, z_bc, h_bc⟩, ⟨5, 5, 11, z_ab, h_ab⟩, ⟨3, 3, 1, zc, g_c⟩, ⟨3, 3, 1, zb, g_b⟩, ⟨3, 3, 1, za, g_a⟩] ∧ Lies (EOp 5 5 23) 0 (fun _ => False) x2 (otr (opz (· + ·) z_ab z_ac)) h5) := ⟨Q1.out.later hb, hl⟩
  clear Q1 hl hb
  go_wp2_with fail
  go_fit (eq_lies (show Lies (EOp 5 5 13) 0 (fun _ => False) _ (z_sum) h_sum from Q2.out.1.1 2 _ rfl) Q2.out.2 E2.out)
  rintro r x3 ⟨rfl, hb⟩
  have Q3 : Hid (RiS w x3 g al y [⟨5, 5, 13, z_left, h_left⟩, ⟨3, 3, 3, otr (opz (· + ·) za zb), h_a_b⟩, ⟨5, 5, 13, z_sum, h_sum⟩, ⟨3, 3, 3, otr (opz (· + ·) zb zc), h_b_c⟩, ⟨5, 5, 11, z_ac, h_ac⟩, ⟨7, 7, 25, z_two, h_two⟩, ⟨7, 7, 29, z_one, h_one⟩, ⟨5, 5, 11, z_bc, h_bc⟩, ⟨5, 5, 11, z_ab, h_ab⟩, ⟨3, 3, 1, zc, g_c⟩, ⟨3, 3, 1, zb, g_b⟩, ⟨3, 3, 1, za, g_a⟩]) := Q2.out.1.later hb
  clear Q2 hb E2
  go_wp2_with fail
  go_fit (add_lies 23 (show Lies (EOp 5 5 11) 0 (fun _ => False) _ (z_ac) h_ac from Q3.out.1 4 _ rfl) (show Lies (EOp 5 5 11) 0 (fun _ => False) _ (z_bc) h_bc from Q3.out.1 7 _ rfl))
  rintro r x4 ⟨h6, rfl, hl, hb⟩
  have Q4 : Hid (RiS w x4 g al y [⟨5, 5, 13, z_left, h_left⟩, ⟨3, 3, 3, otr (opz (· + ·) za zb), h_a_b⟩, ⟨5, 5, 13, z_sum, h_sum⟩, ⟨3, 3, 3, otr (opz (· + ·) zb zc), h_b_c⟩, ⟨5, 5, 11, z_ac, h_ac⟩, ⟨7, 7, 25, z_two, h_two⟩, ⟨7, 7, 29, z_one, h_one⟩, ⟨5, 5, 11, z_bc, h_bc⟩, ⟨5, 5, 11, z_ab, h_ab⟩, ⟨3, 3, 1, zc, g_c⟩, ⟨3, 3, 1, zb, g_b⟩, ⟨3, 3, 1, za, g_a⟩] ∧ Lies (EOp 5 5 23) 0 (fun _ => False) x4 (otr (opz (· + ·) z_ac z_bc)) h6) := ⟨Q3.out.later hb, hl⟩
  clear Q3 hl hb
  go_wp2_with fail
  go_fit (eq_lies (show Lies (EOp 5 5 13) 0 (fun _ => False) _ (z_left) h_left from Q4.out.1.1 0 _ rfl) Q4.out.2 E3.out)
  rintro r x5 ⟨rfl, hb⟩
  have HF : Hid (Below w.heap.size w x5) := (Q4.out.1.later hb).2.2
  clear Q4 hb E3
  go_wp2
  go_ret
  exact ⟨rfl, HF.out⟩
open Go.ChangeShapes Go.WideShapes Go.ChangeAt Go.RowKit Go.Joins
theorem cellsInt : Tryz.prog.cellsOf 26 = 2 := by kernel_rfl
theorem cellsLimb : Tryz.prog.cellsOf 88 = 1 := by kernel_rfl
def IntArg (W : World) (v : Value) : Prop := ∃ (s : Bool) (pa : Option Addr) (n nc : Nat) (xs : List Int), v = .agg #[.bool s, .slice pa n nc] ∧ xs.length = n ∧ n ≤ nc ∧ nc ≤ maxLen ∧ Rd W pa .u32 xs ∧ U32 xs ∧ (pa = none → nc = 0)
set_option maxRecDepth 100000 in
theorem openInt {H : Type} {enc : TypeId × Value → H} {W : World} {base : Nat} {v0 : Value} {d0 : DataW H} {p0 : List MemPlace} (hv : Value.okWide Tryz.prog W .any base 26 v0)
    (h0 : DataW.Trod enc Tryz.prog W 0 (fun _ => true) true 26 v0 d0 p0) : IntArg W v0 := by
  obtain ⟨c0, c1, y0, y1, k, rfl, -, -, hy0, hy1⟩ := open_agg2 Tryz.underlying26 (by kernel_rfl) cellsInt hv h0
  obtain ⟨s, e0, -⟩ := DataW.trod_bool Tryz.underlying4 hy0
  simp only [List.cons.injEq, and_true] at e0
  subst e0
  rcases open_ints Tryz.underlying24 Tryz.underlying88 cellsLimb hy1 with ⟨hcs, -⟩ | ⟨a, len, cap, zs, hcs, -, hl, hm, hz, -, hcell, hwz⟩
  · simp only [List.cons.injEq, and_true] at hcs
    subst hcs
    exact ⟨s, none, 0, 0, [], rfl, rfl, Nat.le_refl _, Nat.zero_le _, Rd.nil, u32_nil, fun _ => rfl⟩
  · simp only [List.cons.injEq, and_true] at hcs
    subst hcs
    simp only [if_true] at hz
    refine ⟨s, some a, len, cap, zs.take len, rfl, by simp; omega, hl, hm, ?_, ?_, fun h => by cases h⟩
    · intro hp
      have hp' : 0 < zs.length := by simp at hp; omega
      obtain ⟨b, off, rfl, hc⟩ := ints_at hcell hp'
      refine ⟨b, off, rfl, fun j hj => ?_⟩
      have hj' : j < len ∧ j < zs.length := by simp at hj; omega
      rw [gx_take _ _ _ hj'.1]
      exact hc j hj'.2
    · refine u32_take (fun j => ?_) len
      by_cases hj : j < zs.length
      · have := hwz zs[j] (List.getElem_mem hj)
        rw [gx_mem zs j hj]
        have h4 : 0 ≤ zs[j] ∧ zs[j] ≤ 4294967295 := by
          simpa [Lit.wf, IntKind.min, IntKind.max, IntKind.signed, IntKind.bits] using this
        exact ⟨h4.1, by omega⟩
      · rw [gx_past zs _ (Nat.le_refl _) j (by omega)]; decide
set_option maxRecDepth 100000 in
theorem openOp {H : Type} {enc : TypeId × Value → H} {W : World} {v0 : Value} {d0 : DataW H} {p0 : List MemPlace} {base : Nat} (hv : Value.okWide Tryz.prog W .any base 51 v0)
    (h0 : DataW.Trod enc Tryz.prog W 0 (fun _ => true) true 51 v0 d0 p0) : ∃ (p : Option Addr) (n nc : Nat) (hs : List Hdr), v0 = .slice p n nc ∧ RZ W p n nc hs := by
  obtain ⟨a0, len, cap, rfl⟩ := okWide_slice Tryz.underlying51 hv
  obtain ⟨fuel, hf⟩ := h0
  obtain ⟨-, h1, h2, h3, hs, h4, h5, h6⟩ := sliceT Tryz.underlying51 cellsP hf (E := fun h => ∃ es, PZ W h.p h.n h.c es) (fun fuel u y hy => polyT hy)
  exact ⟨a0, len, cap, hs, rfl, h4, h1, h2, h3, h5, h6⟩
end Go.Proofs.YtejnhpjejcpekaaGreatDoor
