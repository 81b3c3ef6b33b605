/-
  The set-up of layer 7's laws answers true, in whatever memory, and leaves what was there.
-/
import Derived.Test.YtmjokfcojilidaaGreatDoorG9
import Derived.Test.YtmjokfcojilidaaGreatDoorProg
import Derived.Test.YtmjokfcojilidaaGreatDoorAkAl
import Derived.Test.YtmjokfcojilidaaGreatDoorDwDpAa
import Derived.Deep.DeepFit
namespace Go.Proofs.YtmjokfcojilidaaGreatDoor
open Go.RowKit
theorem nong7 : Ev.NoNG Tryz.prog := Ev.nong_of (by kernel_rfl)
theorem begun8_any (w : World) : Calls Tryz.prog 6 #[] w fun r w' => r = .returned (.bool true) ∧ Below w.heap.size w w' :=
  Ev.closed_call nong7 (by kernel_rfl) (n := 100000) (by kernel_rfl) w
end Go.Proofs.YtmjokfcojilidaaGreatDoor
/-
  OreSums' walk.
-/
namespace Go.Proofs.YtmjokfcojilidaaGreatDoor
open Go.RowKit
set_option linter.unusedVariables false
set_option linter.unusedSimpArgs false

/-- An operator that is handed in, cut; what the reference makes of it. -/
def OpAt (w : World) (z : List (List Int)) (h : Hdr) : Prop := ∃ B T, HR 5 (EZ 2 4) w B T z h ∧ T ≤ w.heap.size
def RfAt (w : World) (z : List (List Int)) (h : Hdr) : Prop := ∃ B T, HR 5 (EY 4 4) w B T (oz z) h ∧ T ≤ w.heap.size
theorem OpAt.below {w w' : World} {z : List (List Int)} {h : Hdr} (k : OpAt w z h) (hb : Below w.heap.size w w') : OpAt w' z h := by
  obtain ⟨B, T, a, b⟩ := k
  exact ⟨B, T, (lasts_HR (lasts_EZ 2 4)).below a b hb, Nat.le_trans b hb.size⟩
theorem RfAt.below {w w' : World} {z : List (List Int)} {h : Hdr} (k : RfAt w z h) (hb : Below w.heap.size w w') : RfAt w' z h := by
  obtain ⟨B, T, a, b⟩ := k
  exact ⟨B, T, (lasts_HR (lasts_EY 4 4)).below a b hb, Nat.le_trans b hb.size⟩
theorem OpAt.from {w : World} {z : List (List Int)} {h : Hdr} (k : OpAt w z h) : Calls Tryz.prog 22 #[.slice h.p h.n h.c] w fun e w' => ∃ u, e = .returned (.slice u (olen z) (olen z)) ∧ RfAt w' z ⟨u, olen z, olen z⟩ ∧ Below w.heap.size w w' := by
  obtain ⟨B, T, a, b⟩ := k
  refine (rFrom8_any a b (by decide) (by decide) (by decide)).mono ?_
  rintro e w' ⟨u, rfl, h1, h2⟩
  rw [olen_mapt] at h1 ⊢
  rw [otr_mapt] at h1
  exact ⟨u, rfl, ⟨_, _, h1, Nat.le_refl _⟩, h2⟩
/-- An operator that is answered. -/
def AnsO (l : List (List Int)) (w : World) (e : Ending) (w' : World) : Prop := ∃ B p n hs K E, e = .returned (.slice p n n) ∧ NO B w' K E l p n hs ∧ K ≤ 1000 ∧ E ≤ 1000000 ∧ Below w.heap.size w w'
/-- An operator of the reference that is answered. -/
def AnsR (l : List (List Int)) (w : World) (e : Ending) (w' : World) : Prop := ∃ B T p n N E, e = .returned (.slice p n n) ∧ HR 5 (EY N E) w' B T l ⟨p, n, n⟩ ∧ T ≤ w'.heap.size ∧ N ≤ 1000 ∧ Below w.heap.size w w'
theorem ans_o {l r : List (List Int)} {K E : Nat} {w : World} {e : Ending} {w' : World} (h : OpP l K E w e w') (hr : otr l = r) (hK : K ≤ 1000) (hE : E ≤ 1000000) : AnsO r w e w' := by
  obtain ⟨p, hs, a, b, c⟩ := h
  rw [hr] at b
  exact ⟨_, p, _, hs, K, E, a, b, hK, hE, c⟩
theorem ans_r {l r : List (List Int)} {N E : Nat} {w : World} {e : Ending} {w' : World} (h : OrP 5 l N E w e w') (hr : otr l = r) (hN : N ≤ 1000) : AnsR r w e w' := by
  obtain ⟨p, a, b, c⟩ := h
  rw [hr] at b
  exact ⟨_, _, p, _, N, E, a, b, Nat.le_refl _, hN, c⟩
theorem OpAt.add {w : World} {z y : List (List Int)} {h k : Hdr} (H : OpAt w z h) (G : OpAt w y k) : Calls Tryz.prog 24 #[.slice h.p h.n h.c, .slice k.p k.n k.c] w (AnsO (otr (opz (· + ·) z y)) w) := by
  obtain ⟨B, T, a, b⟩ := H
  obtain ⟨B2, T2, a2, b2⟩ := G
  exact (oAdd_any a a2 b b2 (by decide) (by decide) (by decide) (by decide)).mono fun e w' h => ans_o h rfl (by decide) (by decide)
theorem OpAt.sub {w : World} {z y : List (List Int)} {h k : Hdr} (H : OpAt w z h) (G : OpAt w y k) : Calls Tryz.prog 26 #[.slice h.p h.n h.c, .slice k.p k.n k.c] w (AnsO (otr (opz (· - ·) z y)) w) := by
  obtain ⟨B, T, a, b⟩ := H
  obtain ⟨B2, T2, a2, b2⟩ := G
  exact (oSub_any a a2 b b2 (by decide) (by decide) (by decide) (by decide)).mono fun e w' h => ans_o h rfl (by decide) (by decide)
theorem OpAt.scale {w : World} {y : List (List Int)} {k : Hdr} {p : Option Addr} {n nc : Nat} {es : List Ent} {zs : List Int} (P : PA w 2 p n nc es zs) (hn : n ≤ 4) (G : OpAt w y k) : Calls Tryz.prog 28 #[.slice p n nc, .slice k.p k.n k.c] w (AnsO (otr ((oz y).map (mulp (tr zs)))) w) := by
  obtain ⟨B2, T2, a2, b2⟩ := G
  exact (oScale_any P hn a2 b2 (by decide)).mono fun e w' h => ans_o h (by rw [rng_mul (mulp (tr zs)) y]) (by decide) (by decide)
theorem OpAt.norm {w : World} {y : List (List Int)} {k : Hdr} (G : OpAt w y k) : Calls Tryz.prog 30 #[.slice k.p k.n k.c] w (AnsO (oz y) w) := by
  obtain ⟨B2, T2, a2, b2⟩ := G
  exact (oNorm_any a2 b2 (by decide) (by decide) (by decide)).mono fun e w' h => ans_o h (by rw [rng_oz, otr_oz]) (by decide) (by decide)
theorem RfAt.add {w : World} {z y : List (List Int)} {h k : Hdr} (H : RfAt w z h) (G : RfAt w y k) : Calls Tryz.prog 25 #[.slice h.p h.n h.c, .slice k.p k.n k.c] w (AnsR (otr (opz (· + ·) z y)) w) := by
  obtain ⟨B, T, a, b⟩ := H
  obtain ⟨B2, T2, a2, b2⟩ := G
  exact (rAdd8_any a a2 b b2 (by decide) (by decide) (by decide) (by decide) (by decide) (by decide)).mono fun e w' h => ans_r h (otr_sum _ z y) (by decide)
theorem RfAt.sub {w : World} {z y : List (List Int)} {h k : Hdr} (H : RfAt w z h) (G : RfAt w y k) : Calls Tryz.prog 27 #[.slice h.p h.n h.c, .slice k.p k.n k.c] w (AnsR (otr (opz (· - ·) z y)) w) := by
  obtain ⟨B, T, a, b⟩ := H
  obtain ⟨B2, T2, a2, b2⟩ := G
  exact (rSub8_any a a2 b b2 (by decide) (by decide)).mono fun e w' h => ans_r h (otr_dif z y) (by decide)
theorem RfAt.scale {w : World} {y : List (List Int)} {k : Hdr} {p : Option Addr} {n nc : Nat} {es : List Ent} {zs : List Int} (P : PR w 4 p n nc es (tr zs)) (hn : n ≤ 4) (G : RfAt w y k) : Calls Tryz.prog 29 #[.slice p n nc, .slice k.p k.n k.c] w (AnsR (otr ((oz y).map (mulp (tr zs)))) w) := by
  obtain ⟨B2, T2, a2, b2⟩ := G
  exact (rScale8_any (K := 2) (L := 2) (E' := 8) P (by rw [tlen_tr, length_tr]) (by decide) (pr_bdk (K := 2) P) a2 b2 (by decide) (by decide) (by omega) (by decide) (by omega) (by decide)).mono fun e w' h => ans_r h rfl (by decide)
theorem ans_is {l : List (List Int)} {w : World} {B B2 T2 K E N E2 : Nat} {p q : Option Addr} {n m : Nat} {hs : List Hdr} (H : NO B w K E l p n hs) (G : HR 5 (EY N E2) w B2 T2 l ⟨q, m, m⟩) (hT : T2 ≤ w.heap.size) (hK : K ≤ 1000) (hN : N ≤ 1000) (hE : E ≤ 1000000) : Calls Tryz.prog 23 #[.slice p n n, .slice q m m] w fun r w' => r = .returned (.bool true) ∧ Below w.heap.size w w' :=
  rIs8_any H G hT (by decide) hK hN hE
theorem ans_isu {z : List (List Int)} {w : World} {B K E : Nat} {p u : Option Addr} {n : Nat} {hs : List Hdr} (H : NO B w K E (oz z) p n hs) (G : RfAt w z ⟨u, olen z, olen z⟩) (hK : K ≤ 1000) (hE : E ≤ 1000000) : Calls Tryz.prog 23 #[.slice p n n, .slice u (olen z) (olen z)] w fun r w' => r = .returned (.bool true) ∧ Below w.heap.size w w' := by
  obtain ⟨B2, T2, a2, b2⟩ := G
  exact rIs8_any H a2 b2 (by decide) hK (by decide) hE
theorem OpAt.lead {w : World} {z : List (List Int)} {h : Hdr} (H : OpAt w z h) : Calls Tryz.prog 31 #[.slice h.p h.n h.c] w (PnP (tr (gt z (olen z - 1))) 2 w) := by
  obtain ⟨B, T, a, b⟩ := H
  exact oLead_any a b (by decide) (by decide) (by decide)
theorem RfAt.lead {w : World} {z : List (List Int)} {h : Hdr} (H : RfAt w z h) : Calls Tryz.prog 32 #[.slice h.p h.n h.c] w fun e w' => ∃ q m fs, e = .returned (.slice q m m) ∧ PR w' 4 q m m fs (tr (gt z (olen z - 1))) ∧ Below w.heap.size w w' := by
  obtain ⟨B, T, a, b⟩ := H
  refine (rLead8_any a (by decide)).mono ?_
  rintro e w' ⟨⟨q, m, mc⟩, rfl, ⟨fs, g1, g2, g3, g4, g5⟩, rfl⟩
  simp only at g1 g2
  subst g2
  rw [length_oz, gt_oz] at g1
  exact ⟨q, mc, fs, rfl, g1, Below.refl _ _⟩
theorem lead_is {B : Nat} {w : World} {p q : Option Addr} {n m : Nat} {es fs : List Ent} {zs : List Int} (h : PN B w 2 p n es zs) (k : PR w 4 q m m fs zs) (hl : zs.length ≤ 1000000) : Calls Tryz.prog 12 #[.slice p n n, .slice q m m] w fun r w' => r = .returned (.bool true) ∧ Below w.heap.size w w' := by
  obtain rfl : m = n := by rw [← h.zl, ← k.zl]
  exact rpIs_any h k (by decide) (by decide) (by rw [← h.zl]; exact hl)
theorem OpAt.order {w : World} {z : List (List Int)} {h : Hdr} (H : OpAt w z h) : Calls Tryz.prog 33 #[.slice h.p h.n h.c] w fun e w' => e = .returned (.int .i64 ((olen z : Int) - 1)) ∧ Below w.heap.size w w' := by
  obtain ⟨B, T, a, b⟩ := H
  exact oOrder_any a b (by decide) (by decide)
theorem OpAt.degree {w : World} {z : List (List Int)} {h : Hdr} (H : OpAt w z h) : Calls Tryz.prog 35 #[.slice h.p h.n h.c] w fun e w' => e = .returned (.int .i64 (odeg z)) ∧ Below w.heap.size w w' := by
  obtain ⟨B, T, a, b⟩ := H
  exact oDegree_any a b (by decide) (by decide)
theorem OpAt.bits {w : World} {z : List (List Int)} {h : Hdr} (H : OpAt w z h) : Calls Tryz.prog 37 #[.slice h.p h.n h.c] w fun e w' => e = .returned (.int .i64 (obit z)) ∧ Below w.heap.size w w' := by
  obtain ⟨B, T, a, b⟩ := H
  exact oBits_any a b (by decide) (by decide) (by decide)
theorem OpAt.eq {w : World} {z y : List (List Int)} {h k : Hdr} (H : OpAt w z h) (G : OpAt w y k) : Calls Tryz.prog 39 #[.slice h.p h.n h.c, .slice k.p k.n k.c] w fun e w' => e = .returned (.bool (decide (oz z = oz y))) ∧ Below w.heap.size w w' := by
  obtain ⟨B, T, a, b⟩ := H
  obtain ⟨B2, T2, a2, b2⟩ := G
  exact oEq_any a a2 b b2 (by decide) (by decide)
theorem RfAt.degree {w : World} {z : List (List Int)} {h : Hdr} (H : RfAt w z h) : Calls Tryz.prog 36 #[.slice h.p h.n h.c] w fun e w' => e = .returned (.int .i64 (odeg z)) ∧ Below w.heap.size w w' := by
  obtain ⟨B, T, a, b⟩ := H
  have := rDegree8_any a b (by decide) (by decide)
  rwa [odeg_oz] at this
theorem RfAt.bits {w : World} {z : List (List Int)} {h : Hdr} (H : RfAt w z h) : Calls Tryz.prog 38 #[.slice h.p h.n h.c] w fun e w' => e = .returned (.int .i64 (obit z)) ∧ Below w.heap.size w w' := by
  obtain ⟨B, T, a, b⟩ := H
  have := rBits8_any a b (by decide) (by decide) (by decide)
  rwa [obit_oz] at this
theorem RfAt.eq {w : World} {z y : List (List Int)} {h k : Hdr} (H : RfAt w z h) (G : RfAt w y k) : Calls Tryz.prog 40 #[.slice h.p h.n h.c, .slice k.p k.n k.c] w fun e w' => e = .returned (.bool (decide (oz z = oz y))) ∧ Below w.heap.size w w' := by
  obtain ⟨B, T, a, b⟩ := H
  obtain ⟨B2, T2, a2, b2⟩ := G
  exact rEq8_any a a2 b b2 (by decide) (by decide) (by decide) (by decide)
theorem rorder_at (w : World) (u : Option Addr) (n : Nat) (hn : n ≤ 1000000) : Calls Tryz.prog 34 #[.slice u n n] w fun e w' => e = .returned (.int .i64 ((n : Int) - 1)) ∧ Below w.heap.size w w' :=
  (rOrder8_any w u n n hn).mono fun e w' ⟨a, b⟩ => ⟨a, by rw [b]; exact Below.refl _ _⟩
/-- What is there behind the set-up. -/
structure SumsAt (w : World) (z y : List (List Int)) (ha hb : Hdr) (p : Option Addr) (n nc : Nat) (es : List Ent) (zs : List Int) (u v : Option Addr) : Prop where
  a : OpAt w z ha
  b : OpAt w y hb
  p : PA w 2 p n nc es zs
  n : n ≤ 4
  u : RfAt w z ⟨u, olen z, olen z⟩
  v : RfAt w y ⟨v, olen y, olen y⟩
theorem SumsAt.below {w w' : World} {z y : List (List Int)} {ha hb : Hdr} {p : Option Addr} {n nc : Nat} {es : List Ent} {zs : List Int} {u v : Option Addr} (h : SumsAt w z y ha hb p n nc es zs u v) (hb' : Below w.heap.size w w') : SumsAt w' z y ha hb p n nc es zs u v :=
  ⟨h.a.below hb', h.b.below hb', h.p.below hb', h.n, h.u.below hb', h.v.below hb'⟩
theorem from_len4 {w : World} {K : Nat} {p : Option Addr} {n nc m D : Nat} {es : List Ent} {zs : List Int} (ht : tlen (tr zs) = m) (h : PA w K p n nc es zs) (hn : n ≤ D) : m ≤ D := by
  have h1 := tlen_le zs
  have h2 := h.zl
  rw [tlen_tr] at ht
  omega
set_option maxHeartbeats 4000000 in
set_option maxRecDepth 100000 in
theorem OreSums_walk {w : World} {p : Option Addr} {n nc : Nat} {hs0 : List Hdr} (h : RZ w p n nc hs0) {q : Option Addr} {m mc : Nat} {rs0 : List Hdr} (k : RZ w q m mc rs0) {r : Option Addr} {l lc : Nat} {es0 : List Ent} (hp : PZ w r l lc es0) :
    Calls Tryz.prog 4 #[.slice p n nc, .slice q m mc, .slice r l lc] w fun e w' => e = .returned (.bool true) ∧ Below w.heap.size w w' := by
  have HX : Hid (RZ w p n nc hs0 ∧ RZ w q m mc rs0 ∧ PZ w r l lc es0) := ⟨h, k, hp⟩
  clear h k hp
  go_enter Tryz.func4, Tryz.ntmps4
  go_wp2_with fail
  go_fit (begun8_any w)
  rintro e w1 ⟨rfl, hb1⟩
  have HB1 : Hid (Below w.heap.size w w1) := hb1
  have hc := few8_any (HX.out.1.below hb1)
  clear hb1
  go_wp2_with fail
  go_fit hc
  rintro e w2 ⟨⟨pa, na, ca⟩, z, rfl, -, ha, hb2⟩
  have HB2 : Hid (Below w.heap.size w w2) := bnext' HB1.out hb2
  have HA2 : Hid (OpAt w2 z ⟨pa, na, ca⟩) := ⟨_, _, ha, Nat.le_refl _⟩
  have hc := few8_any (HX.out.2.1.below HB2.out)
  clear hb2 ha HB1
  simp only [Hdr.val]
  go_wp2_with fail
  go_fit hc
  rintro e w3 ⟨⟨pb', nb, cb⟩, y, rfl, -, hb, hb3⟩
  have HB3 : Hid (Below w.heap.size w w3) := bnext' HB2.out hb3
  have HA3 : Hid (OpAt w3 z ⟨pa, na, ca⟩ ∧ OpAt w3 y ⟨pb', nb, cb⟩) := ⟨HA2.out.below hb3, ⟨_, _, hb, Nat.le_refl _⟩⟩
  have hc := Cut3_any (HX.out.2.2.below HB3.out) 4 2 (by decide) (by decide)
  clear hb hb3 HB2 HA2
  simp only [Hdr.val]
  go_wp2_with fail
  go_fit hc
  rintro e w4 ⟨pc, nc', cc, fs, zs, rfl, hP, hn', -, -, hb4⟩
  have hn4 : nc' ≤ 4 := by omega
  have HB4 : Hid (Below w.heap.size w w4) := bnext' HB3.out hb4
  have HA4 : Hid (OpAt w4 z ⟨pa, na, ca⟩ ∧ OpAt w4 y ⟨pb', nb, cb⟩ ∧ PA w4 2 pc nc' cc fs zs) := ⟨HA3.out.1.below hb4, HA3.out.2.below hb4, hP⟩
  clear hn' hP hb4 HB3 HA3
  have hc := HA4.out.1.from
  try simp only at hc
  go_wp2_with fail
  go_fit hc
  rintro e w5 ⟨u, rfl, hu, hb5⟩
  have HB5 : Hid (Below w.heap.size w w5) := bnext' HB4.out hb5
  have HA5 : Hid (OpAt w5 z ⟨pa, na, ca⟩ ∧ OpAt w5 y ⟨pb', nb, cb⟩ ∧ PA w5 2 pc nc' cc fs zs ∧ RfAt w5 z ⟨u, olen z, olen z⟩) := ⟨HA4.out.1.below hb5, HA4.out.2.1.below hb5, HA4.out.2.2.below hb5, hu⟩
  clear hu hb5 HB4 HA4
  have hc := HA5.out.2.1.from
  try simp only at hc
  go_wp2_with fail
  go_fit hc
  rintro e w6 ⟨v, rfl, hv, hb6⟩
  have HB6 : Hid (Below w.heap.size w w6) := bnext' HB5.out hb6
  have HS6 : Hid (SumsAt w6 z y ⟨pa, na, ca⟩ ⟨pb', nb, cb⟩ pc nc' cc fs zs u v) := ⟨HA5.out.1.below hb6, HA5.out.2.1.below hb6, HA5.out.2.2.1.below hb6, hn4, HA5.out.2.2.2.below hb6, hv⟩
  clear hv hb6 HB5 HA5
  have ho1 : Hid (olen z ≤ 1000000) := by obtain ⟨_, _, ⟨_, g⟩, _⟩ := HS6.out.a; have h1 := olen_le z; have h2 := g.tl; have h3 := g.few; show _ ≤ _; omega
  have hc := HS6.out.a.add HS6.out.b
  try simp only at hc
  go_wp2_with fail
  go_fit hc
  rintro e w7 ⟨B1, p1, n1, hs1, K1, E1, rfl, hN1, hK1, hE1, hb⟩
  have HB7 : Hid (Below w.heap.size w w7) := bnext' HB6.out hb
  have HS7 : Hid (SumsAt w7 z y ⟨pa, na, ca⟩ ⟨pb', nb, cb⟩ pc nc' cc fs zs u v) := HS6.out.below hb
  have HN1 : Hid (NO B1 w7 K1 E1 (otr (opz (· + ·) z y)) p1 n1 hs1) := hN1
  clear hb HB6 HS6 hc hN1
  have hc := HS7.out.u.add HS7.out.v
  try simp only at hc
  go_wp2_with fail
  go_fit hc
  rintro e w8 ⟨B2, T2, p2, n2, N2, E2, rfl, hR2, hT2, hN2, hb⟩
  have HB8 : Hid (Below w.heap.size w w8) := bnext' HB7.out hb
  have HS8 : Hid (SumsAt w8 z y ⟨pa, na, ca⟩ ⟨pb', nb, cb⟩ pc nc' cc fs zs u v) := HS7.out.below hb
  have HI : Hid (NO B1 w8 K1 E1 (otr (opz (· + ·) z y)) p1 n1 hs1 ∧ HR 5 (EY N2 E2) w8 B2 T2 (otr (opz (· + ·) z y)) ⟨p2, n2, n2⟩ ∧ T2 ≤ w8.heap.size) := ⟨HN1.out.below hb, hR2, hT2⟩
  clear hb HB7 HS7 hc HN1 hR2 hT2
  have hc := ans_is HI.out.1 HI.out.2.1 HI.out.2.2 hK1 hN2 hE1
  try simp only at hc
  go_wp2_with fail
  go_fit hc
  rintro e w9 ⟨rfl, hb⟩
  have HB9 : Hid (Below w.heap.size w w9) := bnext' HB8.out hb
  have HS9 : Hid (SumsAt w9 z y ⟨pa, na, ca⟩ ⟨pb', nb, cb⟩ pc nc' cc fs zs u v) := HS8.out.below hb
  clear hb HB8 HS8 hc HI hK1 hN2 hE1
  have hc := HS9.out.a.sub HS9.out.b
  try simp only at hc
  go_wp2_with fail
  go_fit hc
  rintro e w10 ⟨B1, p1, n1, hs1, K1, E1, rfl, hN1, hK1, hE1, hb⟩
  have HB10 : Hid (Below w.heap.size w w10) := bnext' HB9.out hb
  have HS10 : Hid (SumsAt w10 z y ⟨pa, na, ca⟩ ⟨pb', nb, cb⟩ pc nc' cc fs zs u v) := HS9.out.below hb
  have HN1 : Hid (NO B1 w10 K1 E1 (otr (opz (· - ·) z y)) p1 n1 hs1) := hN1
  clear hb HB9 HS9 hc hN1
  have hc := HS10.out.u.sub HS10.out.v
  try simp only at hc
  go_wp2_with fail
  go_fit hc
  rintro e w11 ⟨B2, T2, p2, n2, N2, E2, rfl, hR2, hT2, hN2, hb⟩
  have HB11 : Hid (Below w.heap.size w w11) := bnext' HB10.out hb
  have HS11 : Hid (SumsAt w11 z y ⟨pa, na, ca⟩ ⟨pb', nb, cb⟩ pc nc' cc fs zs u v) := HS10.out.below hb
  have HI : Hid (NO B1 w11 K1 E1 (otr (opz (· - ·) z y)) p1 n1 hs1 ∧ HR 5 (EY N2 E2) w11 B2 T2 (otr (opz (· - ·) z y)) ⟨p2, n2, n2⟩ ∧ T2 ≤ w11.heap.size) := ⟨HN1.out.below hb, hR2, hT2⟩
  clear hb HB10 HS10 hc HN1 hR2 hT2
  have hc := ans_is HI.out.1 HI.out.2.1 HI.out.2.2 hK1 hN2 hE1
  try simp only at hc
  go_wp2_with fail
  go_fit hc
  rintro e w12 ⟨rfl, hb⟩
  have HB12 : Hid (Below w.heap.size w w12) := bnext' HB11.out hb
  have HS12 : Hid (SumsAt w12 z y ⟨pa, na, ca⟩ ⟨pb', nb, cb⟩ pc nc' cc fs zs u v) := HS11.out.below hb
  clear hb HB11 HS11 hc HI hK1 hN2 hE1
  have hc := OpAt.scale HS12.out.p HS12.out.n HS12.out.a
  try simp only at hc
  go_wp2_with fail
  go_fit hc
  rintro e w13 ⟨B1, p1, n1, hs1, K1, E1, rfl, hN1, hK1, hE1, hb⟩
  have HB13 : Hid (Below w.heap.size w w13) := bnext' HB12.out hb
  have HS13 : Hid (SumsAt w13 z y ⟨pa, na, ca⟩ ⟨pb', nb, cb⟩ pc nc' cc fs zs u v) := HS12.out.below hb
  have HN1 : Hid (NO B1 w13 K1 E1 (otr ((oz z).map (mulp (tr zs)))) p1 n1 hs1) := hN1
  clear hb HB12 HS12 hc hN1
  have hc := rpFrom_any HS13.out.p (by omega) (by decide)
  try simp only at hc
  go_wp2_with fail
  go_fit hc
  rintro e w14 ⟨p3, n3, es3, rfl, hP3, -, ht3, hb⟩
  have HB14 : Hid (Below w.heap.size w w14) := bnext' HB13.out hb
  have HS14 : Hid (SumsAt w14 z y ⟨pa, na, ca⟩ ⟨pb', nb, cb⟩ pc nc' cc fs zs u v) := HS13.out.below hb
  have HN2 : Hid (NO B1 w14 K1 E1 (otr ((oz z).map (mulp (tr zs)))) p1 n1 hs1 ∧ PR w14 4 p3 n3 n3 es3 (tr zs)) := ⟨HN1.out.below hb, hP3⟩
  have hn3 : n3 ≤ 4 := from_len4 ht3 HS13.out.p hn4
  clear hb HB13 HS13 hc HN1 hP3 ht3
  have hc := RfAt.scale HN2.out.2 hn3 HS14.out.u
  try simp only at hc
  go_wp2_with fail
  go_fit hc
  rintro e w15 ⟨B2, T2, p2, n2, N2, E2, rfl, hR2, hT2, hN2, hb⟩
  have HB15 : Hid (Below w.heap.size w w15) := bnext' HB14.out hb
  have HS15 : Hid (SumsAt w15 z y ⟨pa, na, ca⟩ ⟨pb', nb, cb⟩ pc nc' cc fs zs u v) := HS14.out.below hb
  have HI : Hid (NO B1 w15 K1 E1 (otr ((oz z).map (mulp (tr zs)))) p1 n1 hs1 ∧ HR 5 (EY N2 E2) w15 B2 T2 (otr ((oz z).map (mulp (tr zs)))) ⟨p2, n2, n2⟩ ∧ T2 ≤ w15.heap.size) := ⟨HN2.out.1.below hb, hR2, hT2⟩
  clear hb HB14 HS14 hc HN2 hR2 hT2
  have hc := ans_is HI.out.1 HI.out.2.1 HI.out.2.2 hK1 hN2 hE1
  try simp only at hc
  go_wp2_with fail
  go_fit hc
  rintro e w16 ⟨rfl, hb⟩
  have HB16 : Hid (Below w.heap.size w w16) := bnext' HB15.out hb
  have HS16 : Hid (SumsAt w16 z y ⟨pa, na, ca⟩ ⟨pb', nb, cb⟩ pc nc' cc fs zs u v) := HS15.out.below hb
  clear hb HB15 HS15 hc HI hK1 hN2 hE1
  have hc := HS16.out.a.norm
  try simp only at hc
  go_wp2_with fail
  go_fit hc
  rintro e w17 ⟨B1, p1, n1, hs1, K1, E1, rfl, hN1, hK1, hE1, hb⟩
  have HB17 : Hid (Below w.heap.size w w17) := bnext' HB16.out hb
  have HS17 : Hid (SumsAt w17 z y ⟨pa, na, ca⟩ ⟨pb', nb, cb⟩ pc nc' cc fs zs u v) := HS16.out.below hb
  have HN1 : Hid (NO B1 w17 K1 E1 (oz z) p1 n1 hs1) := hN1
  clear hb HB16 HS16 hc hN1
  have hc := ans_isu HN1.out HS17.out.u hK1 hE1
  try simp only at hc
  go_wp2_with fail
  go_fit hc
  rintro e w18 ⟨rfl, hb⟩
  have HB18 : Hid (Below w.heap.size w w18) := bnext' HB17.out hb
  have HS18 : Hid (SumsAt w18 z y ⟨pa, na, ca⟩ ⟨pb', nb, cb⟩ pc nc' cc fs zs u v) := HS17.out.below hb
  clear hb HB17 HS17 hc HN1 hK1 hE1
  have hc := HS18.out.a.lead
  try simp only at hc
  go_wp2_with fail
  go_fit hc
  rintro e w19 ⟨p4, n4, es4, rfl, hN4, hb⟩
  have HB19 : Hid (Below w.heap.size w w19) := bnext' HB18.out hb
  have HS19 : Hid (SumsAt w19 z y ⟨pa, na, ca⟩ ⟨pb', nb, cb⟩ pc nc' cc fs zs u v) := HS18.out.below hb
  have HN4 : Hid (PN w18.heap.size w19 2 p4 n4 es4 (tr (gt z (olen z - 1)))) := hN4
  clear hb HB18 HS18 hc hN4
  have hc := HS19.out.u.lead
  try simp only at hc
  go_wp2_with fail
  go_fit hc
  rintro e w20 ⟨p5, n5, es5, rfl, hN5, hb⟩
  have HB20 : Hid (Below w.heap.size w w20) := bnext' HB19.out hb
  have HS20 : Hid (SumsAt w20 z y ⟨pa, na, ca⟩ ⟨pb', nb, cb⟩ pc nc' cc fs zs u v) := HS19.out.below hb
  have HN5 : Hid (PN w18.heap.size w20 2 p4 n4 es4 (tr (gt z (olen z - 1))) ∧ PR w20 4 p5 n5 n5 es5 (tr (gt z (olen z - 1)))) := ⟨HN4.out.below hb, hN5⟩
  clear hb HB19 HS19 hc HN4 hN5
  have hll : (tr (gt z (olen z - 1))).length ≤ 1000000 := by obtain ⟨_, _, g, _⟩ := HS20.out.a; have h1 := hr_len g (olen z - 1); have h2 := tlen_le (gt z (olen z - 1)); rw [length_tr]; omega
  have hc := lead_is HN5.out.1 HN5.out.2 hll
  try simp only at hc
  go_wp2_with fail
  go_fit hc
  rintro e w21 ⟨rfl, hb⟩
  have HB21 : Hid (Below w.heap.size w w21) := bnext' HB20.out hb
  have HS21 : Hid (SumsAt w21 z y ⟨pa, na, ca⟩ ⟨pb', nb, cb⟩ pc nc' cc fs zs u v) := HS20.out.below hb
  clear hb HB20 HS20 hc HN5 hll
  have hc := HS21.out.a.order
  try simp only at hc
  go_wp2_with fail
  go_fit hc
  rintro e w22 ⟨rfl, hb⟩
  have HB22 : Hid (Below w.heap.size w w22) := bnext' HB21.out hb
  have HS22 : Hid (SumsAt w22 z y ⟨pa, na, ca⟩ ⟨pb', nb, cb⟩ pc nc' cc fs zs u v) := HS21.out.below hb
  clear hb HB21 HS21 hc
  have hc := rorder_at w22 u (olen z) ho1.out
  try simp only at hc
  go_wp2_with fail
  go_fit hc
  rintro e w23 ⟨rfl, hb⟩
  have HB23 : Hid (Below w.heap.size w w23) := bnext' HB22.out hb
  have HS23 : Hid (SumsAt w23 z y ⟨pa, na, ca⟩ ⟨pb', nb, cb⟩ pc nc' cc fs zs u v) := HS22.out.below hb
  clear hb HB22 HS22 hc
  generalize (olen z : Int) - 1 = o1
  have hc := HS23.out.a.degree
  try simp only at hc
  go_wp2_with fail
  go_fit hc
  rintro e w24 ⟨rfl, hb⟩
  have HB24 : Hid (Below w.heap.size w w24) := bnext' HB23.out hb
  have HS24 : Hid (SumsAt w24 z y ⟨pa, na, ca⟩ ⟨pb', nb, cb⟩ pc nc' cc fs zs u v) := HS23.out.below hb
  clear hb HB23 HS23 hc
  have hc := HS24.out.u.degree
  try simp only at hc
  go_wp2_with fail
  go_fit hc
  rintro e w25 ⟨rfl, hb⟩
  have HB25 : Hid (Below w.heap.size w w25) := bnext' HB24.out hb
  have HS25 : Hid (SumsAt w25 z y ⟨pa, na, ca⟩ ⟨pb', nb, cb⟩ pc nc' cc fs zs u v) := HS24.out.below hb
  clear hb HB24 HS24 hc
  generalize odeg z = o2
  have hc := HS25.out.a.bits
  try simp only at hc
  go_wp2_with fail
  go_fit hc
  rintro e w26 ⟨rfl, hb⟩
  have HB26 : Hid (Below w.heap.size w w26) := bnext' HB25.out hb
  have HS26 : Hid (SumsAt w26 z y ⟨pa, na, ca⟩ ⟨pb', nb, cb⟩ pc nc' cc fs zs u v) := HS25.out.below hb
  clear hb HB25 HS25 hc
  have hc := HS26.out.u.bits
  try simp only at hc
  go_wp2_with fail
  go_fit hc
  rintro e w27 ⟨rfl, hb⟩
  have HB27 : Hid (Below w.heap.size w w27) := bnext' HB26.out hb
  have HS27 : Hid (SumsAt w27 z y ⟨pa, na, ca⟩ ⟨pb', nb, cb⟩ pc nc' cc fs zs u v) := HS26.out.below hb
  clear hb HB26 HS26 hc
  generalize obit z = o3
  have hc := HS27.out.a.eq HS27.out.b
  try simp only at hc
  go_wp2_with fail
  go_fit hc
  rintro e w28 ⟨rfl, hb⟩
  have HB28 : Hid (Below w.heap.size w w28) := bnext' HB27.out hb
  have HS28 : Hid (SumsAt w28 z y ⟨pa, na, ca⟩ ⟨pb', nb, cb⟩ pc nc' cc fs zs u v) := HS27.out.below hb
  clear hb HB27 HS27 hc
  have hc := HS28.out.u.eq HS28.out.v
  try simp only at hc
  go_wp2_with fail
  go_fit hc
  rintro e w29 ⟨rfl, hb⟩
  have HB29 : Hid (Below w.heap.size w w29) := bnext' HB28.out hb
  have HS29 : Hid (SumsAt w29 z y ⟨pa, na, ca⟩ ⟨pb', nb, cb⟩ pc nc' cc fs zs u v) := HS28.out.below hb
  clear hb HB28 HS28 hc
  generalize decide (oz z = oz y) = o4
  have HBE : Hid (Below w.heap.size w w29) := HB29.out
  rcases o4 with _ | _
  · go_wp2
    go_ret
    exact ⟨rfl, HBE.out⟩
  · go_wp2
    go_ret
    exact ⟨rfl, HBE.out⟩
end Go.Proofs.YtmjokfcojilidaaGreatDoor
