/-
  ashlarlaw1.IntGcd: for all three numbers the law's answer is true.
-/
import Derived.Test.YtinkkfkepjgahaaDoorBh
import Derived.Test.YtinkkfkepjgahaaDoorRhCyCz
import Derived.Test.YtinkkfkepjgahaaDoorGgTa
import Derived.Test.YtinkkfkepjgahaaDoorTf
import Derived.Test.YtinkkfkepjgahaaDoorOi
import Derived.Test.YtinkkfkepjgahaaDoorLj
import Derived.Test.YtinkkfkepjgahaaDoorRm
namespace Go.Proofs.YtinkkfkepjgahaaDoor
open Go.RowKit
set_option linter.unusedVariables false
set_option linter.unusedSimpArgs false

/-- Three numbers in variables of their own, behind Cut. -/
structure C3 (w wc : World) (sa sb sc : Bool) (pa pb pc : Option Addr) (na nac nb nbc nc ncc : Nat) (xa xb xc : List Int) : Prop where
  a : Vr wc w.heap.size sa pa na nac (w.heap.size + 1 + 1 + 1) xa
  b : Vr wc (w.heap.size + 1) sb pb nb nbc (w.heap.size + 1 + 1 + 1) xb
  c : Vr wc (w.heap.size + 1 + 1) sc pc nc ncc (w.heap.size + 1 + 1 + 1) xc
  la : na ≤ 24
  lb : nb ≤ 24
  lc : nc ≤ 24
  bel : Below w.heap.size w wc
theorem C3.later {w wc w' : World} {sa sb sc : Bool} {pa pb pc : Option Addr} {na nac nb nbc nc ncc : Nat} {xa xb xc : List Int} (h : C3 w wc sa sb sc pa pb pc na nac nb nbc nc ncc xa xb xc) (hb : Below wc.heap.size wc w') : C3 w w' sa sb sc pa pb pc na nac nb nbc nc ncc xa xb xc :=
  ⟨h.a.later hb, h.b.later hb, h.c.later hb, h.la, h.lb, h.lc, bnext h.bel (Nat.le_refl _) hb⟩

theorem gcd_rval (s t : Bool) (xs ys : List Int) : Int.gcd (rval s xs) (rval t ys) = Int.gcd (vd xs) (vd ys) := by
  cases s <;> cases t <;> simp [rval, Int.gcd_neg, Int.neg_gcd]
theorem scaled_eq {s s6 t3 : Bool} {ds d6 d3 : List Int} {a b c : Int} (h : rval s ds = rval s6 d6 * rval false d3) (h6 : rval s6 d6 = (Int.gcd a b : Int)) (h3 : rval t3 d3 = c) (hu : U16 d3) : rval s ds = (Int.gcd (a * c) (b * c) : Int) := by
  have h0 := vd_nonneg hu
  have e : rval false d3 = (c.natAbs : Int) := by
    rw [← h3]
    cases t3 <;> simp [rval] <;> omega
  rw [h, h6, e, Int.gcd_mul_right]
  simp
/-- The three numbers, and the reference's three beside them. -/
structure D3 (w W : World) (sa sb sc : Bool) (pa pb pc : Option Addr) (na nac nb nbc nc ncc : Nat) (xa xb xc : List Int) (g1 g2 g3 : Nat) (t1 : Bool) (p1 : Option Addr) (n1 : Nat) (d1 : List Int) (t2 : Bool) (p2 : Option Addr) (n2 : Nat) (d2 : List Int) (t3 : Bool) (p3 : Option Addr) (n3 : Nat) (d3 : List Int) : Prop where
  c : C3 w W sa sb sc pa pb pc na nac nb nbc nc ncc xa xb xc
  x : Vx W g1 t1 p1 n1 d1 (ival sa xa)
  y : Vx W g2 t2 p2 n2 d2 (ival sb xb)
  z : Vx W g3 t3 p3 n3 d3 (ival sc xc)
theorem D3.later {w W W' : World} {sa sb sc : Bool} {pa pb pc : Option Addr} {na nac nb nbc nc ncc : Nat} {xa xb xc : List Int} {g1 g2 g3 : Nat} {t1 : Bool} {p1 : Option Addr} {n1 : Nat} {d1 : List Int} {t2 : Bool} {p2 : Option Addr} {n2 : Nat} {d2 : List Int} {t3 : Bool} {p3 : Option Addr} {n3 : Nat} {d3 : List Int}
    (h : D3 w W sa sb sc pa pb pc na nac nb nbc nc ncc xa xb xc g1 g2 g3 t1 p1 n1 d1 t2 p2 n2 d2 t3 p3 n3 d3) (hb : Below W.heap.size W W') : D3 w W' sa sb sc pa pb pc na nac nb nbc nc ncc xa xb xc g1 g2 g3 t1 p1 n1 d1 t2 p2 n2 d2 t3 p3 n3 d3 :=
  ⟨h.c.later hb, h.x.later hb, h.y.later hb, h.z.later hb⟩
theorem vx_of {B : Nat} {w : World} {V : Int} {r x : Value} {s : Bool} {p : Option Addr} {n : Nat} {d : List Int} {g : Nat} (h : RR B w V r s p n d) (k : XX B w x g true r) : Vx w g s p n d V := by
  obtain ⟨h1, h2, h3, h4, h5⟩ := h
  obtain ⟨k1, k2, u, v, k3, k4⟩ := k
  have e := k4 rfl
  rw [h1] at e
  injection e with e
  simp at e
  obtain ⟨rfl, rfl⟩ := e
  exact ⟨k3, h2, h3, h4⟩
theorem D3.of {w wc W : World} {sa sb sc : Bool} {pa pb pc : Option Addr} {na nac nb nbc nc ncc : Nat} {xa xb xc : List Int} {g1 g2 g3 : Nat} {t1 : Bool} {p1 : Option Addr} {n1 : Nat} {d1 : List Int} {t2 : Bool} {p2 : Option Addr} {n2 : Nat} {d2 : List Int} {t3 : Bool} {p3 : Option Addr} {n3 : Nat} {d3 : List Int} {r1 r2 r3 x1 x2 x3 : Value}
    (h : C3 w wc sa sb sc pa pb pc na nac nb nbc nc ncc xa xb xc) (k : G3 wc W (ival sa xa) (ival sb xb) (ival sc xc) true true true true true true true true true r1 r2 r3 x1 x2 x3 t1 p1 n1 d1 t2 p2 n2 d2 t3 p3 n3 d3 g1 g2 g3) :
    D3 w W sa sb sc pa pb pc na nac nb nbc nc ncc xa xb xc g1 g2 g3 t1 p1 n1 d1 t2 p2 n2 d2 t3 p3 n3 d3 :=
  ⟨h.later k.bel, vx_of (k.R1 rfl) (k.X1 rfl), vx_of (k.R2 rfl) (k.X2 rfl), vx_of (k.R3 rfl) (k.X3 rfl)⟩

set_option maxRecDepth 100000 in
set_option maxHeartbeats 8000000 in
theorem IntGcd_walk (sa sb sc : Bool) (pa pb pc : Option Addr) (na nac nb nbc nc ncc : Nat) (xa xb xc : List Int) (w : World)
    (hla : xa.length = na) (hnca : na ≤ nac) (hba : nac ≤ maxLen) (hXa : Rd w pa .u32 xa) (hUa : U32 xa) (hpa : pa = none → nac = 0)
    (hlb : xb.length = nb) (hncb : nb ≤ nbc) (hbb : nbc ≤ maxLen) (hXb : Rd w pb .u32 xb) (hUb : U32 xb) (hpb : pb = none → nbc = 0)
    (hlc : xc.length = nc) (hncc : nc ≤ ncc) (hbc : ncc ≤ maxLen) (hXc : Rd w pc .u32 xc) (hUc : U32 xc) (hpc : pc = none → ncc = 0) :
    Calls Tryd.prog 3 #[.agg #[.bool sa, .slice pa na nac], .agg #[.bool sb, .slice pb nb nbc], .agg #[.bool sc, .slice pc nc ncc]] w fun e w' => e = .returned (.bool true) ∧ Below w.heap.size w w' := by
  go_enter Tryd.func3, Tryd.ntmps3
  go_upto_region 2 with (go_at_call 4; refine (begun_any _).mono ?_; rintro e w1 ⟨rfl, hb1⟩)
  have hA0 : Bx (((w.alloc (.cells #[.bool sa, .slice pa na nac] 24)).alloc (.cells #[.bool sb, .slice pb nb nbc] 24)).alloc (.cells #[.bool sc, .slice pc nc ncc] 24)) w.heap.size (.bool sa) (.slice pa na nac) := ((Bx.new _ _ _ rfl).alloc _).alloc _
  have hB0 : Bx (((w.alloc (.cells #[.bool sa, .slice pa na nac] 24)).alloc (.cells #[.bool sb, .slice pb nb nbc] 24)).alloc (.cells #[.bool sc, .slice pc nc ncc] 24)) (w.heap.size + 1) (.bool sb) (.slice pb nb nbc) := (Bx.new _ _ _ (World.size_alloc ..).symm).alloc _
  have hC0 : Bx (((w.alloc (.cells #[.bool sa, .slice pa na nac] 24)).alloc (.cells #[.bool sb, .slice pb nb nbc] 24)).alloc (.cells #[.bool sc, .slice pc nc ncc] 24)) (w.heap.size + 1 + 1) (.bool sc) (.slice pc nc ncc) := Bx.new _ _ _ (by rw [World.size_alloc, World.size_alloc])
  have hbw : Below w.heap.size w (((w.alloc (.cells #[.bool sa, .slice pa na nac] 24)).alloc (.cells #[.bool sb, .slice pb nb nbc] 24)).alloc (.cells #[.bool sc, .slice pc nc ncc] 24)) := (((Below.refl _ _).alloc (Nat.le_refl _) _).alloc (by simp) _).alloc (by simp; omega) _
  have hsz : w.heap.size + 1 + 1 + 1 ≤ (((w.alloc (.cells #[.bool sa, .slice pa na nac] 24)).alloc (.cells #[.bool sb, .slice pb nb nbc] 24)).alloc (.cells #[.bool sc, .slice pc nc ncc] 24)).heap.size := by simp
  generalize (((w.alloc (.cells #[.bool sa, .slice pa na nac] 24)).alloc (.cells #[.bool sb, .slice pb nb nbc] 24)).alloc (.cells #[.bool sc, .slice pc nc ncc] 24)) = W0 at *
  have hA1 := hA0.later hb1
  have hB1 := hB0.later hb1
  have hC1 := hC0.later hb1
  have hbw1 := bnext hbw (Nat.le_refl _) hb1
  have hsz1 : w.heap.size + 1 + 1 + 1 ≤ w1.heap.size := Nat.le_trans hsz hb1.size
  clear hA0 hB0 hC0 hbw hsz hb1
  go_cut [] (fun wc => ∃ pa' na' nac' pb' nb' nbc' pc' nc' ncc', C3 w wc sa sb sc pa' pb' pc' na' nac' nb' nbc' nc' ncc' (xa.take 24) (xb.take 24) (xc.take 24))
  case first =>
    have a0 := hA1.c0
    have a1 := hA1.c1
    have b0 := hB1.c0
    have b1 := hB1.c1
    have c0 := hC1.c0
    have c1 := hC1.c1
    go_region_with (first
      | (go_at_call_of 5 (Value.agg #[.bool sa, .slice pa na nac]); refine (Cut_any sa pa na nac xa _ hla hnca hba (hXa.below hbw1).drew hUa hpa).mono ?_; rintro e w2 ⟨pa', na', nac', rfl, hA, hna24, hFa, hb2⟩; have hA2 := hA1.later (undrew hb2); have hB2 := hB1.later (undrew hb2); have hC2 := hC1.later (undrew hb2); have b20 := hB2.c0; have b21 := hB2.c1; have c20 := hC2.c0; have c21 := hC2.c1)
      | (go_at_call_of 5 (Value.agg #[.bool sb, .slice pb nb nbc]); refine (Cut_any sb pb nb nbc xb _ hlb hncb hbb ((hXb.below hbw1).drew.below hb2) hUb hpb).mono ?_; rintro e w3 ⟨pb', nb', nbc', rfl, hB, hnb24, hFb, hb3⟩; have hA3 := hA2.later hb3; have hB3 := hB2.later hb3; have hC3 := hC2.later hb3; have c30 := hC3.c0; have c31 := hC3.c1)
      | (go_at_call_of 5 (Value.agg #[.bool sc, .slice pc nc ncc]); refine (Cut_any sc pc nc ncc xc _ hlc hncc hbc (((hXc.below hbw1).drew.below hb2).below hb3) hUc hpc).mono ?_; rintro e w4 ⟨pc', nc', ncc', rfl, hC, hnc24, hFc, hb4⟩; have hA4 := hA3.later hb4; have hB4 := hB3.later hb4; have hC4 := hC3.later hb4; have a40 := hA4.c0; have a41 := hA4.c1; have b40 := hB4.c0; have b41 := hB4.c1; have c40 := hC4.c0; have c41 := hC4.c1; have fa0 := hA4.f0; have fa1 := hA4.f1; have fb0 := hB4.f0; have fb1 := hB4.f1; have fc0 := hC4.f0; have fc1 := hC4.f1))
    all_goals (go_wp2_with fail; go_meet)
    all_goals
      have s2 := hb2.size
      have s3 := hb3.size
      have s4 := hb4.size
      have e1 : w1.drew.heap.size = w1.heap.size := rfl
      refine ⟨pa', na', nac', pb', nb', nbc', pc', nc', ncc', ⟨?_, ?_, ?_⟩, ⟨?_, ?_, ?_⟩, ⟨?_, ?_, ?_⟩, hna24, hnb24, hnc24, ?_⟩
      · exact Bx_oth (Bx_oth (Bx_set hA4) (by omega)) (by omega)
      · exact ((((hA.below hb3).below hb4).set2 hFa (by omega) _ _).set2 hFa (by omega) _ _).set2 hFa (by omega) _ _
      · exact hFa.mono (by omega)
      · exact Bx_oth (Bx_set (Bx_oth hB4 (by omega))) (by omega)
      · exact (((hB.below hb4).set2 hFb (by omega) _ _).set2 hFb (by omega) _ _).set2 hFb (by omega) _ _
      · exact hFb.mono (by omega)
      · exact Bx_set (Bx_oth (Bx_oth hC4 (by omega)) (by omega))
      · exact ((hC.set2 hFc (by omega) _ _).set2 hFc (by omega) _ _).set2 hFc (by omega) _ _
      · exact hFc.mono (by omega)
      · exact bset2 (bset2 (bset2 (bnext (bnext (bnext hbw1 (Nat.le_refl _) (undrew hb2)) (Nat.le_refl _) hb3) (Nat.le_refl _) hb4) (by omega) _ _) (by omega) _ _) (by omega) _ _
  case rest =>
    obtain ⟨pa', na', nac', pb', nb', nbc', pc', nc', ncc', hG⟩ := hcut
    clear hA1 hB1 hC1 hbw1 hsz1
    have la := hG.la
    have lb := hG.lb
    have lc := hG.lc
    have k0 := hG.a.b.c0
    have k1 := hG.a.b.c1
    have k2 := hG.b.b.c0
    have k3 := hG.b.b.c1
    have k4 := hG.c.b.c0
    have k5 := hG.c.b.c1
    go_upto_region 3 with fail
    go_cut [8, 9, 10] (fun xv yv zv w3 => ∃ (r1 r2 r3 : Value) (t1 : Bool) (p1 : Option Addr) (n1 : Nat) (d1 : List Int) (t2 : Bool) (p2 : Option Addr) (n2 : Nat) (d2 : List Int) (t3 : Bool) (p3 : Option Addr) (n3 : Nat) (d3 : List Int) (g1 g2 g3 : Nat), xv = .pointer (some ⟨g1, 0, none⟩) ∧ yv = .pointer (some ⟨g2, 0, none⟩) ∧ zv = .pointer (some ⟨g3, 0, none⟩) ∧ Hid (G3 wc w3 (ival sa (xa.take 24)) (ival sb (xb.take 24)) (ival sc (xc.take 24)) true true true true true true true true true r1 r2 r3 xv yv zv t1 p1 n1 d1 t2 p2 n2 d2 t3 p3 n3 d3 g1 g2 g3))
    case first =>
      refine region_inv (by kernel_rfl) (fun listed a w' => ∃ (l1 c1 l2 c2 l3 c3 a1 a2 a3 s1 s2 s3 : Bool) (v1 v2 v3 r1 r2 r3 x1 x2 x3 : Value) (t1 : Bool) (p1 : Option Addr) (n1 : Nat) (d1 : List Int) (t2 : Bool) (p2 : Option Addr) (n2 : Nat) (d2 : List Int) (t3 : Bool) (p3 : Option Addr) (n3 : Nat) (d3 : List Int) (g1 g2 g3 : Nat), listed = #[l1, c1, l2, c2, l3, c3, a1, a2, a3, s1, s2, s3] ∧ a = ({ tmps := ((.agg #[.bool sa, .slice pa na nac]) :: (.agg #[.bool sb, .slice pb nb nbc]) :: (.agg #[.bool sc, .slice pc nc ncc]) :: (.pointer (some ⟨w.heap.size, 0, none⟩)) :: (.pointer (some ⟨w.heap.size + 1, 0, none⟩)) :: (.pointer (some ⟨w.heap.size + 1 + 1, 0, none⟩)) :: (.bool false) :: (.bool true) :: (x1) :: (x2) :: (x3) :: (undef) :: (undef) :: (undef) :: (undef) :: (undef) :: (u16) :: (u17) :: (u18) :: (u19) :: (u20) :: (u21) :: (u22) :: (v1) :: (r1) :: (v2) :: (r2) :: (v3) :: (r3) :: (u29) :: (u30) :: (u31) :: (u32) :: (u33) :: (u34) :: (u35) :: (u36) :: (u37) :: (u38) :: (u39) :: (u40) :: (u41) :: (u42) :: (u43) :: (u44) :: (u45) :: (u46) :: (u47) :: (u48) :: (u49) :: (u50) :: (u51) :: (u52) :: (u53) :: (u54) :: (u55) :: (u56) :: (u57) :: (u58) :: ([] : List Value)).toArray, defers := [] } : Act) ∧ (l1 = true → v1 = .agg #[.bool sa, .slice pa' na' nac']) ∧ (l2 = true → v2 = .agg #[.bool sb, .slice pb' nb' nbc']) ∧ (l3 = true → v3 = .agg #[.bool sc, .slice pc' nc' ncc']) ∧ Hid (G3 wc w' (ival sa (xa.take 24)) (ival sb (xb.take 24)) (ival sc (xc.take 24)) c1 c2 c3 a1 a2 a3 s1 s2 s3 r1 r2 r3 x1 x2 x3 t1 p1 n1 d1 t2 p2 n2 d2 t3 p3 n3 d3 g1 g2 g3)) (by kernel_rfl) ?_ ?_ ?_
      · rintro listed a w' ⟨l1, c1, l2, c2, l3, c3, a1, a2, a3, s1, s2, s3, v1, v2, v3, r1, r2, r3, x1, x2, x3, t1, p1, n1, d1, t2, p2, n2, d2, t3, p3, n3, d3, g1, g2, g3, rfl, rfl, hv1, hv2, hv3, H⟩ hall
        obtain rfl : l1 = true := by simpa using hall 0 (by decide)
        obtain rfl : c1 = true := by simpa using hall 1 (by decide)
        obtain rfl : l2 = true := by simpa using hall 2 (by decide)
        obtain rfl : c2 = true := by simpa using hall 3 (by decide)
        obtain rfl : l3 = true := by simpa using hall 4 (by decide)
        obtain rfl : c3 = true := by simpa using hall 5 (by decide)
        obtain rfl : a1 = true := by simpa using hall 6 (by decide)
        obtain rfl : a2 = true := by simpa using hall 7 (by decide)
        obtain rfl : a3 = true := by simpa using hall 8 (by decide)
        obtain rfl : s1 = true := by simpa using hall 9 (by decide)
        obtain rfl : s2 = true := by simpa using hall 10 (by decide)
        obtain rfl : s3 = true := by simpa using hall 11 (by decide)
        clear hall
        obtain rfl := (H.out.X1 rfl).1
        obtain rfl := (H.out.X2 rfl).1
        obtain rfl := (H.out.X3 rfl).1
        go_wp2_with fail
        go_meet
        exact ⟨r1, r2, r3, t1, p1, n1, d1, t2, p2, n2, d2, t3, p3, n3, d3, g1, g2, g3, rfl, rfl, rfl, H⟩
      · rintro listed a w' ⟨l1, c1, l2, c2, l3, c3, a1, a2, a3, s1, s2, s3, v1, v2, v3, r1, r2, r3, x1, x2, x3, t1, p1, n1, d1, t2, p2, n2, d2, t3, p3, n3, d3, g1, g2, g3, rfl, rfl, hv1, hv2, hv3, H⟩ i o hio h0 hd
        have hi : i < 12 := (Array.getElem?_eq_some_iff.1 hio).1
        rcases i with _ | _ | _ | _ | _ | _ | _ | _ | _ | _ | _ | _ | i
        · obtain rfl := (Option.some.inj hio)
          have h0 : l1 = false := by simpa using h0
          clear hd
          refine wpOp_step rfl (fun K' hK0 => ?_)
          have hK := (show Hid _ from hK0)
          clear hK0
          have hC := hG.later H.out.bel
          have z0 := hC.a.b.c0
          have z1 := hC.a.b.c1
          go_wp2
          exact hK.out _ _ ⟨true, c1, l2, c2, l3, c3, a1, a2, a3, s1, s2, s3, .agg #[.bool sa, .slice pa' na' nac'], v2, v3, r1, r2, r3, x1, x2, x3, t1, p1, n1, d1, t2, p2, n2, d2, t3, p3, n3, d3, g1, g2, g3, rfl, rfl, fun _ => rfl, hv2, hv3, H.out⟩
        · obtain rfl := (Option.some.inj hio)
          have h0 : c1 = false := by simpa using h0
          have hd1 : l1 = true := by simpa [Region.binds] using hd ⟨0, .data⟩ (by simp)
          clear hd
          refine wpOp_step rfl (fun K' hK0 => ?_)
          have hK := (show Hid _ from hK0)
          clear hK0
          have hl : l1 = true := hd1
          obtain rfl := hv1 hl
          have hC := hG.later H.out.bel
          have hfr := From_ansF sa pa' na' nac' (xa.take 24) w' hC.a.a
          go_wp2_with fail
          refine hfr.mono ?_
          rintro e w'' ⟨t, p, n, d, rfl, q1, q2, q3, q4, q5⟩
          have H2 := H.out.call1 (by rw [h0]; decide) q5 q1 q2 (by omega) q4
          clear hfr
          go_wp2
          exact hK.out _ _ ⟨l1, true, l2, c2, l3, c3, a1, a2, a3, s1, s2, s3, _, v2, v3, .agg #[.bool t, .slice p n n], r2, r3, x1, x2, x3, t, p, n, d, t2, p2, n2, d2, t3, p3, n3, d3, g1, g2, g3, rfl, rfl, fun _ => rfl, hv2, hv3, H2⟩
        · obtain rfl := (Option.some.inj hio)
          have h0 : l2 = false := by simpa using h0
          clear hd
          refine wpOp_step rfl (fun K' hK0 => ?_)
          have hK := (show Hid _ from hK0)
          clear hK0
          have hC := hG.later H.out.bel
          have z0 := hC.b.b.c0
          have z1 := hC.b.b.c1
          go_wp2
          exact hK.out _ _ ⟨l1, c1, true, c2, l3, c3, a1, a2, a3, s1, s2, s3, v1, .agg #[.bool sb, .slice pb' nb' nbc'], v3, r1, r2, r3, x1, x2, x3, t1, p1, n1, d1, t2, p2, n2, d2, t3, p3, n3, d3, g1, g2, g3, rfl, rfl, hv1, fun _ => rfl, hv3, H.out⟩
        · obtain rfl := (Option.some.inj hio)
          have h0 : c2 = false := by simpa using h0
          have hd1 : l2 = true := by simpa [Region.binds] using hd ⟨2, .data⟩ (by simp)
          clear hd
          refine wpOp_step rfl (fun K' hK0 => ?_)
          have hK := (show Hid _ from hK0)
          clear hK0
          have hl : l2 = true := hd1
          obtain rfl := hv2 hl
          have hC := hG.later H.out.bel
          have hfr := From_ansF sb pb' nb' nbc' (xb.take 24) w' hC.b.a
          go_wp2_with fail
          refine hfr.mono ?_
          rintro e w'' ⟨t, p, n, d, rfl, q1, q2, q3, q4, q5⟩
          have H2 := H.out.call2 (by rw [h0]; decide) q5 q1 q2 (by omega) q4
          clear hfr
          go_wp2
          exact hK.out _ _ ⟨l1, c1, l2, true, l3, c3, a1, a2, a3, s1, s2, s3, v1, _, v3, r1, .agg #[.bool t, .slice p n n], r3, x1, x2, x3, t1, p1, n1, d1, t, p, n, d, t3, p3, n3, d3, g1, g2, g3, rfl, rfl, hv1, fun _ => rfl, hv3, H2⟩
        · obtain rfl := (Option.some.inj hio)
          have h0 : l3 = false := by simpa using h0
          clear hd
          refine wpOp_step rfl (fun K' hK0 => ?_)
          have hK := (show Hid _ from hK0)
          clear hK0
          have hC := hG.later H.out.bel
          have z0 := hC.c.b.c0
          have z1 := hC.c.b.c1
          go_wp2
          exact hK.out _ _ ⟨l1, c1, l2, c2, true, c3, a1, a2, a3, s1, s2, s3, v1, v2, .agg #[.bool sc, .slice pc' nc' ncc'], r1, r2, r3, x1, x2, x3, t1, p1, n1, d1, t2, p2, n2, d2, t3, p3, n3, d3, g1, g2, g3, rfl, rfl, hv1, hv2, fun _ => rfl, H.out⟩
        · obtain rfl := (Option.some.inj hio)
          have h0 : c3 = false := by simpa using h0
          have hd1 : l3 = true := by simpa [Region.binds] using hd ⟨4, .data⟩ (by simp)
          clear hd
          refine wpOp_step rfl (fun K' hK0 => ?_)
          have hK := (show Hid _ from hK0)
          clear hK0
          have hl : l3 = true := hd1
          obtain rfl := hv3 hl
          have hC := hG.later H.out.bel
          have hfr := From_ansF sc pc' nc' ncc' (xc.take 24) w' hC.c.a
          go_wp2_with fail
          refine hfr.mono ?_
          rintro e w'' ⟨t, p, n, d, rfl, q1, q2, q3, q4, q5⟩
          have H2 := H.out.call3 (by rw [h0]; decide) q5 q1 q2 (by omega) q4
          clear hfr
          go_wp2
          exact hK.out _ _ ⟨l1, c1, l2, c2, l3, true, a1, a2, a3, s1, s2, s3, v1, v2, _, r1, r2, .agg #[.bool t, .slice p n n], x1, x2, x3, t1, p1, n1, d1, t2, p2, n2, d2, t, p, n, d, g1, g2, g3, rfl, rfl, hv1, hv2, fun _ => rfl, H2⟩
        · obtain rfl := (Option.some.inj hio)
          have h0 : a1 = false := by simpa using h0
          clear hd
          refine wpOp_step rfl (fun K' hK0 => ?_)
          have hK := (show Hid _ from hK0)
          clear hK0
          have H2 := H.out.alloc1 (by rw [h0]; decide) (.bool false) (.slice none 0 0) 29
          go_wp2
          exact hK.out _ _ ⟨l1, c1, l2, c2, l3, c3, true, a2, a3, s1, s2, s3, v1, v2, v3, r1, r2, r3, .pointer (some ⟨w'.heap.size, 0, none⟩), x2, x3, t1, p1, n1, d1, t2, p2, n2, d2, t3, p3, n3, d3, w'.heap.size, g2, g3, rfl, rfl, hv1, hv2, hv3, H2⟩
        · obtain rfl := (Option.some.inj hio)
          have h0 : a2 = false := by simpa using h0
          clear hd
          refine wpOp_step rfl (fun K' hK0 => ?_)
          have hK := (show Hid _ from hK0)
          clear hK0
          have H2 := H.out.alloc2 (by rw [h0]; decide) (.bool false) (.slice none 0 0) 29
          go_wp2
          exact hK.out _ _ ⟨l1, c1, l2, c2, l3, c3, a1, true, a3, s1, s2, s3, v1, v2, v3, r1, r2, r3, x1, .pointer (some ⟨w'.heap.size, 0, none⟩), x3, t1, p1, n1, d1, t2, p2, n2, d2, t3, p3, n3, d3, g1, w'.heap.size, g3, rfl, rfl, hv1, hv2, hv3, H2⟩
        · obtain rfl := (Option.some.inj hio)
          have h0 : a3 = false := by simpa using h0
          clear hd
          refine wpOp_step rfl (fun K' hK0 => ?_)
          have hK := (show Hid _ from hK0)
          clear hK0
          have H2 := H.out.alloc3 (by rw [h0]; decide) (.bool false) (.slice none 0 0) 29
          go_wp2
          exact hK.out _ _ ⟨l1, c1, l2, c2, l3, c3, a1, a2, true, s1, s2, s3, v1, v2, v3, r1, r2, r3, x1, x2, .pointer (some ⟨w'.heap.size, 0, none⟩), t1, p1, n1, d1, t2, p2, n2, d2, t3, p3, n3, d3, g1, g2, w'.heap.size, rfl, rfl, hv1, hv2, hv3, H2⟩
        · obtain rfl := (Option.some.inj hio)
          have h0 : s1 = false := by simpa using h0
          have hda : a1 = true := by simpa [Region.binds] using hd ⟨6, .data⟩ (by simp)
          have hdc : c1 = true := by simpa [Region.binds] using hd ⟨1, .data⟩ (by simp)
          clear hd
          refine wpOp_step rfl (fun K' hK0 => ?_)
          have hK := (show Hid _ from hK0)
          clear hK0
          have H2 := H.out.store1 hda hdc
          obtain ⟨y1, y2, yu, yv, y3, y4⟩ := H.out.X1 hda
          obtain ⟨z0, z1, z2, z3⟩ := y3
          have hr := (H.out.R1 hdc).1
          subst y1 hr
          go_wp2
          exact hK.out _ _ ⟨l1, c1, l2, c2, l3, c3, a1, a2, a3, true, s2, s3, v1, v2, v3, _, r2, r3, _, x2, x3, t1, p1, n1, d1, t2, p2, n2, d2, t3, p3, n3, d3, g1, g2, g3, rfl, rfl, hv1, hv2, hv3, H2⟩
        · obtain rfl := (Option.some.inj hio)
          have h0 : s2 = false := by simpa using h0
          have hda : a2 = true := by simpa [Region.binds] using hd ⟨7, .data⟩ (by simp)
          have hdc : c2 = true := by simpa [Region.binds] using hd ⟨3, .data⟩ (by simp)
          clear hd
          refine wpOp_step rfl (fun K' hK0 => ?_)
          have hK := (show Hid _ from hK0)
          clear hK0
          have H2 := H.out.store2 hda hdc
          obtain ⟨y1, y2, yu, yv, y3, y4⟩ := H.out.X2 hda
          obtain ⟨z0, z1, z2, z3⟩ := y3
          have hr := (H.out.R2 hdc).1
          subst y1 hr
          go_wp2
          exact hK.out _ _ ⟨l1, c1, l2, c2, l3, c3, a1, a2, a3, s1, true, s3, v1, v2, v3, r1, _, r3, x1, _, x3, t1, p1, n1, d1, t2, p2, n2, d2, t3, p3, n3, d3, g1, g2, g3, rfl, rfl, hv1, hv2, hv3, H2⟩
        · obtain rfl := (Option.some.inj hio)
          have h0 : s3 = false := by simpa using h0
          have hda : a3 = true := by simpa [Region.binds] using hd ⟨8, .data⟩ (by simp)
          have hdc : c3 = true := by simpa [Region.binds] using hd ⟨5, .data⟩ (by simp)
          clear hd
          refine wpOp_step rfl (fun K' hK0 => ?_)
          have hK := (show Hid _ from hK0)
          clear hK0
          have H2 := H.out.store3 hda hdc
          obtain ⟨y1, y2, yu, yv, y3, y4⟩ := H.out.X3 hda
          obtain ⟨z0, z1, z2, z3⟩ := y3
          have hr := (H.out.R3 hdc).1
          subst y1 hr
          go_wp2
          exact hK.out _ _ ⟨l1, c1, l2, c2, l3, c3, a1, a2, a3, s1, s2, true, v1, v2, v3, r1, r2, _, x1, x2, _, t1, p1, n1, d1, t2, p2, n2, d2, t3, p3, n3, d3, g1, g2, g3, rfl, rfl, hv1, hv2, hv3, H2⟩
        · omega
      · refine ⟨false, false, false, false, false, false, false, false, false, false, false, false, u23, u25, u27, u24, u26, u28, undef, undef, undef, false, none, 0, [], false, none, 0, [], false, none, 0, [], 0, 0, 0, rfl, rfl, nofun, nofun, nofun, ?_⟩
        exact ⟨(Below.refl _ _).drew, nofun, nofun, nofun, nofun, nofun, nofun, nofun, nofun, nofun, nofun, nofun, nofun, nofun, nofun, nofun, nofun, nofun, nofun, nofun, nofun, nofun, nofun, nofun, nofun⟩
    case rest =>
      obtain ⟨r1, r2, r3, t1, p1, n1, d1, t2, p2, n2, d2, t3, p3, n3, d3, g1, g2, g3, rfl, rfl, rfl, H⟩ := hcut
      have HD : Hid (D3 w wc sa sb sc pa' pb' pc' na' nac' nb' nbc' nc' ncc' (xa.take 24) (xb.take 24) (xc.take 24) g1 g2 g3 t1 p1 n1 d1 t2 p2 n2 d2 t3 p3 n3 d3) := D3.of hG H.out
      clear k0 k1 k2 k3 k4 k5 hG H
      have k0 := HD.out.c.a.b.c0
      have k1 := HD.out.c.a.b.c1
      have k2 := HD.out.c.b.b.c0
      have k3 := HD.out.c.b.b.c1
      go_wp2_with fail
      refine (Gcd_any sa sb pa' pb' na' nac' nb' nbc' _ _ _ HD.out.c.a.a HD.out.c.b.a (by omega) (by omega)).mono ?_
      rintro e w4 ⟨s4, p4, n4, z4, rfl, hN4, hn4, hb4⟩
      have HD4 := HD.out.later hb4
      clear HD k0 k1 k2 k3
      have HD5 := HD4.later (bel_al (o := .cells #[.bool s4, .slice p4 n4 n4] 24) (Below.refl _ _))
      have hN5 := NI_al (o := .cells #[.bool s4, .slice p4 n4 n4] 24) hN4
      have hB5 : Bx (w4.alloc (.cells #[.bool s4, .slice p4 n4 n4] 24)) w4.heap.size (.bool s4) (.slice p4 n4 n4) := Bx.new _ _ _ rfl
      clear HD4 hN4 hb4
      go_wp2_with fail
      generalize w4.alloc (.cells #[.bool s4, .slice p4 n4 n4] 24) = W5 at *
      generalize w4.heap.size = g4 at *
      refine (From_ansF s4 p4 n4 n4 z4 _ (hN5.ai (by omega))).mono ?_
      rintro e w6 ⟨s6, p6, n6, d6, rfl, hR6, hv6, hn6, hF6, hb6⟩
      have HD6 := HD5.later hb6
      have hN6 := hN5.below hb6
      have hB6 := hB5.later hb6
      clear HD5 hN5 hB5 hb6
      have HD7 := HD6.later (bel_al (o := .cells #[.bool s6, .slice p6 n6 n6] 29) (Below.refl _ _))
      have hN7 := NI_al (o := .cells #[.bool s6, .slice p6 n6 n6] 29) hN6
      have hB7 := hB6.alloc (.cells #[.bool s6, .slice p6 n6 n6] 29)
      have hH7 : Bx (w6.alloc (.cells #[.bool s6, .slice p6 n6 n6] 29)) w6.heap.size (.bool s6) (.slice p6 n6 n6) := Bx.new _ _ _ rfl
      have hR7 := hR6.alloc (.cells #[.bool s6, .slice p6 n6 n6] 29)
      clear HD6 hN6 hB6 hR6
      go_wp2_with fail
      generalize w6.alloc (.cells #[.bool s6, .slice p6 n6 n6] 29) = W7 at *
      generalize w6.heap.size = g6 at *
      have HV6 : Hid (rval s6 d6 = ival s4 z4) := hv6
      have hvx := HD7.x.v
      have hvy := HD7.y.v
      have hgc := gcd_rval t1 t2 d1 d2
      rw [hvx, hvy] at hgc
      have HGC : Hid (Int.gcd (vd d1) (vd d2) = Int.gcd (ival sa (xa.take 24)) (ival sb (xb.take 24))) := hgc.symm
      clear hvx hvy hgc hv6
      have k0 := hB7.c0
      have k1 := hB7.c1
      have k2 := HD7.x.b.c0
      have k3 := HD7.x.b.c1
      have k4 := HD7.y.b.c0
      have k5 := HD7.y.b.c1
      have hnx := HD7.x.l
      have hny := HD7.y.l
      go_region_held3 (fun w' => w'.cell? ⟨g4, 0, none⟩ = some (.bool s4) ∧ w'.cell? ⟨g4, 1, none⟩ = some (.slice p4 n4 n4) ∧ w'.cell? ⟨g1, 0, none⟩ = some (.bool t1) ∧ w'.cell? ⟨g1, 1, none⟩ = some (.slice p1 n1 n1) ∧ w'.cell? ⟨g2, 0, none⟩ = some (.bool t2) ∧ w'.cell? ⟨g2, 1, none⟩ = some (.slice p2 n2 n2)) (first | with_reducible exact ⟨k0, k1, k2, k3, k4, k5⟩ | with_reducible exact keepc6 ⟨k0, k1, k2, k3, k4, k5⟩ (undrew hb8) | with_reducible exact keepc6 (keepc6 ⟨k0, k1, k2, k3, k4, k5⟩ (undrew hb8)) hb9 | (simp [go_sem, *]; done))
        (first
          | (go_at_call 9; refine (rGcd_any t1 t2 p1 p2 n1 n2 48 d1 d2 _ HD7.x.r.drew HD7.y.r.drew hnx hny (by decide)).mono ?_; rintro e w8 ⟨p8, n8, d8, rfl, hR8, hv8, hn8, hb8⟩; have HV8 : Hid (rval false d8 = (Int.gcd (vd d1) (vd d2) : Int)) := hv8; clear hv8)
          | (go_at_call 8; have h1 := hN7.below (undrew hb8); refine (rIs_rn h1 (by omega) hR8 (by omega) (HV8.out.trans (congrArg (fun x : Nat => (x : Int)) HGC.out))).mono ?_; rintro e w9 ⟨rfl, hb9⟩))
      have hb10 := bnext' (undrew hb8) hb9
      have HD9 := HD7.later hb10
      have hN9 := hN7.below hb10
      have hH9 := hH7.later hb10
      have hR9 := hR7.below hb10
      clear k0 k1 k2 k3 k4 k5 HD7 hN7 hB7 hH7 hR7 hb8 hb9 hb10 h1 hR8 HV8 hn8
      go_upto_region 7 with fail
      go_cut [14] (fun pv wq => ∃ (gs : Nat) (s : Bool) (p : Option Addr) (n : Nat) (zs : List Int), pv = .pointer (some ⟨gs, 0, none⟩) ∧ Hid (D3 w wq sa sb sc pa' pb' pc' na' nac' nb' nbc' nc' ncc' (xa.take 24) (xb.take 24) (xc.take 24) g1 g2 g3 t1 p1 n1 d1 t2 p2 n2 d2 t3 p3 n3 d3 ∧ Bx wq g6 (.bool s6) (.slice p6 n6 n6) ∧ RN wq s6 p6 n6 d6 ∧ Bx wq gs (.bool s) (.slice p n n) ∧ NI w9.heap.size wq s p n zs (Int.gcd (ival sa (xa.take 24) * ival sc (xc.take 24)) (ival sb (xb.take 24) * ival sc (xc.take 24))) ∧ n ≤ 80))
      case first =>
        have k0 := HD9.c.a.b.c0
        have k1 := HD9.c.a.b.c1
        have k2 := HD9.c.b.b.c0
        have k3 := HD9.c.b.b.c1
        have k4 := HD9.c.c.b.c0
        have k5 := HD9.c.c.b.c1
        refine region_inv (by kernel_rfl) (fun listed a' w' => ∃ (l1 l2 c1 l3 l4 c2 c3 a s : Bool) (v1 v2 v3 v4 r1 r2 r3 x : Value) (t17 : Bool) (p17 : Option Addr) (n17 : Nat) (z17 : List Int) (t27 : Bool) (p27 : Option Addr) (n27 : Nat) (z27 : List Int) (t37 : Bool) (p37 : Option Addr) (n37 : Nat) (z37 : List Int) (g : Nat), listed = #[l1, l2, c1, l3, l4, c2, c3, a, s] ∧ a' = ({ tmps := ((.agg #[.bool sa, .slice pa na nac]) :: (.agg #[.bool sb, .slice pb nb nbc]) :: (.agg #[.bool sc, .slice pc nc ncc]) :: (.pointer (some ⟨w.heap.size, 0, none⟩)) :: (.pointer (some ⟨w.heap.size + 1, 0, none⟩)) :: (.pointer (some ⟨w.heap.size + 1 + 1, 0, none⟩)) :: (.bool false) :: (.bool true) :: (.pointer (some ⟨g1, 0, none⟩)) :: (.pointer (some ⟨g2, 0, none⟩)) :: (.pointer (some ⟨g3, 0, none⟩)) :: (.pointer (some ⟨g4, 0, none⟩)) :: (.pointer (some ⟨g6, 0, none⟩)) :: (.bool true) :: (x) :: (undef) :: (u16) :: (u17) :: (u18) :: (u19) :: (u20) :: (u21) :: (u22) :: (u23) :: (u24) :: (u25) :: (u26) :: (u27) :: (u28) :: (.agg #[.bool sa, .slice pa' na' nac']) :: (.agg #[.bool sb, .slice pb' nb' nbc']) :: (.agg #[.bool s4, .slice p4 n4 n4]) :: (.agg #[.bool s4, .slice p4 n4 n4]) :: (.agg #[.bool s6, .slice p6 n6 n6]) :: (.agg #[.bool s4, .slice p4 n4 n4]) :: (.agg #[.bool t1, .slice p1 n1 n1]) :: (.agg #[.bool t2, .slice p2 n2 n2]) :: (.agg #[.bool false, .slice p8 n8 n8]) :: (.bool true) :: (v1) :: (v2) :: (r1) :: (v3) :: (v4) :: (r2) :: (r3) :: (u46) :: (u47) :: (u48) :: (u49) :: (u50) :: (u51) :: (u52) :: (u53) :: (u54) :: (u55) :: (u56) :: (u57) :: (u58) :: ([] : List Value)).toArray, defers := [] } : Act) ∧ (l1 = true → v1 = .agg #[.bool sa, .slice pa' na' nac']) ∧ (l2 = true → v2 = .agg #[.bool sc, .slice pc' nc' ncc']) ∧ (l3 = true → v3 = .agg #[.bool sb, .slice pb' nb' nbc']) ∧ (l4 = true → v4 = .agg #[.bool sc, .slice pc' nc' ncc']) ∧ Hid (G7 w9 w' (ival sa (xa.take 24) * ival sc (xc.take 24)) (ival sb (xb.take 24) * ival sc (xc.take 24)) (Int.gcd (ival sa (xa.take 24) * ival sc (xc.take 24)) (ival sb (xb.take 24) * ival sc (xc.take 24))) 48 48 80 c1 c2 c3 a s r1 r2 r3 x t17 p17 n17 z17 t27 p27 n27 z27 t37 p37 n37 z37 g)) (by kernel_rfl) ?_ ?_ ?_
        · rintro listed a' w' ⟨l1, l2, c1, l3, l4, c2, c3, a, s, v1, v2, v3, v4, r1, r2, r3, x, t17, p17, n17, z17, t27, p27, n27, z27, t37, p37, n37, z37, g, rfl, rfl, hv1, hv2, hv3, hv4, H⟩ hall
          obtain rfl : l1 = true := by simpa using hall 0 (by decide)
          obtain rfl : l2 = true := by simpa using hall 1 (by decide)
          obtain rfl : c1 = true := by simpa using hall 2 (by decide)
          obtain rfl : l3 = true := by simpa using hall 3 (by decide)
          obtain rfl : l4 = true := by simpa using hall 4 (by decide)
          obtain rfl : c2 = true := by simpa using hall 5 (by decide)
          obtain rfl : c3 = true := by simpa using hall 6 (by decide)
          obtain rfl : a = true := by simpa using hall 7 (by decide)
          obtain rfl : s = true := by simpa using hall 8 (by decide)
          clear hall
          obtain ⟨rfl, x2, xu, xv, x3, x4⟩ := H.out.X rfl
          obtain ⟨rfl, m1, m2⟩ := H.out.M3 rfl
          have x5 := x4 rfl
          injection x5 with x5
          simp at x5
          obtain ⟨rfl, rfl⟩ := x5
          go_wp2_with fail
          go_meet
          exact ⟨_, _, _, _, _, rfl, HD9.later H.out.bel, hH9.later H.out.bel, hR9.below H.out.bel, x3, m1, m2⟩
        · rintro listed a' w' ⟨l1, l2, c1, l3, l4, c2, c3, a, s, v1, v2, v3, v4, r1, r2, r3, x, t17, p17, n17, z17, t27, p27, n27, z27, t37, p37, n37, z37, g, rfl, rfl, hv1, hv2, hv3, hv4, H⟩ i o hio h0 hd
          have hi : i < 9 := (Array.getElem?_eq_some_iff.1 hio).1
          rcases i with _ | _ | _ | _ | _ | _ | _ | _ | _ | i
          · obtain rfl := (Option.some.inj hio)
            replace h0 : l1 = false := by simpa using h0
            clear hd
            refine wpOp_step rfl (fun K' hK0 => ?_)
            have hK := (show Hid _ from hK0)
            clear hK0
            have hC := HD9.c.later H.out.bel
            have z0 := hC.a.b.c0
            have z1 := hC.a.b.c1
            go_wp2
            exact hK.out _ _ ⟨true, l2, c1, l3, l4, c2, c3, a, s, .agg #[.bool sa, .slice pa' na' nac'], v2, v3, v4, r1, r2, r3, x, t17, p17, n17, z17, t27, p27, n27, z27, t37, p37, n37, z37, g, rfl, rfl, fun _ => rfl, hv2, hv3, hv4, H.out⟩
          · obtain rfl := (Option.some.inj hio)
            replace h0 : l2 = false := by simpa using h0
            clear hd
            refine wpOp_step rfl (fun K' hK0 => ?_)
            have hK := (show Hid _ from hK0)
            clear hK0
            have hC := HD9.c.later H.out.bel
            have z0 := hC.c.b.c0
            have z1 := hC.c.b.c1
            go_wp2
            exact hK.out _ _ ⟨l1, true, c1, l3, l4, c2, c3, a, s, v1, .agg #[.bool sc, .slice pc' nc' ncc'], v3, v4, r1, r2, r3, x, t17, p17, n17, z17, t27, p27, n27, z27, t37, p37, n37, z37, g, rfl, rfl, hv1, fun _ => rfl, hv3, hv4, H.out⟩
          · obtain rfl := (Option.some.inj hio)
            replace h0 : c1 = false := by simpa using h0
            have hd0 : l1 = true := by simpa [Region.binds] using hd ⟨0, .data⟩ (by simp)
            have hd1 : l2 = true := by simpa [Region.binds] using hd ⟨1, .data⟩ (by simp)
            clear hd
            refine wpOp_step rfl (fun K' hK0 => ?_)
            have hK := (show Hid _ from hK0)
            clear hK0
            obtain rfl := hv1 hd0
            obtain rfl := hv2 hd1
            have hC := HD9.c.later H.out.bel
            have hfr := Mul_small sa sc pa' pc' na' nac' nc' ncc' _ _ w' hC.a.a hC.c.a (.inl (by omega))
            go_wp2_with fail
            refine hfr.mono ?_
            rintro e w'' ⟨tt, pp, nn, zz, rfl, q1, q2, q3⟩
            have H2 := H.out.call1 q3 q1 (by omega)
            clear hfr
            go_wp2
            exact hK.out _ _ ⟨l1, l2, true, l3, l4, c2, c3, a, s, _, _, v3, v4, .agg #[.bool tt, .slice pp nn nn], r2, r3, x, tt, pp, nn, zz, t27, p27, n27, z27, t37, p37, n37, z37, g, rfl, rfl, fun _ => rfl, fun _ => rfl, hv3, hv4, H2⟩
          · obtain rfl := (Option.some.inj hio)
            replace h0 : l3 = false := by simpa using h0
            clear hd
            refine wpOp_step rfl (fun K' hK0 => ?_)
            have hK := (show Hid _ from hK0)
            clear hK0
            have hC := HD9.c.later H.out.bel
            have z0 := hC.b.b.c0
            have z1 := hC.b.b.c1
            go_wp2
            exact hK.out _ _ ⟨l1, l2, c1, true, l4, c2, c3, a, s, v1, v2, .agg #[.bool sb, .slice pb' nb' nbc'], v4, r1, r2, r3, x, t17, p17, n17, z17, t27, p27, n27, z27, t37, p37, n37, z37, g, rfl, rfl, hv1, hv2, fun _ => rfl, hv4, H.out⟩
          · obtain rfl := (Option.some.inj hio)
            replace h0 : l4 = false := by simpa using h0
            clear hd
            refine wpOp_step rfl (fun K' hK0 => ?_)
            have hK := (show Hid _ from hK0)
            clear hK0
            have hC := HD9.c.later H.out.bel
            have z0 := hC.c.b.c0
            have z1 := hC.c.b.c1
            go_wp2
            exact hK.out _ _ ⟨l1, l2, c1, l3, true, c2, c3, a, s, v1, v2, v3, .agg #[.bool sc, .slice pc' nc' ncc'], r1, r2, r3, x, t17, p17, n17, z17, t27, p27, n27, z27, t37, p37, n37, z37, g, rfl, rfl, hv1, hv2, hv3, fun _ => rfl, H.out⟩
          · obtain rfl := (Option.some.inj hio)
            replace h0 : c2 = false := by simpa using h0
            have hd3 : l3 = true := by simpa [Region.binds] using hd ⟨3, .data⟩ (by simp)
            have hd4 : l4 = true := by simpa [Region.binds] using hd ⟨4, .data⟩ (by simp)
            clear hd
            refine wpOp_step rfl (fun K' hK0 => ?_)
            have hK := (show Hid _ from hK0)
            clear hK0
            obtain rfl := hv3 hd3
            obtain rfl := hv4 hd4
            have hC := HD9.c.later H.out.bel
            have hfr := Mul_small sb sc pb' pc' nb' nbc' nc' ncc' _ _ w' hC.b.a hC.c.a (.inl (by omega))
            go_wp2_with fail
            refine hfr.mono ?_
            rintro e w'' ⟨tt, pp, nn, zz, rfl, q1, q2, q3⟩
            have H2 := H.out.call2 q3 q1 (by omega)
            clear hfr
            go_wp2
            exact hK.out _ _ ⟨l1, l2, c1, l3, l4, true, c3, a, s, v1, v2, _, _, r1, .agg #[.bool tt, .slice pp nn nn], r3, x, t17, p17, n17, z17, tt, pp, nn, zz, t37, p37, n37, z37, g, rfl, rfl, hv1, hv2, fun _ => rfl, fun _ => rfl, H2⟩
          · obtain rfl := (Option.some.inj hio)
            replace h0 : c3 = false := by simpa using h0
            have hd2 : c1 = true := by simpa [Region.binds] using hd ⟨2, .data⟩ (by simp)
            have hd5 : c2 = true := by simpa [Region.binds] using hd ⟨5, .data⟩ (by simp)
            clear hd
            refine wpOp_step rfl (fun K' hK0 => ?_)
            have hK := (show Hid _ from hK0)
            clear hK0
            have hs0 : s = false := by
              cases s with
              | false => rfl
              | true => exact absurd (H.out.o rfl) (by rw [h0]; decide)
            obtain ⟨rfl, m1, m2⟩ := H.out.M1 hd2 hs0
            obtain ⟨rfl, m3, m4⟩ := H.out.M2 hd5 hs0
            have hfr := Gcd_any t17 t27 p17 p27 n17 n17 n27 n27 z17 z27 w' (m1.ai (by omega)) (m3.ai (by omega)) (by omega) (by omega)
            rw [m1.v, m3.v] at hfr
            go_wp2_with fail
            refine hfr.mono ?_
            rintro e w'' ⟨tt, pp, nn, zz, rfl, q1, q2, q3⟩
            have H2 := H.out.call3 (by rw [h0]; decide) q3 q1 q2
            clear hfr
            go_wp2
            exact hK.out _ _ ⟨l1, l2, c1, l3, l4, c2, true, a, s, v1, v2, v3, v4, _, _, .agg #[.bool tt, .slice pp nn nn], x, t17, p17, n17, z17, t27, p27, n27, z27, tt, pp, nn, zz, g, rfl, rfl, hv1, hv2, hv3, hv4, H2⟩
          · obtain rfl := (Option.some.inj hio)
            replace h0 : a = false := by simpa using h0
            clear hd
            refine wpOp_step rfl (fun K' hK0 => ?_)
            have hK := (show Hid _ from hK0)
            clear hK0
            have H2 := H.out.alloc (by rw [h0]; decide) (.bool false) (.slice none 0 0) 24
            go_wp2
            exact hK.out _ _ ⟨l1, l2, c1, l3, l4, c2, c3, true, s, v1, v2, v3, v4, r1, r2, r3, .pointer (some ⟨w'.heap.size, 0, none⟩), t17, p17, n17, z17, t27, p27, n27, z27, t37, p37, n37, z37, w'.heap.size, rfl, rfl, hv1, hv2, hv3, hv4, H2⟩
          · obtain rfl := (Option.some.inj hio)
            replace h0 : s = false := by simpa using h0
            have hd7 : a = true := by simpa [Region.binds] using hd ⟨7, .data⟩ (by simp)
            have hd6 : c3 = true := by simpa [Region.binds] using hd ⟨6, .data⟩ (by simp)
            clear hd
            refine wpOp_step rfl (fun K' hK0 => ?_)
            have hK := (show Hid _ from hK0)
            clear hK0
            have H2 := H.out.store hd7 hd6
            obtain ⟨y1, y2, yu, yv, y3, y4⟩ := H.out.X hd7
            obtain ⟨z0, z1, z2, z3⟩ := y3
            have hr := (H.out.M3 hd6).1
            subst y1 hr
            go_wp2
            exact hK.out _ _ ⟨l1, l2, c1, l3, l4, c2, c3, a, true, v1, v2, v3, v4, r1, r2, _, _, t17, p17, n17, z17, t27, p27, n27, z27, t37, p37, n37, z37, g, rfl, rfl, hv1, hv2, hv3, hv4, H2⟩
          · omega
        · refine ⟨false, false, false, false, false, false, false, false, false, _, _, _, _, _, _, _, _, false, none, 0, [], false, none, 0, [], false, none, 0, [], 0, rfl, rfl, nofun, nofun, nofun, nofun, ?_⟩
          exact ⟨(Below.refl _ _).drew, nofun, nofun, nofun, nofun, nofun, nofun, nofun⟩
      case rest =>
        obtain ⟨gs, s, p, n, zs, rfl, HQ⟩ := hcut
        obtain ⟨HD10, hH10, hR10, hB10, hN10, hn10⟩ := HQ.out
        have HV9 : Hid (rval s6 d6 = (Int.gcd (ival sa (xa.take 24)) (ival sb (xb.take 24)) : Int)) := HV6.out.trans hN9.v
        clear HQ HD9 hN9 hH9 hR9 HV6
        have k0 := hB10.c0
        have k1 := hB10.c1
        have k2 := hH10.c0
        have k3 := hH10.c1
        have k4 := HD10.z.b.c0
        have k5 := HD10.z.b.c1
        have hnz := HD10.z.l
        have hvz := HD10.z.v
        have HVZ : Hid (rval t3 d3 = ival sc (xc.take 24)) := hvz
        clear hvz
        go_upto_region 8 with fail
        go_region_held3 (fun w' => w'.cell? ⟨gs, 0, none⟩ = some (.bool s) ∧ w'.cell? ⟨gs, 1, none⟩ = some (.slice p n n) ∧ w'.cell? ⟨g6, 0, none⟩ = some (.bool s6) ∧ w'.cell? ⟨g6, 1, none⟩ = some (.slice p6 n6 n6) ∧ w'.cell? ⟨g3, 0, none⟩ = some (.bool t3) ∧ w'.cell? ⟨g3, 1, none⟩ = some (.slice p3 n3 n3)) (first | with_reducible exact ⟨k0, k1, k2, k3, k4, k5⟩ | with_reducible exact keepc6 ⟨k0, k1, k2, k3, k4, k5⟩ (undrew hb11) | with_reducible exact keepc6 ⟨k0, k1, k2, k3, k4, k5⟩ hB12 | with_reducible exact keepc6 ⟨k0, k1, k2, k3, k4, k5⟩ hB13 | (simp [go_sem, *]; done))
          (first
            | (go_at_call 12; refine (rAbs_rn HD10.z.r.drew).mono ?_; rintro e w11 ⟨rfl, hR11, hb11⟩)
            | (go_at_call 11; have h2 := hR10.below (undrew hb11); refine (rMul_rn h2 hR11 (by omega) (by omega)).mono ?_; rintro e w12 ⟨s12, p12, n12, d12, rfl, hR12, hv12, hn12, hf12, hb12⟩; have HV12 : Hid (rval s12 d12 = rval s6 d6 * rval false d3) := hv12; clear hv12 h2; have hB12 := bnext' (undrew hb11) hb12)
            | (go_at_call 8; have h1 := hN10.below hB12; refine (rIs_rn h1 (by omega) hR12 (by omega) (scaled_eq HV12.out HV9.out HVZ.out HD10.z.r.u)).mono ?_; rintro e w13 ⟨rfl, hb13⟩; have hB13 := bnext' hB12 hb13))
        have HD13 := HD10.later hB13
        go_wp2
        go_ret
        exact ⟨rfl, HD13.c.bel⟩
end Go.Proofs.YtinkkfkepjgahaaDoor
