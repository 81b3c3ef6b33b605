/-
  upoly.Gcd of any two.
-/
import Derived.Test.YtkjpeehbhmcojaaGreatDoorY9
import Derived.Test.YtkjpeehbhmcojaaGreatDoorUoDmVtAfBpBnBoAhAdBsDtAgWvUhAiRzVd
import Derived.Test.YtkjpeehbhmcojaaGreatDoorZ7Y7Z0
import Derived.Test.YtkjpeehbhmcojaaGreatDoorVoFtVhY4Y5Y6
import Derived.Test.YtkjpeehbhmcojaaGreatDoorOaOfJpCwDj
namespace Go.Proofs.YtkjpeehbhmcojaaGreatDoor
open Go.RowKit
set_option linter.unusedVariables false
set_option linter.unusedSimpArgs false
set_option maxHeartbeats 8000000
theorem Md.Cop.swap {a b : Nat → Int} (h : Md.Cop a b) : Md.Cop b a := fun d N hN hI => h d N hN fun I H hS hd => (hI I H hS hd).symm
theorem Md.GG.swap {A B H a b : List Int} (h : Md.GG A B H a b) : Md.GG B A H b a := ⟨h.hl, h.h0, h.hP, h.bP, h.aP, h.hB, h.hA, h.cop.swap⟩
theorem parts_all {B : Nat} {w : World} {K : Nat} {p : Option Addr} {n : Nat} {es : List Ent} {zs : List Int} (h : PB B w K p n es zs) (hn : n ≤ 1000000) (hK : K < 150) (hK1 : 1 ≤ K) : Calls Tryz.prog 38 #[.slice p n n] w (PtP zs K w) := by
  rcases Nat.eq_zero_or_pos n with h0 | h0
  · have e : zs = [] := List.eq_nil_of_length_eq_zero (by rw [h.zl]; exact h0)
    rw [e] at h ⊢
    subst h0
    exact parts_nil K hK hK1 (h.pa (by omega))
  · exact parts_any h hn h0 hK hK1
theorem gcdl_le {zs : List Int} {P : Int} (hP : 0 < P) (h : ∀ t, ((gx zs t).natAbs : Int) < P) : ((gcdl zs : Nat) : Int) < P := by
  by_cases h0 : ∀ t, gx zs t = 0
  · have h1 := Md.dvd_gcdl (zs := zs) (d := 0) (fun t => by rw [h0 t]; exact Int.dvd_refl 0) zs.length (Nat.le_refl _)
    rw [List.take_length] at h1
    have := Int.zero_dvd.1 h1
    omega
  · obtain ⟨t, ht⟩ := Classical.not_forall.1 h0
    have h1 := Int.natAbs_dvd_natAbs.2 (gcdl_dvd zs t)
    rw [Int.natAbs_natCast] at h1
    have h2 := Nat.le_of_dvd (by omega) h1
    have := h t
    omega
theorem gcd_less {x y : Nat} {P : Int} (hx : (x : Int) < P) (hy : (y : Int) < P) : ((Int.gcd (x : Int) (y : Int) : Nat) : Int) < P := by
  rcases Nat.eq_zero_or_pos x with h0 | h0
  · subst h0
    have : Int.gcd ((0 : Nat) : Int) (y : Int) = y := by simp
    omega
  · have := Nat.le_of_dvd h0 (Nat.gcd_dvd_left x y)
    have e : Int.gcd (x : Int) (y : Int) = Nat.gcd x y := by simp [Int.gcd]
    omega
def PvP (HH : List Int) (w : World) (r : Ending) (w' : World) : Prop := ∃ (p' : Option Addr) (k : Nat) (es' : List Ent), r = .returned (.slice p' k k) ∧ PA w' 70 p' k k es' HH ∧ Below w.heap.size w w'
set_option maxRecDepth 100000 in
theorem uGcd_any {w : World} {p q : Option Addr} {n nc m mc : Nat} {es fs : List Ent} {zs ys HH : List Int} (h : PA w 5 p n nc es zs) (hb : PA w 5 q m mc fs ys) (hz : tlen zs = n) (hy : tlen ys = m) (hn12 : n ≤ 12) (hm12 : m ≤ 12) (hHl : HH.length ≤ 12) (hT : TzT w)
    (h1 : 1 ≤ n → 1 ≤ m → m ≤ n → ∀ (B C : Nat) (p q : Option Addr) (es fs : List Ent) (w : World), PN B w 5 p n es (prml zs) → PN C w 5 q m fs (prml ys) → TzT w → Calls Tryz.prog 39 #[.slice p n n, .slice q m m] w (PvP HH w))
    (h2 : 1 ≤ n → 1 ≤ m → n < m → ∀ (B C : Nat) (p q : Option Addr) (es fs : List Ent) (w : World), PN B w 5 p m es (prml ys) → PN C w 5 q n fs (prml zs) → TzT w → Calls Tryz.prog 39 #[.slice p m m, .slice q n n] w (PvP HH w))
    (h3 : m = 0 → HH = prml zs) (h4 : n = 0 → 1 ≤ m → HH = prml ys) :
    Calls Tryz.prog 14 #[.slice p n nc, .slice q m mc] w (PnP (tr ((tr HH).map (((Int.gcd ((gcdl zs : Nat) : Int) ((gcdl ys : Nat) : Int) : Nat) : Int) * ·))) (5 + 70) w) := by
  have HD := (show Hid _ from h1)
  have HE := (show Hid _ from h2)
  have HD0 := (show Hid _ from h3)
  have HE0 := (show Hid _ from h4)
  have HLE : Hid (HH.length ≤ 12) := hHl
  clear h1 h2 h3 h4 hHl
  have ta : tr zs = zs := tr_whole (by rw [hz, h.zl])
  have tb : tr ys = ys := tr_whole (by rw [hy, hb.zl])
  have hra := read_any 5 p n nc es _ w h (by omega) (by omega)
  rw [ta] at hra
  have hgz := gcdl_le (pw_pos 5) h.gbd
  have hgy := gcdl_le (pw_pos 5) hb.gbd
  have HV : Hid (((Int.gcd ((gcdl zs : Nat) : Int) ((gcdl ys : Nat) : Int) : Nat) : Int) < pw 5) := gcd_less hgz hgy
  have HZ : Hid (zs.length = n ∧ ys.length = m ∧ TzT w) := ⟨h.zl, hb.zl, hT⟩
  clear hgz hgy hT
  go_enter Tryz.func14, Tryz.ntmps14
  go_wp2_with fail
  refine hra.mono ?_
  rintro r w1 ⟨p1, n1, es1, rfl, h1, hb1⟩
  obtain rfl : n1 = n := by rw [← h1.zl, HZ.out.1]
  clear hra
  go_wp2_with fail
  refine (parts_all h1 (by omega) (by omega) (by omega)).mono ?_
  rintro r w2 ⟨u2, p2, n2, es2, rfl, hu2, h2, hb2⟩
  have hn2 : n2 = n1 := by rw [← h2.zl, prml_eq, List.length_map, HZ.out.1]
  subst hn2
  have hal := bel_al (o := .cells #[.bool u2.s, .slice u2.p u2.n u2.c] 47) (Below.refl w2.heap.size w2)
  have hX2 : Bx (w2.alloc (.cells #[.bool u2.s, .slice u2.p u2.n u2.c] 47)) w2.heap.size (.bool u2.s) (.slice u2.p u2.n u2.c) := Bx.new _ _ _ rfl
  have hB2 := bnext' (bnext' hb1 hb2) hal
  have hu3 := hu2.below hal
  have h3 := h2.below hal
  have hrb := read_any 5 q m mc fs _ (w2.alloc (.cells #[.bool u2.s, .slice u2.p u2.n u2.c] 47)) (hb.below hB2) (by omega) (by omega)
  rw [tb] at hrb
  clear h1 hb1 hb2 hal hu2 h2
  go_wp2_with fail
  generalize w2.alloc (.cells #[.bool u2.s, .slice u2.p u2.n u2.c] 47) = W2 at *
  refine hrb.mono ?_
  rintro r w3 ⟨p4, n4, es4, rfl, h4, hb3⟩
  obtain rfl : n4 = m := by rw [← h4.zl, HZ.out.2.1]
  clear hrb
  go_wp2_with fail
  refine (parts_all h4 (by omega) (by omega) (by omega)).mono ?_
  rintro r w4 ⟨u5, p5, n5, es5, rfl, hu5, h5, hb4⟩
  have hn5 : n5 = n4 := by rw [← h5.zl, prml_eq, List.length_map, HZ.out.2.1]
  subst hn5
  have hb34 := bnext' hb3 hb4
  have hal := bel_al (o := .cells #[.bool u5.s, .slice u5.p u5.n u5.c] 47) (Below.refl w4.heap.size w4)
  have hX5 : Bx (w4.alloc (.cells #[.bool u5.s, .slice u5.p u5.n u5.c] 47)) w4.heap.size (.bool u5.s) (.slice u5.p u5.n u5.c) := Bx.new _ _ _ rfl
  have hX6 := (hX2.later hb34).later hal
  have hB6 := bnext' (bnext' hB2 hb34) hal
  have hu6 := (hu3.below hb34).below hal
  have hu7 := hu5.below hal
  have h6 := (h3.below hb34).below hal
  have h7 := h5.below hal
  have HT2 : Hid (TzT _) := HZ.out.2.2.below hB6
  clear h3 hu3 hX2 hB2 h4 hb3 hb4 hb34 hal hu5 h5 ta tb hz hy h hb
  rcases Nat.lt_or_ge n2 n5 with hlt | hge
  · have i1 : (n2 : Int) < (n5 : Int) := by omega
    have i1' : 0 < n5 := by omega
    rcases Nat.eq_zero_or_pos n2 with h0 | h0
    · have HH1 : Hid (HH = prml ys) := HE0.out h0 (by omega)
      have h8 : PA (w4.alloc (.cells #[.bool u5.s, .slice u5.p u5.n u5.c] 47)) 70 p5 n5 n5 es5 HH := by rw [HH1.out]; exact (h7.pa (by omega) (by omega)).up9 (by omega)
      clear hlt i1
      subst h0
      go_upto_region 6 with fail
      generalize w4.alloc (.cells #[.bool u5.s, .slice u5.p u5.n u5.c] 47) = W4 at *
      obtain ⟨q0, q1, -, -⟩ := id hX6
      obtain ⟨q2, q3, -, -⟩ := id hX5
      have hv2 := hu6.ev (by omega)
      have hv5 := hu7.ev (by omega)
      have hgb : (((Int.gcd ((gcdl zs : Nat) : Int) ((gcdl ys : Nat) : Int) : Nat) : Int).natAbs : Int) < pw 5 := by
        have h9 := HV.out
        omega
      have HS : Hid (PA W4 70 _ _ _ _ HH) := h8
      have HB8 := (show Hid _ from hB6)
      have HG2 : Hid (Calls Tryz.prog 41 #[.agg #[.bool u2.s, .slice u2.p u2.n u2.c], .agg #[.bool u5.s, .slice u5.p u5.n u5.c]] _ _) := Gcd_ev hv2 hv5 (by omega) (by omega)
      clear hv2 hv5 h8 hX6 hX5 hu6 hu7 h6 h7 hB6 HT2
      go_wp2_with fail
      go_fit HG2.out
      rintro r w6 ⟨v6, rfl, hv6, hb6⟩
      have hv7 := (hv6.fit (M := 5) hgb).ev (by omega)
      have hs := uScale_any (HS.out.below hb6) hv7 (by have := HS.out.zl; have := HLE.out; omega) (by omega) (by omega)
      have HB : Hid (Below w.heap.size w w6) := bnext' HB8.out hb6
      clear HG2 q0 q1 q2 q3 hv6 hgb hv7 HB8
      go_wp2_with fail
      go_fit hs
      rintro r w7 ⟨p9, n9, e9, rfl, h9, hb7⟩
      clear hs
      have HF : Hid (PnP (tr ((tr HH).map (((Int.gcd ((gcdl zs : Nat) : Int) ((gcdl ys : Nat) : Int) : Nat) : Int) * ·))) (5 + 70) w (.returned (.slice p9 n9 n9)) w7) := PnP.from ⟨p9, n9, e9, rfl, h9, hb7⟩ HB.out
      clear h9 hb7
      go_wp2
      go_ret
      exact HF.out
    · have hpd := HE.out h0 (by omega) hlt _ _ p5 p2 es5 es2 _ h7 h6 HT2.out
      have i2 : (0 : Int) < (n2 : Int) := by omega
      clear hlt
      go_wp2_with fail
      generalize w4.alloc (.cells #[.bool u5.s, .slice u5.p u5.n u5.c] 47) = W4 at *
      refine hpd.mono ?_
      rintro r w5 ⟨p8, k8, e8, rfl, h8, hb5⟩
      have hX8 := hX6.later hb5
      have hX9 := hX5.later hb5
      obtain ⟨q0, q1, -, -⟩ := id hX8
      obtain ⟨q2, q3, -, -⟩ := id hX9
      have hv2 := (hu6.below hb5).ev (by omega)
      have hv5 := (hu7.below hb5).ev (by omega)
      have hg := Gcd_ev hv2 hv5 (by omega) (by omega)
      have hB8 := bnext' hB6 hb5
      have hgb : (((Int.gcd ((gcdl zs : Nat) : Int) ((gcdl ys : Nat) : Int) : Nat) : Int).natAbs : Int) < pw 5 := by
        have h9 := HV.out
        omega
      have HS : Hid (PA w5 70 p8 k8 k8 e8 HH) := h8
      have HB8 := (show Hid _ from hB8)
      clear hX6 hX5 hu6 hu7 h6 h7 hb5 hB6 h8 hB8 HT2
      go_wp2_with fail
      go_fit hg
      rintro r w6 ⟨v6, rfl, hv6, hb6⟩
      have hv7 := (hv6.fit (M := 5) hgb).ev (by omega)
      have hs := uScale_any (HS.out.below hb6) hv7 (by have := HS.out.zl; have := HLE.out; omega) (by omega) (by omega)
      have HB : Hid (Below w.heap.size w w6) := bnext' HB8.out hb6
      clear hg q0 q1 q2 q3 hX8 hX9 hv6 hv2 hv5 hgb hv7 HB8
      go_wp2_with fail
      go_fit hs
      rintro r w7 ⟨p9, n9, e9, rfl, h9, hb7⟩
      clear hs
      have HF : Hid (PnP (tr ((tr HH).map (((Int.gcd ((gcdl zs : Nat) : Int) ((gcdl ys : Nat) : Int) : Nat) : Int) * ·))) (5 + 70) w (.returned (.slice p9 n9 n9)) w7) := PnP.from ⟨p9, n9, e9, rfl, h9, hb7⟩ HB.out
      clear h9 hb7
      go_wp2
      go_ret
      exact HF.out
  · have i3 : ((n2 : Int) < (n5 : Int)) = False := by simp; omega
    have i4 : decide ((n2 : Int) < (n5 : Int)) = false := by simp; omega
    rcases Nat.eq_zero_or_pos n5 with h0 | h0
    · have HH1 : Hid (HH = prml zs) := HD0.out h0
      have h8 : PA (w4.alloc (.cells #[.bool u5.s, .slice u5.p u5.n u5.c] 47)) 70 p2 n2 n2 es2 HH := by rw [HH1.out]; exact (h6.pa (by omega) (by omega)).up9 (by omega)
      have i5 : ((n2 : Int) < (0 : Int)) = False := by simp
      have i6 : decide ((n2 : Int) < (0 : Int)) = false := by simp
      clear hge i3 i4
      subst h0
      go_upto_region 6 with fail
      generalize w4.alloc (.cells #[.bool u5.s, .slice u5.p u5.n u5.c] 47) = W4 at *
      obtain ⟨q0, q1, -, -⟩ := id hX6
      obtain ⟨q2, q3, -, -⟩ := id hX5
      have hv2 := hu6.ev (by omega)
      have hv5 := hu7.ev (by omega)
      have hgb : (((Int.gcd ((gcdl zs : Nat) : Int) ((gcdl ys : Nat) : Int) : Nat) : Int).natAbs : Int) < pw 5 := by
        have h9 := HV.out
        omega
      have HS : Hid (PA W4 70 _ _ _ _ HH) := h8
      have HB8 := (show Hid _ from hB6)
      have HG2 : Hid (Calls Tryz.prog 41 #[.agg #[.bool u2.s, .slice u2.p u2.n u2.c], .agg #[.bool u5.s, .slice u5.p u5.n u5.c]] _ _) := Gcd_ev hv2 hv5 (by omega) (by omega)
      clear hv2 hv5 h8 hX6 hX5 hu6 hu7 h6 h7 hB6 HT2
      go_wp2_with fail
      go_fit HG2.out
      rintro r w6 ⟨v6, rfl, hv6, hb6⟩
      have hv7 := (hv6.fit (M := 5) hgb).ev (by omega)
      have hs := uScale_any (HS.out.below hb6) hv7 (by have := HS.out.zl; have := HLE.out; omega) (by omega) (by omega)
      have HB : Hid (Below w.heap.size w w6) := bnext' HB8.out hb6
      clear HG2 q0 q1 q2 q3 hv6 hgb hv7 HB8
      go_wp2_with fail
      go_fit hs
      rintro r w7 ⟨p9, n9, e9, rfl, h9, hb7⟩
      clear hs
      have HF : Hid (PnP (tr ((tr HH).map (((Int.gcd ((gcdl zs : Nat) : Int) ((gcdl ys : Nat) : Int) : Nat) : Int) * ·))) (5 + 70) w (.returned (.slice p9 n9 n9)) w7) := PnP.from ⟨p9, n9, e9, rfl, h9, hb7⟩ HB.out
      clear h9 hb7
      go_wp2
      go_ret
      exact HF.out
    · have hpd := HD.out (by omega) h0 hge _ _ p2 p5 es2 es5 _ h6 h7 HT2.out
      have i2 : (0 : Int) < (n5 : Int) := by omega
      clear hge
      go_wp2_with fail
      generalize w4.alloc (.cells #[.bool u5.s, .slice u5.p u5.n u5.c] 47) = W4 at *
      refine hpd.mono ?_
      rintro r w5 ⟨p8, k8, e8, rfl, h8, hb5⟩
      have hX8 := hX6.later hb5
      have hX9 := hX5.later hb5
      obtain ⟨q0, q1, -, -⟩ := id hX8
      obtain ⟨q2, q3, -, -⟩ := id hX9
      have hv2 := (hu6.below hb5).ev (by omega)
      have hv5 := (hu7.below hb5).ev (by omega)
      have hg := Gcd_ev hv2 hv5 (by omega) (by omega)
      have hB8 := bnext' hB6 hb5
      have hgb : (((Int.gcd ((gcdl zs : Nat) : Int) ((gcdl ys : Nat) : Int) : Nat) : Int).natAbs : Int) < pw 5 := by
        have h9 := HV.out
        omega
      have HS : Hid (PA w5 70 p8 k8 k8 e8 HH) := h8
      have HB8 := (show Hid _ from hB8)
      clear hX6 hX5 hu6 hu7 h6 h7 hb5 hB6 h8 hB8 HT2
      go_wp2_with fail
      go_fit hg
      rintro r w6 ⟨v6, rfl, hv6, hb6⟩
      have hv7 := (hv6.fit (M := 5) hgb).ev (by omega)
      have hs := uScale_any (HS.out.below hb6) hv7 (by have := HS.out.zl; have := HLE.out; omega) (by omega) (by omega)
      have HB : Hid (Below w.heap.size w w6) := bnext' HB8.out hb6
      clear hg q0 q1 q2 q3 hX8 hX9 hv6 hv2 hv5 hgb hv7 HB8
      go_wp2_with fail
      go_fit hs
      rintro r w7 ⟨p9, n9, e9, rfl, h9, hb7⟩
      clear hs
      have HF : Hid (PnP (tr ((tr HH).map (((Int.gcd ((gcdl zs : Nat) : Int) ((gcdl ys : Nat) : Int) : Nat) : Int) * ·))) (5 + 70) w (.returned (.slice p9 n9 n9)) w7) := PnP.from ⟨p9, n9, e9, rfl, h9, hb7⟩ HB.out
      clear h9 hb7
      go_wp2
      go_ret
      exact HF.out
end Go.Proofs.YtkjpeehbhmcojaaGreatDoor
namespace Go.Proofs.YtkjpeehbhmcojaaGreatDoor.Md
open Go.Proofs.YtkjpeehbhmcojaaGreatDoor
set_option linter.unusedVariables false
set_option linter.unusedSimpArgs false
theorem some_bd (l : List Int) : ∃ s, ∀ t, (gx l t).natAbs ≤ 2 ^ s := ⟨pb l, fun t => by
  rcases Nat.lt_or_ge t l.length with h | h
  · have h1 := (zb_ib (gx l t)).2.1
    have h2 : (2 : Int) ^ zb (gx l t) ≤ 2 ^ pb l := p2_mono (zb_pb l t h)
    have h3 : (((2 : Nat) ^ pb l : Nat) : Int) = (2 : Int) ^ pb l := by rw [Int.natCast_pow]; rfl
    omega
  · rw [gx_past l _ (Nat.le_refl _) t h]
    exact Nat.zero_le _⟩
theorem zb_pow {x : Int} {K : Nat} (h : zb x ≤ K) : x.natAbs ≤ 2 ^ K := by
  have h1 := (zb_ib x).2.1
  have h2 : (2 : Int) ^ zb x ≤ 2 ^ K := p2_mono h
  have h3 : (((2 : Nat) ^ K : Nat) : Int) = (2 : Int) ^ K := by rw [Int.natCast_pow]; rfl
  omega
theorem zb_pw9 {z : Int} {K : Nat} (h : (z.natAbs : Int) < pw K) : zb z ≤ 32 * K := by
  refine zb_le_of ?_
  have h3 : (2 : Int) ^ (32 * K) = pw K := by rw [Int.pow_mul]; rfl
  rw [h3]
  exact h
structure Two (x y H : List Int) : Prop where
  n0 : 0 < x.length
  m0 : 0 < y.length
  hF : HF H
  st : GSt H (prml x) (prml y)
  PA : Gs.Prm (prml x)
  PB : Gs.Prm (prml y)
  tA : 0 < gx (prml x) (x.length - 1)
  tB : 0 < gx (prml y) (y.length - 1)
  lA : H.length ≤ x.length
  lB : H.length ≤ y.length
  ex : ∃ (a b : List Int) (R u : Int), GG (prml x) (prml y) H a b ∧ R ≠ 0 ∧ R.natAbs ≤ 2 ^ rb ∧ (∀ I, Idl 0 I → I (gx a) → I (gx b) → I (cst R)) ∧ ((Int.gcd (gx (prml x) (x.length - 1)) (gx (prml y) (y.length - 1)) : Nat) : Int) = gx H (H.length - 1) * u ∧ ∀ t, (u * gx H t).natAbs ≤ 2 ^ (160 + gm)
theorem two_of {X Y Z x y : List Int} (hX : tlen X ≤ 5) (hY : tlen Y ≤ 5) (xb : ∀ t, ((gx X t).natAbs : Int) < pw 2) (yb : ∀ t, ((gx Y t).natAbs : Int) < pw 2) (hx : ∀ t, gx x t = gx (mulp X Z) t) (hy : ∀ t, gx y t = gx (mulp Y Z) t)
    (tx : tlen x = x.length) (ty : tlen y = y.length) (x0 : 0 < x.length) (y0 : 0 < y.length) (lx : x.length ≤ 8) (ly : y.length ≤ 8) (bx : ∀ t, ((gx x t).natAbs : Int) < pw 5) (bY : ∀ t, ((gx y t).natAbs : Int) < pw 5) : ∃ H, Two x y H := by
  obtain ⟨s1, s2, s3, s4, s5, s6⟩ := prml_spec tx x0
  obtain ⟨v1, v2, v3, v4, v5, v6⟩ := prml_spec ty y0
  obtain ⟨H, a, b, G⟩ := gcd_norm s1 v1
  have cX : ∀ t, prd x * gx (prml x) t = cvf (gx X) (gx Z) t := fun t => by rw [← s6, hx, Sk.gx_mulp_cv, cvf_cv]
  have cY : ∀ t, prd y * gx (prml y) t = cvf (gx Y) (gx Z) t := fun t => by rw [← v6, hy, Sk.gx_mulp_cv, cvf_cv]
  have nzero : ∀ {U W : List Int}, 0 < tlen W → (∀ t, gx W t = gx (mulp U Z) t) → 0 < tlen U ∧ 0 < tlen Z := fun {U W} h1 h2 => by
    have h3 := tlen_top W h1
    rw [h2, Sk.gx_mulp_cv] at h3
    refine ⟨Nat.pos_of_ne_zero fun h4 => h3 (Sk.cv_zl (fun i => tlen_zero U i (by omega)) _ _), Nat.pos_of_ne_zero fun h4 => h3 (Sk.cv_zr (fun i => tlen_zero Z i (by omega)) _ _)⟩
  obtain ⟨X0, Z0⟩ := nzero (by omega) hx
  obtain ⟨Y0, -⟩ := nzero (by omega) hy
  have pb0 := prm_pos G.bP
  obtain ⟨sa, ha⟩ := some_bd a
  obtain ⟨sb, hb⟩ := some_bd b
  obtain ⟨R0, r0, -, r2⟩ := bez (tlen b - 1) (tlen a) (tlen b - 1) sa sb (gx a) (gx b) (Nat.le_refl _) (fun t ht => tlen_zero a t (by omega)) (fun t ht => tlen_zero b t (by omega)) (tlen_top b pb0) ha hb G.cop
  have qZ : QM (gx Z) (gx H) := com_dvd G.hA G.hB r0 r2 ⟨prd x, gx X, X.length, s5, fun t ht => gx_past X _ (Nat.le_refl _) t ht, cX⟩ ⟨prd y, gx Y, Y.length, v5, fun t ht => gx_past Y _ (Nat.le_refl _) t ht, cY⟩
  obtain ⟨a72, ta5⟩ := cof_bits (cof_dvd cX G.hA G.aP Z0 qZ) X0 hX fun t => zb_pw9 (xb t)
  obtain ⟨b72, tb5⟩ := cof_bits (cof_dvd cY G.hB G.bP Z0 qZ) Y0 hY fun t => zb_pw9 (yb t)
  obtain ⟨R, R1, R2, R3⟩ := bez_cof a72 b72 ta5 tb5 pb0 G.cop
  have lB : H.length ≤ y.length := by
    have := G.len (by rw [v3]; exact y0)
    omega
  have lA : H.length ≤ x.length := by
    have := G.swap.len (by rw [s3]; exact x0)
    omega
  have hpos := prm_pos G.hP
  have hl := G.hl
  have less : ∀ {z : List Int} {c e : Int}, c ≠ 0 → e = c * e → True := fun _ _ => trivial
  have Ab : ∀ t, ((gx (prml x) t).natAbs : Int) < pw 5 := fun t => by
    have h1 := bx t
    rw [s6, Int.natAbs_mul] at h1
    have h2 : 1 * (gx (prml x) t).natAbs ≤ (prd x).natAbs * (gx (prml x) t).natAbs := Nat.mul_le_mul_right _ (by omega)
    omega
  have Hb : ∀ t, (gx H t).natAbs ≤ 2 ^ gm := fun t => by
    have h1 := fac_bits (F := prml x) (a := H) (q := a) (fun t => by rw [G.hA, cvf_cv, Sk.gx_mulp_cv]) (by omega) (by omega) t
    have h2 : pb (tr (prml x)) ≤ 160 := pb_all fun t => by rw [gx_tr]; exact zb_pw9 (Ab t)
    have h3 : ∀ n, n ≤ 8 → Lib.bitLen n ≤ 4 := by decide
    have h4 := h3 (tlen (prml x)) (by omega)
    exact zb_pow (by unfold gm; omega)
  have hFH : HF H := ⟨hl, G.h0, G.hP, by omega, Hb⟩
  obtain ⟨g, hg⟩ : ∃ g, H.length = g + 1 := ⟨H.length - 1, by omega⟩
  have hH0 := G.h0
  rw [hg, Nat.add_sub_cancel] at hH0
  have pa0 := prm_pos G.aP
  -- the leading entries
  have ld : ∀ {c W : List Int}, (∀ t, gx W t = cvf (gx c) (gx H) t) → 0 < tlen c → tlen W = tlen c + g ∧ gx W (tlen W - 1) = gx c (tlen c - 1) * gx H g := fun {c W} hW hc => by
    have h1 := cvf_top (r := gx c) (h := gx H) (d := tlen c - 1) (g := g) (fun t ht => tlen_zero c t (by omega)) (fun t ht => gx_past H (g + 1) (by omega) t (by omega))
    have h2 := tlen_eq W (tlen c + g) (fun j hj => by rw [hW, cvf_past (d := tlen c - 1) (g := g) (fun t ht => tlen_zero c t (by omega)) (fun t ht => gx_past H (g + 1) (by omega) t (by omega)) j (by omega)]) (.inr (by
      rw [show tlen c + g - 1 = tlen c - 1 + g by omega, hW, h1]
      exact Int.mul_ne_zero (tlen_top c hc) (by omega)))
    exact ⟨h2, by rw [h2, show tlen c + g - 1 = tlen c - 1 + g by omega, hW, h1]⟩
  obtain ⟨la1, la2⟩ := ld G.hA pa0
  obtain ⟨lb1, lb2⟩ := ld G.hB pb0
  rw [s3] at la2
  rw [v3] at lb2
  obtain ⟨u, hu⟩ : gx H g ∣ ((Int.gcd (gx (prml x) (x.length - 1)) (gx (prml y) (y.length - 1)) : Nat) : Int) := Int.dvd_coe_gcd (by rw [la2]; exact Int.dvd_mul_left _ _) (by rw [lb2]; exact Int.dvd_mul_left _ _)
  have hub : u.natAbs ≤ 2 ^ 160 := by
    have h1 : Int.gcd (gx (prml x) (x.length - 1)) (gx (prml y) (y.length - 1)) ≤ (gx (prml x) (x.length - 1)).natAbs := Nat.le_of_dvd (by omega) (Int.gcd_dvd_natAbs_left _ _)
    have h2 := Ab (x.length - 1)
    have h4 : pw 5 = ((2 ^ 160 : Nat) : Int) := by decide
    rw [h4] at h2
    have h3 := congrArg Int.natAbs hu
    rw [Int.natAbs_natCast, Int.natAbs_mul] at h3
    have h5 : 1 * u.natAbs ≤ (gx H g).natAbs * u.natAbs := Nat.mul_le_mul_right _ (by omega)
    omega
  have bt : 0 < gx b (tlen b - 1) := by
    rw [lb2] at v2
    rcases Int.lt_trichotomy (gx b (tlen b - 1)) 0 with h1 | h1 | h1
    · have := Int.mul_neg_of_neg_of_pos h1 hH0
      omega
    · rw [h1, Int.zero_mul] at v2; omega
    · exact h1
  refine ⟨H, x0, y0, hFH, .inr (.inr ⟨by rw [s4]; exact x0, by rw [v4]; exact y0, tr a, tr b, 72, 72, 7, ⟨?_, ?_, ?_, ?_, ?_, ?_, ?_, ?_, ?_, ?_⟩, ?_⟩), s1, v1, s2, v2, lA, lB, a, b, R, u, G, R1, R2, R3, by rw [hg, Nat.add_sub_cancel]; exact hu, fun t => ?_⟩
  · intro t
    rw [G.hA, show gx (tr a) = gx a from funext fun i => gx_tr a i]
  · intro t
    rw [G.hB, show gx (tr b) = gx b from funext fun i => gx_tr b i]
  · exact prm_of (s := 1) G.bP fun t => by rw [gx_tr, Int.one_mul]
  · rw [tlen_tr, length_tr]
  · rw [tlen_tr, length_tr]
  · rw [length_tr]; exact pa0
  · rw [length_tr, gx_tr]; exact bt
  · rw [show gx (tr a) = gx a from funext fun i => gx_tr a i, show gx (tr b) = gx b from funext fun i => gx_tr b i]; exact G.cop
  · intro t; rw [gx_tr]; exact a72 t
  · intro t; rw [gx_tr]; exact b72 t
  · rw [length_tr, length_tr]; exact ck_start _ (by omega) _ (by omega)
  · rw [Int.natAbs_mul, Nat.pow_add]
    exact Nat.mul_le_mul hub (Hb t)
end Go.Proofs.YtkjpeehbhmcojaaGreatDoor.Md
namespace Go.Proofs.YtkjpeehbhmcojaaGreatDoor
open Go.RowKit
set_option linter.unusedVariables false
set_option linter.unusedSimpArgs false
theorem PR.wide9 {W : World} {N M : Nat} {p : Option Addr} {n nc : Nat} {es : List Ent} {zs : List Int} (h : PR W N p n nc es zs) (hM : N ≤ M) : PR W M p n nc es zs := ⟨h.el, h.zl, h.cap, h.bnd, h.pl, fun j hj => (h.ev j hj).wide hM⟩
structure LwF (x y H : List Int) : Prop where
  tH : tlen H = H.length
  l12 : H.length ≤ 12
  st : GSt H (prml x) (prml y)
  hF : 0 < y.length → HF H
  y0 : y.length = 0 → H = prml x
  x0 : x.length = 0 → 1 ≤ y.length → H = prml y
  two : 1 ≤ x.length → 1 ≤ y.length → Md.Two x y H
theorem law_facts {X Y Z x y : List Int} (hX : tlen X ≤ 5) (hY : tlen Y ≤ 5) (xb : ∀ t, ((gx X t).natAbs : Int) < pw 2) (yb : ∀ t, ((gx Y t).natAbs : Int) < pw 2) (hx : ∀ t, gx x t = gx (mulp X Z) t) (hy : ∀ t, gx y t = gx (mulp Y Z) t)
    (tx : tlen x = x.length) (ty : tlen y = y.length) (lx : x.length ≤ 8) (ly : y.length ≤ 8) (bx : ∀ t, ((gx x t).natAbs : Int) < pw 5) (bY : ∀ t, ((gx y t).natAbs : Int) < pw 5) : ∃ H, LwF x y H := by
  have e0 : ∀ z : List Int, z.length = 0 → prml z = [] := fun z h => by rw [List.eq_nil_of_length_eq_zero h]; rfl
  rcases Nat.eq_zero_or_pos y.length with h1 | h1
  · have hl : tlen (prml x) = (prml x).length ∧ (prml x).length ≤ 12 := by
      rcases Nat.eq_zero_or_pos x.length with h2 | h2
      · rw [e0 x h2]; exact ⟨rfl, by decide⟩
      · obtain ⟨s1, s2, s3, s4, s5, s6⟩ := Md.prml_spec tx h2
        exact ⟨by omega, by omega⟩
    exact ⟨prml x, hl.1, hl.2, .inl ⟨by rw [e0 y h1]; rfl, rfl⟩, fun h => by omega, fun _ => rfl, fun _ h => by omega, fun _ h => by omega⟩
  · rcases Nat.eq_zero_or_pos x.length with h2 | h2
    · obtain ⟨s1, s2, s3, s4, s5, s6⟩ := Md.prml_spec ty h1
      refine ⟨prml y, by omega, by omega, .inr (.inl ⟨by rw [e0 x h2]; rfl, by omega, rfl⟩), fun _ => ⟨by omega, by rw [s4]; exact s2, s1, by omega, fun t => ?_⟩, fun h => by omega, fun _ _ => rfl, fun h => by omega⟩
      have h3 := bY t
      rw [s6, Int.natAbs_mul] at h3
      have h4 : 1 * (gx (prml y) t).natAbs ≤ (prd y).natAbs * (gx (prml y) t).natAbs := Nat.mul_le_mul_right _ (by omega)
      have h5 : pw 5 = ((2 ^ 160 : Nat) : Int) := by decide
      rw [h5] at h3
      have h6 : (2 : Nat) ^ 160 ≤ 2 ^ Md.gm := Nat.pow_le_pow_right (by decide) (by decide)
      omega
    · obtain ⟨H, T⟩ := Md.two_of hX hY xb yb hx hy tx ty h2 h1 lx ly bx bY
      exact ⟨H, T.hF.hl, by have := T.hF.h8; omega, T.st, fun _ => T.hF, fun h => by omega, fun h => by omega, fun _ _ => T⟩
set_option maxRecDepth 100000 in
theorem PolyGcd_walk {w : World} {p q g : Option Addr} {n nc m mc l lc : Nat} {es fs gs : List Ent} (h : PZ w p n nc es) (k : PZ w q m mc fs) (j : PZ w g l lc gs) (hT : TzT w) :
    Calls Tryz.prog 4 #[.slice p n nc, .slice q m mc, .slice g l lc] w fun r w' => r = .returned (.bool true) ∧ Below w.heap.size w w' := by
  have HX : Hid (PZ w p n nc es ∧ PZ w q m mc fs ∧ PZ w g l lc gs) := ⟨h, k, j⟩
  have HT : Hid (TzT w) := hT
  clear h k j hT
  go_enter Tryz.func4, Tryz.ntmps4
  go_wp2_with fail
  refine (begun3_any w).mono ?_
  rintro r W1 ⟨rfl, hb0⟩
  have hc1 := Cut3_any (HX.out.1.below hb0) 5 2 (by decide) (by decide)
  go_wp2_with fail
  go_fit hc1
  rintro r w1 ⟨p1, n1, nc1, es1, xs, rfl, hP1, hn1, -, -, hb1⟩
  have hB1 := bnext' hb0 hb1
  have hn5 : n1 ≤ 5 := by omega
  clear hn1 hc1
  have hc2 := Cut3_any (HX.out.2.1.below hB1) 5 2 (by decide) (by decide)
  go_wp2_with fail
  go_fit hc2
  rintro r w2 ⟨q1, m1, mc1, fs1, ys, rfl, hQ1, hm1, -, -, hb2⟩
  have hB2 := bnext' hB1 hb2
  have hm5 : m1 ≤ 5 := by omega
  clear hm1 hc2
  have hc3 := Cut3_any (HX.out.2.2.below hB2) 4 2 (by decide) (by decide)
  go_wp2_with fail
  go_fit hc3
  rintro r w3 ⟨g1, l1, lc1, gs1, zs, rfl, hG1, hl1, -, -, hb3⟩
  have hB3 := bnext' hB2 hb3
  have hl4 : l1 ≤ 4 := by omega
  clear hl1 hc3
  have HP : Hid (PA w3 2 p1 n1 nc1 es1 xs ∧ PA w3 2 q1 m1 mc1 fs1 ys ∧ PA w3 2 g1 l1 lc1 gs1 zs ∧ Below w.heap.size w w3) := ⟨(hP1.below hb2).below hb3, hQ1.below hb3, hG1, hB3⟩
  clear hP1 hQ1 hG1 hb0 hb1 hb2 hb3 hB1 hB2 hB3 HX
  have hf1 := rpFrom_any HP.out.1 (by omega) (by decide)
  go_wp2_with fail
  go_fit hf1
  rintro r w4 ⟨px, nx, ex, rfl, hRx, -, htx, hb4⟩
  have hf2 := rpFrom_any (HP.out.2.1.below hb4) (by omega) (by decide)
  clear hf1
  go_wp2_with fail
  go_fit hf2
  rintro r w5 ⟨py, ny, ey, rfl, hRy, -, hty, hb5⟩
  have hf3 := rpFrom_any (HP.out.2.2.1.below (bnext' hb4 hb5)) (by omega) (by decide)
  clear hf2
  go_wp2_with fail
  go_fit hf3
  rintro r w6 ⟨pz0, nz, ez0, rfl, hRz, -, htz, hb6⟩
  clear hf3
  rw [tlen_tr] at htx hty htz
  have hnx : nx ≤ 5 := by have := tlen_le xs; have := HP.out.1.zl; omega
  have hny : ny ≤ 5 := by have := tlen_le ys; have := HP.out.2.1.zl; omega
  have hnz : nz ≤ 4 := by have := tlen_le zs; have := HP.out.2.2.1.zl; omega
  have HR : Hid (PR w6 4 px nx nx ex (tr xs) ∧ PR w6 4 py ny ny ey (tr ys) ∧ PR w6 4 pz0 nz nz ez0 (tr zs) ∧ tlen xs = nx ∧ tlen ys = ny ∧ tlen zs = nz ∧ Below w.heap.size w w6) := ⟨(hRx.below hb5).below hb6, hRy.below hb6, hRz, htx, hty, htz, bnext' HP.out.2.2.2 (bnext' hb4 (bnext' hb5 hb6))⟩
  have HXB : Hid ((∀ t, ((gx (tr xs) t).natAbs : Int) < pw 2) ∧ (∀ t, ((gx (tr ys) t).natAbs : Int) < pw 2) ∧ (∀ t, ((gx (tr zs) t).natAbs : Int) < pw 2)) := ⟨fun t => by rw [gx_tr]; exact HP.out.1.gbd t, fun t => by rw [gx_tr]; exact HP.out.2.1.gbd t, fun t => by rw [gx_tr]; exact HP.out.2.2.1.gbd t⟩
  clear HP hRx hRy hRz htx hty htz hb4 hb5 hb6
  have hmu := rpMul_any (K := 2) (L := 2) HR.out.1 HR.out.2.2.1 (by rw [tlen_tr, length_tr]) (by rw [tlen_tr, length_tr]) (by omega) (by omega) (by decide) (by decide) HXB.out.1 HXB.out.2.2 (by decide)
  go_wp2_with fail
  go_fit hmu
  rintro r w7 ⟨pm, nm, em, rfl, hRm, -, htm, hb7⟩
  have hmv := rpMul_any (K := 2) (L := 2) (HR.out.2.1.below hb7) (HR.out.2.2.1.below hb7) (by rw [tlen_tr, length_tr]) (by rw [tlen_tr, length_tr]) (by omega) (by omega) (by decide) (by decide) HXB.out.2.1 HXB.out.2.2 (by decide)
  clear hmu
  go_wp2_with fail
  go_fit hmv
  rintro r w8 ⟨pv, nv, ev, rfl, hRv, -, htv, hb8⟩
  clear hmv
  have hml : ∀ (a b : List Int), a.length ≤ 5 → b.length ≤ 4 → (mulp a b).length ≤ 8 := fun a b h1 h2 => by
    unfold mulp
    split
    · simp
    · rw [length_mulz]; omega
  have hlm : nm ≤ 8 := by
    have h1 := hRm.zl
    have := hml (tr xs) (tr zs) (by rw [length_tr, HR.out.2.2.2.1]; exact hnx) (by rw [length_tr, HR.out.2.2.2.2.2.1]; exact hnz)
    omega
  have hlv : nv ≤ 8 := by
    have h1 := hRv.zl
    have := hml (tr ys) (tr zs) (by rw [length_tr, HR.out.2.2.2.2.1]; exact hny) (by rw [length_tr, HR.out.2.2.2.2.2.1]; exact hnz)
    omega
  have hbm : ∀ t, ((gx (mulp (tr xs) (tr zs)) t).natAbs : Int) < pw 5 := fun t => pr_bdk (K := 5) hRm t
  have hbv : ∀ t, ((gx (mulp (tr ys) (tr zs)) t).natAbs : Int) < pw 5 := fun t => pr_bdk (K := 5) hRv t
  obtain ⟨H, LW⟩ := law_facts (X := tr xs) (Y := tr ys) (Z := tr zs) (x := mulp (tr xs) (tr zs)) (y := mulp (tr ys) (tr zs)) (by rw [tlen_tr, HR.out.2.2.2.1]; exact hnx) (by rw [tlen_tr, HR.out.2.2.2.2.1]; exact hny) HXB.out.1 HXB.out.2.1 (fun _ => rfl) (fun _ => rfl) (by rw [htm, hRm.zl]) (by rw [htv, hRv.zl]) (by rw [hRm.zl]; exact hlm) (by rw [hRv.zl]; exact hlv) hbm hbv
  have H8 : Hid (PR w8 10 pm nm nm em (mulp (tr xs) (tr zs)) ∧ PR w8 10 pv nv nv ev (mulp (tr ys) (tr zs)) ∧ tlen (mulp (tr xs) (tr zs)) = nm ∧ tlen (mulp (tr ys) (tr zs)) = nv ∧ Below w.heap.size w w8) := ⟨hRm.below hb8, hRv, htm, htv, bnext' HR.out.2.2.2.2.2.2 (bnext' hb7 hb8)⟩
  clear hRm hRv htm htv hb7 hb8 HR HXB hml hbm hbv hnx hny hnz
  generalize mulp (tr xs) (tr zs) = x at *
  generalize mulp (tr ys) (tr zs) = y at *
  have HLW := (show Hid _ from LW)
  clear LW
  have hto := rpTo_any (K := 5) H8.out.1 (by omega) (by decide) (by decide)
  go_wp2_with fail
  go_fit hto
  rintro r w9 ⟨p9, n9, nc9, e9, rfl, hT9, hb9⟩
  have htp := rpTo_any (K := 5) (H8.out.2.1.below hb9) (by omega) (by decide) (by decide)
  clear hto
  go_wp2_with fail
  go_fit htp
  rintro r w10 ⟨p10, n10, nc10, e10, rfl, hT10, hb10⟩
  clear htp
  have hn9 : n9 = nm := by have h1 := hT9.zl; have h2 := H8.out.1.zl; omega
  have hn10 : n10 = nv := by have h1 := hT10.zl; have h2 := H8.out.2.1.zl; omega
  subst hn9 hn10
  have HB10 : Hid (Below w.heap.size w w10 ∧ Below w8.heap.size w8 w10) := ⟨bnext' H8.out.2.2.2.2 (bnext' hb9 hb10), bnext' hb9 hb10⟩
  have lxn := H8.out.1.zl
  have lyn := H8.out.2.1.zl
  have hgc := uGcd_any (HH := H) (hT9.below hb10) hT10 H8.out.2.2.1 H8.out.2.2.2.1 (by omega) (by omega) HLW.out.l12 (HT.out.below HB10.out.1)
    (fun h1 h2 h3 B C p q es fs v hp hq hTv => by
      have T := HLW.out.two (by omega) (by omega)
      obtain ⟨a, b, R, u, G, r1, r2, r3, r4, r5⟩ := T.ex
      rw [lxn, lyn] at r4
      exact primitive_any hp hq h2 h3 (by omega) G T.PA T.PB (by have := T.tB; rwa [lyn] at this) (by have := T.lB; omega) r1 r2 r3 r4 (by decide) r5 hTv)
    (fun h1 h2 h3 B C p q es fs v hp hq hTv => by
      have T := HLW.out.two (by omega) (by omega)
      obtain ⟨a, b, R, u, G, r1, r2, r3, r4, r5⟩ := T.ex
      rw [lxn, lyn, Int.gcd_comm] at r4
      exact primitive_any hp hq h1 (by omega) (by omega) G.swap T.PB T.PA (by have := T.tA; rwa [lxn] at this) (by have := T.lA; omega) r1 r2 (fun I hI i1 i2 => r3 I hI i2 i1) r4 (by decide) r5 hTv)
    (fun h1 => HLW.out.y0 (by omega)) (fun h1 h2 => HLW.out.x0 (by omega) (by omega))
  clear hT9 hT10 hb9 hb10
  go_wp2_with fail
  go_fit hgc
  rintro r w11 ⟨p11, n11, e11, rfl, hP11, hb11⟩
  clear hgc
  have hB11 : Below w8.heap.size w8 w11 := bnext' HB10.out.2 hb11
  have hrg := rpGcd_any ((H8.out.1.below hB11).wide9 (by decide)) ((H8.out.2.1.below hB11).wide9 (by decide)) H8.out.2.2.1 H8.out.2.2.2.1 (by omega) (by omega) HLW.out.st (fun h1 => HLW.out.hF (by omega))
  have HP11 : Hid (PN w10.heap.size w11 (5 + 70) p11 n11 e11 (tr ((tr H).map (((Int.gcd ((gcdl x : Nat) : Int) ((gcdl y : Nat) : Int) : Nat) : Int) * ·))) ∧ Below w.heap.size w w11) := ⟨hP11, bnext' H8.out.2.2.2.2 hB11⟩
  clear hP11 hb11 hB11
  go_wp2_with fail
  go_fit hrg
  rintro r w12 ⟨p12, n12, e12, rfl, hP12, -, -, hb12⟩
  clear hrg
  have htrH : tr H = H := tr_whole HLW.out.tH
  have hIs := rpIs_l (by have h9 := HP11.out.1.below hb12; rw [htrH] at h9; exact h9) hP12 (by decide) (by decide) (by
    have h1 := HP11.out.1.zl
    have h2 := tlen_le ((tr H).map (((Int.gcd ((gcdl x : Nat) : Int) ((gcdl y : Nat) : Int) : Nat) : Int) * ·))
    rw [length_tr] at h1
    rw [List.length_map, length_tr] at h2
    have h3 := tlen_le H
    have h4 := HLW.out.l12
    omega)
  have HB12 : Hid (Below w.heap.size w w12) := bnext' HP11.out.2 hb12
  clear hP12 hb12 htrH
  go_wp2_with fail
  go_fit hIs
  rintro r w13 ⟨rfl, hb13⟩
  clear hIs
  go_wp2
  go_ret
  exact ⟨rfl, bnext' HB12.out hb13⟩
open Go.ChangeShapes Go.WideShapes Go.ChangeAt Go.RowKit Go.Joins
end Go.Proofs.YtkjpeehbhmcojaaGreatDoor
