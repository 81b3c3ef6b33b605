/-
  ashlarlaw2.RatScaled: for all two rationals and a number the law's answer is true.
-/
import Derived.Test.YtongkalfdgleaaaDoorZaZbZcZdZeZfZgZhZiZjZl
import Derived.Test.YtongkalfdgleaaaDoorRm
import Derived.Test.YtongkalfdgleaaaDoorRw
import Derived.Test.YtongkalfdgleaaaDoorRbRfRhCyCzLhLj
import Derived.Test.YtongkalfdgleaaaDoorOi
namespace Go.Proofs.YtongkalfdgleaaaDoor
open Go.RowKit
set_option linter.unusedVariables false
set_option linter.unusedSimpArgs false

/-- Two rationals and a number in variables of their own, behind Cut. -/
structure CS (w wc : World) (sa ta sb tb sk : Bool) (pa qa pb qb pk : Option Addr) (na nac ma mac nb nbc mb mbc nk nkc : Nat) (xa ya xb yb xk : List Int) : Prop where
  a : Bq wc w.heap.size (.bool sa) (.slice pa na nac) (.bool ta) (.slice qa ma mac)
  b : Bq wc (w.heap.size + 1) (.bool sb) (.slice pb nb nbc) (.bool tb) (.slice qb mb mbc)
  k : Bx wc (w.heap.size + 1 + 1) (.bool sk) (.slice pk nk nkc)
  an : AI wc pa na nac xa
  ad : AI wc qa ma mac ya
  bn : AI wc pb nb nbc xb
  bd : AI wc qb mb mbc yb
  kn : AI wc pk nk nkc xk
  la : na ≤ 24
  la' : ma ≤ 24
  lb : nb ≤ 24
  lb' : mb ≤ 24
  lk : nk ≤ 24
  bel : Below w.heap.size w wc
theorem CS.later {w wc w' : World} {sa ta sb tb sk : Bool} {pa qa pb qb pk : Option Addr} {na nac ma mac nb nbc mb mbc nk nkc : Nat} {xa ya xb yb xk : List Int} (h : CS w wc sa ta sb tb sk pa qa pb qb pk na nac ma mac nb nbc mb mbc nk nkc xa ya xb yb xk) (hb : Below wc.heap.size wc w') : CS w w' sa ta sb tb sk pa qa pb qb pk na nac ma mac nb nbc mb mbc nk nkc xa ya xb yb xk :=
  ⟨h.a.later hb, h.b.later hb, h.k.later hb, h.an.below hb, h.ad.below hb, h.bn.below hb, h.bd.below hb, h.kn.below hb, h.la, h.la', h.lb, h.lb', h.lk, bnext' h.bel hb⟩
theorem AI_bd {w : World} {p : Option Addr} {n nc k : Nat} {xs : List Int} (h : AI w p n nc xs) (hn : n ≤ k) (s : Bool) : ((ival s xs).natAbs : Int) < pw k := by
  have h1 := h.lt s
  have h2 := pw_mono hn
  omega
theorem sub_bd {r1 r2 : Rat} {k : Nat} (h1 : (r1.num.natAbs : Int) < pw k ∧ ((r1.den : Int).natAbs : Int) < pw k) (h2 : (r2.num.natAbs : Int) < pw k ∧ ((r2.den : Int).natAbs : Int) < pw k) : ((r1 - r2).num.natAbs : Int) < pw (k + k + 1) ∧ (((r1 - r2).den : Int).natAbs : Int) < pw (k + k + 1) := by
  have e : r1 - r2 = Rat.divInt (r1.num * r2.den - r2.num * r1.den) (r1.den * r2.den) := by
    have := Rat.divInt_sub_divInt r1.num r2.num (d₁ := r1.den) (d₂ := r2.den) (by have := r1.den_nz; omega) (by have := r2.den_nz; omega)
    rwa [Rat.num_divInt_den, Rat.num_divInt_den] at this
  rw [e]
  refine rat_bd (sum_bd (by omega) (prod_bd h1.1 h2.2) (prod_bd h2.1 h1.2)) ?_ (by omega)
  have h3 := prod_bd h1.2 h2.2
  have h4 := pw_mono (show k + k ≤ k + k + 1 by omega)
  omega
theorem Bx_oth23 {w : World} {r g : Nat} {u v x y : Value} (h : Bx w r u v) (hne : r ≠ g) : Bx ((w.setCell ⟨g, 2, none⟩ x).setCell ⟨g, 3, none⟩ y) r u v := by
  have e : ((w.setCell ⟨g, 2, none⟩ x).setCell ⟨g, 3, none⟩ y).heap[r]? = w.heap[r]? := (heap_setCell_other _ _ r y hne).trans (heap_setCell_other _ _ r x hne)
  exact ⟨(World.cell?_of_block (a := ⟨r, 0, none⟩) e).trans h.c0, (World.cell?_of_block (a := ⟨r, 1, none⟩) e).trans h.c1, (World.frozen?_of_block (a := ⟨r, 0, none⟩) e).trans h.f0, (World.frozen?_of_block (a := ⟨r, 1, none⟩) e).trans h.f1⟩
theorem Bx_oth4 {w : World} {r g : Nat} {a0 a1 u v x y : Value} (h : Bx w r a0 a1) (hne : r ≠ g) : Bx ((((w.setCell ⟨g, 0, none⟩ u).setCell ⟨g, 1, none⟩ v).setCell ⟨g, 2, none⟩ x).setCell ⟨g, 3, none⟩ y) r a0 a1 := Bx_oth23 (Bx_oth h hne) hne
set_option maxRecDepth 100000 in
set_option maxHeartbeats 8000000 in
theorem RatScaled_walk (sa ta sb tb sk : Bool) (pa qa pb qb pk : Option Addr) (na nac ma mac nb nbc mb mbc nk nkc : Nat) (xa ya xb yb xk : List Int) (w : World)
    (hla : xa.length = na) (hnca : na ≤ nac) (hba : nac ≤ maxLen) (hXa : Rd w pa .u32 xa) (hUa : U32 xa) (hpa : pa = none → nac = 0)
    (hma : ya.length = ma) (hmca : ma ≤ mac) (hca : mac ≤ maxLen) (hYa : Rd w qa .u32 ya) (hVa : U32 ya) (hqa : qa = none → mac = 0)
    (hlb : xb.length = nb) (hncb : nb ≤ nbc) (hbb : nbc ≤ maxLen) (hXb : Rd w pb .u32 xb) (hUb : U32 xb) (hpb : pb = none → nbc = 0)
    (hmb : yb.length = mb) (hmcb : mb ≤ mbc) (hcb : mbc ≤ maxLen) (hYb : Rd w qb .u32 yb) (hVb : U32 yb) (hqb : qb = none → mbc = 0)
    (hlk : xk.length = nk) (hnck : nk ≤ nkc) (hbk : nkc ≤ maxLen) (hXk : Rd w pk .u32 xk) (hUk : U32 xk) (hpk : pk = none → nkc = 0) :
    Calls Tryd.prog 4 #[.agg #[.bool sa, .slice pa na nac, .bool ta, .slice qa ma mac], .agg #[.bool sb, .slice pb nb nbc, .bool tb, .slice qb mb mbc], .agg #[.bool sk, .slice pk nk nkc]] w fun e w' => e = .returned (.bool true) ∧ Below w.heap.size w w' := by
  go_enter Tryd.func4, Tryd.ntmps4
  go_wp2_with fail
  have hA0 : Bq (((w.alloc (.cells #[.bool sa, .slice pa na nac, .bool ta, .slice qa ma mac] 26)).alloc (.cells #[.bool sb, .slice pb nb nbc, .bool tb, .slice qb mb mbc] 26)).alloc (.cells #[.bool sk, .slice pk nk nkc] 24)) w.heap.size (.bool sa) (.slice pa na nac) (.bool ta) (.slice qa ma mac) := ((Bq.new _ _ _ _ _ rfl).alloc _).alloc _
  have hB0 : Bq (((w.alloc (.cells #[.bool sa, .slice pa na nac, .bool ta, .slice qa ma mac] 26)).alloc (.cells #[.bool sb, .slice pb nb nbc, .bool tb, .slice qb mb mbc] 26)).alloc (.cells #[.bool sk, .slice pk nk nkc] 24)) (w.heap.size + 1) (.bool sb) (.slice pb nb nbc) (.bool tb) (.slice qb mb mbc) := (Bq.new _ _ _ _ _ (by simp)).alloc _
  have hK0 : Bx (((w.alloc (.cells #[.bool sa, .slice pa na nac, .bool ta, .slice qa ma mac] 26)).alloc (.cells #[.bool sb, .slice pb nb nbc, .bool tb, .slice qb mb mbc] 26)).alloc (.cells #[.bool sk, .slice pk nk nkc] 24)) (w.heap.size + 1 + 1) (.bool sk) (.slice pk nk nkc) := Bx.new _ _ _ (by simp)
  have hW0 : Below w.heap.size w (((w.alloc (.cells #[.bool sa, .slice pa na nac, .bool ta, .slice qa ma mac] 26)).alloc (.cells #[.bool sb, .slice pb nb nbc, .bool tb, .slice qb mb mbc] 26)).alloc (.cells #[.bool sk, .slice pk nk nkc] 24)) := (((Below.refl _ _).alloc (Nat.le_refl _) _).alloc (by simp) _).alloc (by simp; omega) _
  generalize ((w.alloc (.cells #[.bool sa, .slice pa na nac, .bool ta, .slice qa ma mac] 26)).alloc (.cells #[.bool sb, .slice pb nb nbc, .bool tb, .slice qb mb mbc] 26)).alloc (.cells #[.bool sk, .slice pk nk nkc] 24) = W0 at *
  refine (qbegun_any _).mono ?_
  rintro e w1 ⟨rfl, hb1⟩
  have hA1 := hA0.later hb1
  have hB1 := hB0.later hb1
  have hK1 := hK0.later hb1
  have hW1 := bnext' hW0 hb1
  clear hA0 hB0 hK0 hW0 hb1
  go_upto_region 2 with fail
  go_cut [] (fun wc => ∃ pa' na' nac' qa' ma' mac' pb' nb' nbc' qb' mb' mbc' pk' nk' nkc', CS w wc sa ta sb tb sk pa' qa' pb' qb' pk' na' nac' ma' mac' nb' nbc' mb' mbc' nk' nkc' (xa.take 24) (ya.take 24) (xb.take 24) (yb.take 24) (xk.take 24))
  case first =>
    have a0 := hA1.c0
    have a1 := hA1.c1
    have a2 := hA1.c2
    have a3 := hA1.c3
    have b0 := hB1.c0
    have b1 := hB1.c1
    have b2 := hB1.c2
    have b3 := hB1.c3
    have k0 := hK1.c0
    have k1 := hK1.c1
    go_region_with (first
      | (go_at_call_of 6 (Value.agg #[.bool sa, .slice pa na nac, .bool ta, .slice qa ma mac]); refine (qCut_any sa ta pa qa na nac ma mac xa ya _ hla hnca hba (hXa.below hW1).drew hUa hpa hma hmca hca (hYa.below hW1).drew hVa hqa).mono ?_; rintro e w2 ⟨pa', na', nac', qa', ma', mac', rfl, hA, hA', hna24, hma24, hFa, hFa', hb2⟩; have hB2 := hB1.later (undrew hb2); have hK2 := hK1.later (undrew hb2); have b20 := hB2.c0; have b21 := hB2.c1; have b22 := hB2.c2; have b23 := hB2.c3; have k20 := hK2.c0; have k21 := hK2.c1)
      | (go_at_call_of 6 (Value.agg #[.bool sb, .slice pb nb nbc, .bool tb, .slice qb mb mbc]); refine (qCut_any sb tb pb qb nb nbc mb mbc xb yb _ hlb hncb hbb ((hXb.below hW1).drew.below hb2) hUb hpb hmb hmcb hcb ((hYb.below hW1).drew.below hb2) hVb hqb).mono ?_; rintro e w3 ⟨pb', nb', nbc', qb', mb', mbc', rfl, hB, hB', hnb24, hmb24, hFb, hFb', hb3⟩; have hK3 := hK2.later hb3; have k30 := hK3.c0; have k31 := hK3.c1)
      | (go_at_call_of 11 (Value.agg #[.bool sk, .slice pk nk nkc]); refine (Cut_any sk pk nk nkc xk _ hlk hnck hbk (((hXk.below hW1).drew.below hb2).below hb3) hUk hpk).mono ?_; rintro e w4 ⟨pk', nk', nkc', rfl, hC, hnc24, hFc, hb4⟩; have hb24 := bnext' (bnext' (undrew hb2) hb3) hb4; have hA4 := hA1.later hb24; have hB4 := hB1.later hb24; have hK4 := hK1.later hb24; obtain ⟨a40, a41, a42, a43, fa0, fa1, fa2, fa3⟩ := hA4; obtain ⟨b40, b41, b42, b43, fb0, fb1, fb2, fb3⟩ := hB4; obtain ⟨k40, k41, fk0, fk1⟩ := hK4))
    all_goals (go_wp2_with fail; go_meet)
    all_goals
      have sA := hA1.lt
      have sB := hB1.lt
      have sK : w.heap.size + 1 + 1 < w1.heap.size := block_lt_of_cell hK1.c0
      have s2 : w1.heap.size ≤ w2.heap.size := hb2.size
      have s3 := hb3.size
      have hA4 := hA1.later hb24
      have hB4 := hB1.later hb24
      have hK4 := hK1.later hb24
      refine ⟨pa', na', nac', qa', ma', mac', pb', nb', nbc', qb', mb', mbc', pk', nk', nkc', ?_, ?_, ?_, ?_, ?_, ?_, ?_, ?_, hna24, hma24, hnb24, hmb24, hnc24, ?_⟩
      · exact Bq_oth2 (Bq_oth (Bq_set hA4) (by omega)) (by omega)
      · exact Bq_oth2 (Bq_set (Bq_oth hB4 (by omega))) (by omega)
      · exact Bx_set (Bx_oth4 (Bx_oth4 hK4 (by omega)) (by omega))
      · exact ((((hA.below hb3).below hb4).set4 (fun _ => off_from hFa sA) _ _ _ _).set4 (fun _ => off_from hFa sB) _ _ _ _).set2 hFa sK _ _
      · exact ((((hA'.below hb3).below hb4).set4 (fun _ => off_from hFa' sA) _ _ _ _).set4 (fun _ => off_from hFa' sB) _ _ _ _).set2 hFa' sK _ _
      · exact (((hB.below hb4).set4 (fun _ => off_from hFb (by omega)) _ _ _ _).set4 (fun _ => off_from hFb (by omega)) _ _ _ _).set2 hFb (by omega) _ _
      · exact (((hB'.below hb4).set4 (fun _ => off_from hFb' (by omega)) _ _ _ _).set4 (fun _ => off_from hFb' (by omega)) _ _ _ _).set2 hFb' (by omega) _ _
      · exact ((hC.set4 (fun _ => off_from hFc (by omega)) _ _ _ _).set4 (fun _ => off_from hFc (by omega)) _ _ _ _).set2 hFc (by omega) _ _
      · exact bset2 (bset4 (bset4 (bnext' hW1 hb24) (by omega) _ _ _ _) (by omega) _ _ _ _) (by omega) _ _
  case rest =>
    obtain ⟨pa', na', nac', qa', ma', mac', pb', nb', nbc', qb', mb', mbc', pk', nk', nkc', hG⟩ := hcut
    clear hA1 hB1 hK1 hW1
    have la := hG.la
    have la' := hG.la'
    have lb := hG.lb
    have lb' := hG.lb'
    have lk := hG.lk
    have k0 := hG.k.c0
    have k1 := hG.k.c1
    go_wp2_with fail
    refine (From_ansF sk pk' nk' nkc' (xk.take 24) _ hG.kn).mono ?_
    rintro e w2 ⟨sn, pn, nn, dn, rfl, hRn, hvn, hnn, hFn, hb2⟩
    have hG2 := hG.later hb2
    have hG3 := hG2.later (bel_al (o := .cells #[.bool sn, .slice pn nn nn] 38) (Below.refl _ _))
    have hRn3 := RN_al (o := .cells #[.bool sn, .slice pn nn nn] 38) hRn
    have hBn3 : Bx (w2.alloc (.cells #[.bool sn, .slice pn nn nn] 38)) w2.heap.size (.bool sn) (.slice pn nn nn) := Bx.new _ _ _ rfl
    clear hG hG2 hRn hb2 k0 k1
    go_wp2_with fail
    generalize w2.alloc (.cells #[.bool sn, .slice pn nn nn] 38) = W3 at *
    generalize w2.heap.size = gn at *
    have HVN := (show Hid _ from hvn)
    clear hvn
    refine (rSign_any sn pn nn nn dn _ hRn3.u hRn3.nrm).mono ?_
    rintro e w4 ⟨rfl, hb4⟩
    have hG4 := hG3.later hb4
    have hR4 := hRn3.below hb4
    have hB4 := hBn3.later hb4
    clear hG3 hRn3 hBn3 hb4
    have hcs : Hid (rval sn dn = 0 ∨ rval sn dn ≠ 0) := Classical.em _
    rcases hcs.out with hz | hz
    · rw [isgn_zero hz]
      go_wp2
      go_ret
      exact ⟨rfl, hG4.bel⟩
    · have hi : isgn (rval sn dn) = 1 ∨ isgn (rval sn dn) = -1 := by
        rcases (show 0 < rval sn dn ∨ rval sn dn < 0 by omega) with h | h
        · exact .inl (isgn_pos h)
        · exact .inr (isgn_neg h)
      have HZ := (show Hid _ from hz)
      clear hz hcs
      obtain ⟨vs, hvs, hv0⟩ : ∃ v, isgn (rval sn dn) = v ∧ ¬ v = 0 := by
        rcases hi with h | h
        · exact ⟨1, h, by decide⟩
        · exact ⟨-1, h, by decide⟩
      rw [hvs]
      clear hi hvs
      go_upto_region 6 with fail
      have hbb : (vs == 0) = false := by simpa using hv0
      rw [hbb]
      clear hv0 hbb
      go_cut [9] (fun xv w5 => ∃ (g : Nat) (s3 : Bool) (p3 : Option Addr) (n3 : Nat) (k3 : Nat) (s6 : Bool) (p6 : Option Addr) (n6 : Nat) (k6 : Nat) (z3 z6 : List Int), xv = .pointer (some ⟨g, 0, none⟩) ∧ CS w w5 sa ta sb tb sk pa' qa' pb' qb' pk' na' nac' ma' mac' nb' nbc' mb' mbc' nk' nkc' (xa.take 24) (ya.take 24) (xb.take 24) (yb.take 24) (xk.take 24) ∧ Bq w5 g (.bool s3) (.slice p3 n3 k3) (.bool s6) (.slice p6 n6 k6) ∧ AI w5 p3 n3 k3 z3 ∧ AI w5 p6 n6 k6 z6 ∧ ival s3 z3 = ival sa (xa.take 24) * rval sn dn ∧ ival s6 z6 = ival ta (ya.take 24) * rval sn dn ∧ n3 ≤ 49 ∧ n6 ≤ 49)
      case first =>
        refine region_inv (by kernel_rfl) (fun listed a' w' => ∃ (k1 l1 c1 m1 c2 c3 k2 l2 c4 m2 c5 c6 bd a s : Bool) (f1 v1 r1 v2 r2 r3 f2 v3 r4 v4 r5 r6 rr x : Value) (x1 x2 x3 x4 x5 x6 : RW) (g : Nat), listed = #[k1, l1, c1, m1, c2, c3, k2, l2, c4, m2, c5, c6, bd, a, s] ∧ a' = ({ tmps := ((.agg #[.bool sa, .slice pa na nac, .bool ta, .slice qa ma mac]) :: (.agg #[.bool sb, .slice pb nb nbc, .bool tb, .slice qb mb mbc]) :: (.agg #[.bool sk, .slice pk nk nkc]) :: (.pointer (some ⟨w.heap.size, 0, none⟩)) :: (.pointer (some ⟨w.heap.size + 1, 0, none⟩)) :: (.pointer (some ⟨w.heap.size + 1 + 1, 0, none⟩)) :: (.bool false) :: (.bool true) :: (.pointer (some ⟨gn, 0, none⟩)) :: (x) :: (undef) :: (undef) :: (u12) :: (u13) :: (u14) :: (u15) :: (u16) :: (u17) :: (u18) :: (.agg #[.bool sk, .slice pk' nk' nkc']) :: (.agg #[.bool sn, .slice pn nn nn]) :: (.agg #[.bool sn, .slice pn nn nn]) :: (.int .i64 vs) :: (.bool false) :: (u24) :: (f1) :: (v1) :: (r1) :: (v2) :: (r2) :: (r3) :: (f2) :: (v3) :: (r4) :: (v4) :: (r5) :: (r6) :: (rr) :: (u38) :: (u39) :: (u40) :: (u41) :: (u42) :: (u43) :: (u44) :: (u45) :: (u46) :: (u47) :: (u48) :: (u49) :: (u50) :: (u51) :: (u52) :: (u53) :: (u54) :: (u55) :: (u56) :: (u57) :: (u58) :: (u59) :: (u60) :: (u61) :: (u62) :: (u63) :: (u64) :: ([] : List Value)).toArray, defers := [] } : Act) ∧ (k1 = true → f1 = .pointer (some ⟨w.heap.size, 0, none⟩)) ∧ (l1 = true → v1 = .agg #[.bool sa, .slice pa' na' nac']) ∧ (m1 = true → v2 = .agg #[.bool sn, .slice pn nn nn]) ∧ (k2 = true → f2 = .pointer (some ⟨w.heap.size, 2, none⟩)) ∧ (l2 = true → v3 = .agg #[.bool ta, .slice qa' ma' mac']) ∧ (m2 = true → v4 = .agg #[.bool sn, .slice pn nn nn]) ∧ Hid (G6 w4 w' (ival sa (xa.take 24)) (ival ta (ya.take 24)) (rval sn dn) c1 c2 c3 c4 c5 c6 bd a s r1 r2 r3 r4 r5 r6 rr x x1 x2 x3 x4 x5 x6 g)) (by kernel_rfl) ?_ ?_ ?_
        · rintro listed a' w' ⟨k1, l1, c1, m1, c2, c3, k2, l2, c4, m2, c5, c6, bd, a, s, f1, v1, r1, v2, r2, r3, f2, v3, r4, v4, r5, r6, rr, x, x1, x2, x3, x4, x5, x6, g, rfl, rfl, hf1, hv1, hv2, hf2, hv3, hv4, H⟩ hall
          obtain rfl : k1 = true := by simpa using hall 0 (by decide)
          obtain rfl : l1 = true := by simpa using hall 1 (by decide)
          obtain rfl : c1 = true := by simpa using hall 2 (by decide)
          obtain rfl : m1 = true := by simpa using hall 3 (by decide)
          obtain rfl : c2 = true := by simpa using hall 4 (by decide)
          obtain rfl : c3 = true := by simpa using hall 5 (by decide)
          obtain rfl : k2 = true := by simpa using hall 6 (by decide)
          obtain rfl : l2 = true := by simpa using hall 7 (by decide)
          obtain rfl : c4 = true := by simpa using hall 8 (by decide)
          obtain rfl : m2 = true := by simpa using hall 9 (by decide)
          obtain rfl : c5 = true := by simpa using hall 10 (by decide)
          obtain rfl : c6 = true := by simpa using hall 11 (by decide)
          obtain rfl : bd = true := by simpa using hall 12 (by decide)
          obtain rfl : a = true := by simpa using hall 13 (by decide)
          obtain rfl : s = true := by simpa using hall 14 (by decide)
          clear hall
          obtain ⟨rfl, y2, u0, u1, u2, u3, y3, y4⟩ := H.out.X rfl
          obtain ⟨e1, e2, e3, e4⟩ := H.out.R3 rfl
          obtain ⟨f1', f2', f3', f4'⟩ := H.out.R6 rfl
          have hrr := (H.out.Bd rfl).2.2
          have x5 := (y4 rfl).symm.trans hrr
          injection x5 with x5
          simp at x5
          obtain ⟨rfl, rfl, rfl, rfl⟩ := x5
          go_wp2_with fail
          go_meet
          exact ⟨g, _, _, _, _, _, _, _, _, _, _, rfl, hG4.later H.out.bel, y3, e2, f2', e3, f3', e4, f4'⟩
        · rintro listed a' w' ⟨k1, l1, c1, m1, c2, c3, k2, l2, c4, m2, c5, c6, bd, a, s, f1, v1, r1, v2, r2, r3, f2, v3, r4, v4, r5, r6, rr, x, x1, x2, x3, x4, x5, x6, g, rfl, rfl, hf1, hv1, hv2, hf2, hv3, hv4, H⟩ i o hio h0 hd
          have hi : i < 15 := (Array.getElem?_eq_some_iff.1 hio).1
          rcases i with _ | _ | _ | _ | _ | _ | _ | _ | _ | _ | _ | _ | _ | _ | _ | i
          · obtain rfl := (Option.some.inj hio)
            replace h0 : k1 = false := by simpa using h0
            clear hd
            refine wpOp_step rfl (fun K' hK0 => ?_)
            have hK := (show Hid _ from hK0)
            clear hK0
            go_wp2
            exact hK.out _ _ ⟨true, l1, c1, m1, c2, c3, k2, l2, c4, m2, c5, c6, bd, a, s, .pointer (some ⟨w.heap.size, 0, none⟩), v1, r1, v2, r2, r3, f2, v3, r4, v4, r5, r6, rr, x, x1, x2, x3, x4, x5, x6, g, rfl, rfl, fun _ => rfl, hv1, hv2, hf2, hv3, hv4, H.out⟩
          · obtain rfl := (Option.some.inj hio)
            replace h0 : l1 = false := by simpa using h0
            have hd0 : k1 = true := by simpa [Region.binds] using hd ⟨0, .data⟩ (by simp)
            clear hd
            refine wpOp_step rfl (fun K' hK0 => ?_)
            have hK := (show Hid _ from hK0)
            clear hK0
            obtain rfl := hf1 hd0
            have hC := hG4.later H.out.bel
            have z0 := hC.a.c0
            have z1 := hC.a.c1
            go_wp2
            exact hK.out _ _ ⟨k1, true, c1, m1, c2, c3, k2, l2, c4, m2, c5, c6, bd, a, s, _, .agg #[.bool sa, .slice pa' na' nac'], r1, v2, r2, r3, f2, v3, r4, v4, r5, r6, rr, x, x1, x2, x3, x4, x5, x6, g, rfl, rfl, fun _ => rfl, fun _ => rfl, hv2, hf2, hv3, hv4, H.out⟩
          · obtain rfl := (Option.some.inj hio)
            replace h0 : c1 = false := by simpa using h0
            have hd0 : l1 = true := by simpa [Region.binds] using hd ⟨1, .data⟩ (by simp)
            clear hd
            refine wpOp_step rfl (fun K' hK0 => ?_)
            have hK := (show Hid _ from hK0)
            clear hK0
            obtain rfl := hv1 hd0
            have hC := hG4.later H.out.bel
            have hfr := From_ansF sa pa' na' nac' (xa.take 24) w' hC.an
            go_wp2_with fail
            refine hfr.mono ?_
            rintro e w'' ⟨tt, pp, mm, dd, rfl, q1, q2, q3, q4, q5⟩
            have H2 := H.out.call1 (y := ⟨tt, pp, mm, dd, 0⟩) q5 ⟨rfl, q1, q2, show mm ≤ 48 by omega⟩
            clear hfr
            go_wp2
            exact hK.out _ _ ⟨k1, l1, true, m1, c2, c3, k2, l2, c4, m2, c5, c6, bd, a, s, f1, _, .agg #[.bool tt, .slice pp mm mm], v2, r2, r3, f2, v3, r4, v4, r5, r6, rr, x, ⟨tt, pp, mm, dd, 0⟩, x2, x3, x4, x5, x6, g, rfl, rfl, hf1, fun _ => rfl, hv2, hf2, hv3, hv4, H2⟩
          · obtain rfl := (Option.some.inj hio)
            replace h0 : m1 = false := by simpa using h0
            clear hd
            refine wpOp_step rfl (fun K' hK0 => ?_)
            have hK := (show Hid _ from hK0)
            clear hK0
            have hC := hB4.later H.out.bel
            have z0 := hC.c0
            have z1 := hC.c1
            go_wp2
            exact hK.out _ _ ⟨k1, l1, c1, true, c2, c3, k2, l2, c4, m2, c5, c6, bd, a, s, f1, v1, r1, .agg #[.bool sn, .slice pn nn nn], r2, r3, f2, v3, r4, v4, r5, r6, rr, x, x1, x2, x3, x4, x5, x6, g, rfl, rfl, hf1, hv1, fun _ => rfl, hf2, hv3, hv4, H.out⟩
          · obtain rfl := (Option.some.inj hio)
            replace h0 : c2 = false := by simpa using h0
            have hd0 : c1 = true := by simpa [Region.binds] using hd ⟨2, .data⟩ (by simp)
            have hd1 : m1 = true := by simpa [Region.binds] using hd ⟨3, .data⟩ (by simp)
            clear hd
            refine wpOp_step rfl (fun K' hK0 => ?_)
            have hK := (show Hid _ from hK0)
            clear hK0
            obtain rfl := hv2 hd1
            obtain ⟨rfl, e1, e2, e3⟩ := H.out.R1 hd0 h0
            have hC := hR4.below H.out.bel
            have hfr := rMul_rn e1 hC (by omega) (by omega)
            rw [e2] at hfr
            go_wp2_with fail
            refine hfr.mono ?_
            rintro e w'' ⟨tt, pp, mm, dd, rfl, q1, q2, q3, q4, q5⟩
            have H2 := H.out.call2 (y := ⟨tt, pp, mm, dd, 0⟩) q5 ⟨rfl, q1, q2, show mm ≤ 97 by omega⟩
            clear hfr
            go_wp2
            exact hK.out _ _ ⟨k1, l1, c1, m1, true, c3, k2, l2, c4, m2, c5, c6, bd, a, s, f1, v1, _, _, .agg #[.bool tt, .slice pp mm mm], r3, f2, v3, r4, v4, r5, r6, rr, x, x1, ⟨tt, pp, mm, dd, 0⟩, x3, x4, x5, x6, g, rfl, rfl, hf1, hv1, fun _ => rfl, hf2, hv3, hv4, H2⟩
          · obtain rfl := (Option.some.inj hio)
            replace h0 : c3 = false := by simpa using h0
            have hd0 : c2 = true := by simpa [Region.binds] using hd ⟨4, .data⟩ (by simp)
            clear hd
            refine wpOp_step rfl (fun K' hK0 => ?_)
            have hK := (show Hid _ from hK0)
            clear hK0
            obtain ⟨rfl, e1, e2, e3⟩ := H.out.R2 hd0 h0
            have hfr := rTo_anyF x2.t x2.p x2.n x2.n x2.d w' e1.len (by omega) e1.rd e1.u
            go_wp2_with fail
            refine hfr.mono ?_
            rintro e w'' ⟨pp, mm, cc, rfl, q1, q2, q3, q4⟩
            have q2' := q2.out
            have H2 := H.out.call3 (y := ⟨x2.t, pp, mm, jn x2.d mm, cc⟩) hd0 (by rw [h0]; decide) q3 q4 ⟨rfl, q1, (nn_jn e1.u (e1.nrm.trans e1.len.symm) (fun e => e1.sg (by rw [← e1.len]; exact e)) e2 (by rw [e1.len]; exact q2')).v, show mm ≤ 49 by omega⟩
            clear hfr q2'
            go_wp2
            exact hK.out _ _ ⟨k1, l1, c1, m1, c2, true, k2, l2, c4, m2, c5, c6, bd, a, s, f1, v1, r1, v2, _, .agg #[.bool x2.t, .slice pp mm cc], f2, v3, r4, v4, r5, r6, rr, x, x1, x2, ⟨x2.t, pp, mm, jn x2.d mm, cc⟩, x4, x5, x6, g, rfl, rfl, hf1, hv1, hv2, hf2, hv3, hv4, H2⟩
          · obtain rfl := (Option.some.inj hio)
            replace h0 : k2 = false := by simpa using h0
            clear hd
            refine wpOp_step rfl (fun K' hK0 => ?_)
            have hK := (show Hid _ from hK0)
            clear hK0
            go_wp2
            exact hK.out _ _ ⟨k1, l1, c1, m1, c2, c3, true, l2, c4, m2, c5, c6, bd, a, s, f1, v1, r1, v2, r2, r3, .pointer (some ⟨w.heap.size, 2, none⟩), v3, r4, v4, r5, r6, rr, x, x1, x2, x3, x4, x5, x6, g, rfl, rfl, hf1, hv1, hv2, fun _ => rfl, hv3, hv4, H.out⟩
          · obtain rfl := (Option.some.inj hio)
            replace h0 : l2 = false := by simpa using h0
            have hd0 : k2 = true := by simpa [Region.binds] using hd ⟨6, .data⟩ (by simp)
            clear hd
            refine wpOp_step rfl (fun K' hK0 => ?_)
            have hK := (show Hid _ from hK0)
            clear hK0
            obtain rfl := hf2 hd0
            have hC := hG4.later H.out.bel
            have z0 := hC.a.c2
            have z1 := hC.a.c3
            go_wp2
            exact hK.out _ _ ⟨k1, l1, c1, m1, c2, c3, k2, true, c4, m2, c5, c6, bd, a, s, f1, v1, r1, v2, r2, r3, _, .agg #[.bool ta, .slice qa' ma' mac'], r4, v4, r5, r6, rr, x, x1, x2, x3, x4, x5, x6, g, rfl, rfl, hf1, hv1, hv2, fun _ => rfl, fun _ => rfl, hv4, H.out⟩
          · obtain rfl := (Option.some.inj hio)
            replace h0 : c4 = false := by simpa using h0
            have hd0 : l2 = true := by simpa [Region.binds] using hd ⟨7, .data⟩ (by simp)
            clear hd
            refine wpOp_step rfl (fun K' hK0 => ?_)
            have hK := (show Hid _ from hK0)
            clear hK0
            obtain rfl := hv3 hd0
            have hC := hG4.later H.out.bel
            have hfr := From_ansF ta qa' ma' mac' (ya.take 24) w' hC.ad
            go_wp2_with fail
            refine hfr.mono ?_
            rintro e w'' ⟨tt, pp, mm, dd, rfl, q1, q2, q3, q4, q5⟩
            have H2 := H.out.call4 (y := ⟨tt, pp, mm, dd, 0⟩) q5 ⟨rfl, q1, q2, show mm ≤ 48 by omega⟩
            clear hfr
            go_wp2
            exact hK.out _ _ ⟨k1, l1, c1, m1, c2, c3, k2, l2, true, m2, c5, c6, bd, a, s, f1, v1, r1, v2, r2, r3, f2, _, .agg #[.bool tt, .slice pp mm mm], v4, r5, r6, rr, x, x1, x2, x3, ⟨tt, pp, mm, dd, 0⟩, x5, x6, g, rfl, rfl, hf1, hv1, hv2, hf2, fun _ => rfl, hv4, H2⟩
          · obtain rfl := (Option.some.inj hio)
            replace h0 : m2 = false := by simpa using h0
            clear hd
            refine wpOp_step rfl (fun K' hK0 => ?_)
            have hK := (show Hid _ from hK0)
            clear hK0
            have hC := hB4.later H.out.bel
            have z0 := hC.c0
            have z1 := hC.c1
            go_wp2
            exact hK.out _ _ ⟨k1, l1, c1, m1, c2, c3, k2, l2, c4, true, c5, c6, bd, a, s, f1, v1, r1, v2, r2, r3, f2, v3, r4, .agg #[.bool sn, .slice pn nn nn], r5, r6, rr, x, x1, x2, x3, x4, x5, x6, g, rfl, rfl, hf1, hv1, hv2, hf2, hv3, fun _ => rfl, H.out⟩
          · obtain rfl := (Option.some.inj hio)
            replace h0 : c5 = false := by simpa using h0
            have hd0 : c4 = true := by simpa [Region.binds] using hd ⟨8, .data⟩ (by simp)
            have hd1 : m2 = true := by simpa [Region.binds] using hd ⟨9, .data⟩ (by simp)
            clear hd
            refine wpOp_step rfl (fun K' hK0 => ?_)
            have hK := (show Hid _ from hK0)
            clear hK0
            obtain rfl := hv4 hd1
            obtain ⟨rfl, e1, e2, e3⟩ := H.out.R4 hd0 h0
            have hC := hR4.below H.out.bel
            have hfr := rMul_rn e1 hC (by omega) (by omega)
            rw [e2] at hfr
            go_wp2_with fail
            refine hfr.mono ?_
            rintro e w'' ⟨tt, pp, mm, dd, rfl, q1, q2, q3, q4, q5⟩
            have H2 := H.out.call5 (y := ⟨tt, pp, mm, dd, 0⟩) q5 ⟨rfl, q1, q2, show mm ≤ 97 by omega⟩
            clear hfr
            go_wp2
            exact hK.out _ _ ⟨k1, l1, c1, m1, c2, c3, k2, l2, c4, m2, true, c6, bd, a, s, f1, v1, r1, v2, r2, r3, f2, v3, _, _, .agg #[.bool tt, .slice pp mm mm], r6, rr, x, x1, x2, x3, x4, ⟨tt, pp, mm, dd, 0⟩, x6, g, rfl, rfl, hf1, hv1, hv2, hf2, hv3, fun _ => rfl, H2⟩
          · obtain rfl := (Option.some.inj hio)
            replace h0 : c6 = false := by simpa using h0
            have hd0 : c5 = true := by simpa [Region.binds] using hd ⟨10, .data⟩ (by simp)
            clear hd
            refine wpOp_step rfl (fun K' hK0 => ?_)
            have hK := (show Hid _ from hK0)
            clear hK0
            obtain ⟨rfl, e1, e2, e3⟩ := H.out.R5 hd0 h0
            have hfr := rTo_anyF x5.t x5.p x5.n x5.n x5.d w' e1.len (by omega) e1.rd e1.u
            go_wp2_with fail
            refine hfr.mono ?_
            rintro e w'' ⟨pp, mm, cc, rfl, q1, q2, q3, q4⟩
            have q2' := q2.out
            have H2 := H.out.call6 (y := ⟨x5.t, pp, mm, jn x5.d mm, cc⟩) hd0 (by rw [h0]; decide) q3 q4 ⟨rfl, q1, (nn_jn e1.u (e1.nrm.trans e1.len.symm) (fun e => e1.sg (by rw [← e1.len]; exact e)) e2 (by rw [e1.len]; exact q2')).v, show mm ≤ 49 by omega⟩
            clear hfr q2'
            go_wp2
            exact hK.out _ _ ⟨k1, l1, c1, m1, c2, c3, k2, l2, c4, m2, c5, true, bd, a, s, f1, v1, r1, v2, r2, r3, f2, v3, r4, v4, _, .agg #[.bool x5.t, .slice pp mm cc], rr, x, x1, x2, x3, x4, x5, ⟨x5.t, pp, mm, jn x5.d mm, cc⟩, g, rfl, rfl, hf1, hv1, hv2, hf2, hv3, hv4, H2⟩
          · obtain rfl := (Option.some.inj hio)
            replace h0 : bd = false := by simpa using h0
            have hd0 : c3 = true := by simpa [Region.binds] using hd ⟨5, .data⟩ (by simp)
            have hd1 : c6 = true := by simpa [Region.binds] using hd ⟨11, .data⟩ (by simp)
            clear hd
            refine wpOp_step rfl (fun K' hK0 => ?_)
            have hK := (show Hid _ from hK0)
            clear hK0
            have H2 := H.out.build (by rw [h0]; decide) hd0 hd1
            obtain rfl := (H.out.R3 hd0).1
            obtain rfl := (H.out.R6 hd1).1
            go_wp2
            exact hK.out _ _ ⟨k1, l1, c1, m1, c2, c3, k2, l2, c4, m2, c5, c6, true, a, s, f1, v1, r1, v2, r2, _, f2, v3, r4, v4, r5, _, .agg #[.bool x3.t, .slice x3.p x3.n x3.k, .bool x6.t, .slice x6.p x6.n x6.k], x, x1, x2, x3, x4, x5, x6, g, rfl, rfl, hf1, hv1, hv2, hf2, hv3, hv4, H2⟩
          · obtain rfl := (Option.some.inj hio)
            replace h0 : a = false := by simpa using h0
            clear hd
            refine wpOp_step rfl (fun K' hK0 => ?_)
            have hK := (show Hid _ from hK0)
            clear hK0
            have H2 := H.out.alloc (by rw [h0]; decide) (.bool false) (.slice none 0 0) (.bool false) (.slice none 0 0) 26
            go_wp2
            exact hK.out _ _ ⟨k1, l1, c1, m1, c2, c3, k2, l2, c4, m2, c5, c6, bd, true, s, f1, v1, r1, v2, r2, r3, f2, v3, r4, v4, r5, r6, rr, .pointer (some ⟨w'.heap.size, 0, none⟩), x1, x2, x3, x4, x5, x6, w'.heap.size, rfl, rfl, hf1, hv1, hv2, hf2, hv3, hv4, H2⟩
          · obtain rfl := (Option.some.inj hio)
            replace h0 : s = false := by simpa using h0
            have hd0 : a = true := by simpa [Region.binds] using hd ⟨13, .data⟩ (by simp)
            have hd1 : bd = true := by simpa [Region.binds] using hd ⟨12, .data⟩ (by simp)
            clear hd
            refine wpOp_step rfl (fun K' hK0 => ?_)
            have hK := (show Hid _ from hK0)
            clear hK0
            have H2 := H.out.store hd0 hd1
            obtain ⟨y1, y2, u0, u1, u2, u3, y3, y4⟩ := H.out.X hd0
            obtain ⟨z0, z1, z2, z3, z4, z5, z6, z7⟩ := y3
            have hr := (H.out.Bd hd1).2.2
            subst y1 hr
            go_wp2
            exact hK.out _ _ ⟨k1, l1, c1, m1, c2, c3, k2, l2, c4, m2, c5, c6, bd, a, true, f1, v1, r1, v2, r2, r3, f2, v3, r4, v4, r5, r6, _, _, x1, x2, x3, x4, x5, x6, g, rfl, rfl, hf1, hv1, hv2, hf2, hv3, hv4, H2⟩
          · omega
        · refine ⟨false, false, false, false, false, false, false, false, false, false, false, false, false, false, false, _, _, _, _, _, _, _, _, _, _, _, _, _, _, ⟨false, none, 0, [], 0⟩, ⟨false, none, 0, [], 0⟩, ⟨false, none, 0, [], 0⟩, ⟨false, none, 0, [], 0⟩, ⟨false, none, 0, [], 0⟩, ⟨false, none, 0, [], 0⟩, 0, rfl, rfl, nofun, nofun, nofun, nofun, nofun, nofun, ?_⟩
          exact ⟨(Below.refl _ _).drew, nofun, nofun, nofun, nofun, nofun, nofun, nofun, nofun, nofun, nofun, nofun, nofun, nofun, nofun⟩
      case rest =>
        obtain ⟨g, s3, p3, n3, k3, s6, p6, n6, k6, z3, z6, rfl, hG5, hC5, hP, hQ, hv3, hv6, l3, l6⟩ := hcut
        clear hG4 hR4 hB4
        obtain ⟨a0, a1, a2, a3, -, -, -, -⟩ := hG5.a
        obtain ⟨b0, b1, b2, b3, -, -, -, -⟩ := hG5.b
        have HE : Hid (Rat.divInt (ival s3 z3) (ival s6 z6) = Rat.divInt (ival sa (xa.take 24)) (ival ta (ya.take 24))) := by
          have : Rat.divInt (ival s3 z3) (ival s6 z6) = Rat.divInt (ival sa (xa.take 24)) (ival ta (ya.take 24)) := by rw [hv3, hv6, Rat.divInt_mul_right HZ.out]
          exact this
        clear hv3 hv6
        generalize hQa : Rat.divInt (ival sa (xa.take 24)) (ival ta (ya.take 24)) = Qa at *
        generalize hQb : Rat.divInt (ival sb (xb.take 24)) (ival tb (yb.take 24)) = Qb at *
        have HQa := (show Hid _ from hQa)
        have HQb := (show Hid _ from hQb)
        clear hQa hQb
        go_wp2_with fail
        have h1 := qSub_any sa ta sb tb pa' qa' pb' qb' na' nac' ma' mac' nb' nbc' mb' mbc' (xa.take 24) (ya.take 24) (xb.take 24) (yb.take 24) wc hG5.an hG5.ad hG5.bn hG5.bd 24 24 (by decide) (by decide) (by decide) la la' lb lb'
        rw [HQa.out, HQb.out] at h1
        refine h1.mono ?_
        rintro e w6 ⟨sx, px, nx, xx, tx, qx, mx, yx, rfl, hX6, hb6⟩
        have hal := bel_al (o := .cells #[.bool sx, .slice px nx nx, .bool tx, .slice qx mx mx] 26) hb6
        have hG7 := hG5.later hal
        have hC7 := hC5.later hal
        have hP7 := hP.below hal
        have hQ7 := hQ.below hal
        have hX7 := hX6.below (bel_al (o := .cells #[.bool sx, .slice px nx nx, .bool tx, .slice qx mx mx] 26) (Below.refl _ _))
        have hBx7 : Bq (w6.alloc (.cells #[.bool sx, .slice px nx nx, .bool tx, .slice qx mx mx] 26)) w6.heap.size (.bool sx) (.slice px nx nx) (.bool tx) (.slice qx mx mx) := Bq.new _ _ _ _ _ rfl
        clear h1 hG5 hC5 hP hQ hX6 hb6 hal a0 a1 a2 a3 b0 b1 b2 b3
        have c0 := hC7.c0
        have c1 := hC7.c1
        have c2 := hC7.c2
        have c3 := hC7.c3
        have b0 := hG7.b.c0
        have b1 := hG7.b.c1
        have b2 := hG7.b.c2
        have b3 := hG7.b.c3
        have hbd := sub_bd (k := 24) (rat_bd (K := 24) (AI_bd hG7.an la sa) (AI_bd hG7.ad la' ta) (by decide)) (rat_bd (K := 24) (AI_bd hG7.bn lb sb) (AI_bd hG7.bd lb' tb) (by decide))
        rw [HQa.out, HQb.out] at hbd
        have HBD := (show Hid _ from hbd)
        clear hbd
        have lx := hX7.num.le HBD.out.1
        have lx' := hX7.den.le HBD.out.2
        go_wp2_with fail
        generalize w6.alloc (.cells #[.bool sx, .slice px nx nx, .bool tx, .slice qx mx mx] 26) = W7 at *
        generalize w6.heap.size = gx' at *
        have h1 := qSub_any s3 s6 sb tb p3 p6 pb' qb' n3 k3 n6 k6 nb' nbc' mb' mbc' z3 z6 (xb.take 24) (yb.take 24) W7 hP7 hQ7 hG7.bn hG7.bd 49 24 (by decide) (by decide) (by decide) l3 l6 lb lb'
        rw [HE.out, HQb.out] at h1
        refine h1.mono ?_
        rintro e w8 ⟨sy, py, ny, xy, ty, qy, my, yy, rfl, hY8, hb8⟩
        have hal := bel_al (o := .cells #[.bool sy, .slice py ny ny, .bool ty, .slice qy my my] 26) hb8
        have hG9 := hG7.later hal
        have hC9 := hC7.later hal
        have hP9 := hP7.below hal
        have hQ9 := hQ7.below hal
        have hX9 := hX7.below hal
        have hBx9 := hBx7.later hal
        have hY9 := hY8.below (bel_al (o := .cells #[.bool sy, .slice py ny ny, .bool ty, .slice qy my my] 26) (Below.refl _ _))
        have hBy9 : Bq (w8.alloc (.cells #[.bool sy, .slice py ny ny, .bool ty, .slice qy my my] 26)) w8.heap.size (.bool sy) (.slice py ny ny) (.bool ty) (.slice qy my my) := Bq.new _ _ _ _ _ rfl
        have ly := hY9.num.le HBD.out.1
        have ly' := hY9.den.le HBD.out.2
        clear h1 hG7 hC7 hP7 hQ7 hX7 hBx7 hY8 hb8 hal c0 c1 c2 c3 b0 b1 b2 b3 HBD
        have x0 := hBx9.c0
        have x1 := hBx9.c1
        have y0 := hBy9.c0
        have y1 := hBy9.c1
        go_wp2_with fail
        generalize w8.alloc (.cells #[.bool sy, .slice py ny ny, .bool ty, .slice qy my my] 26) = W9 at *
        generalize w8.heap.size = gy at *
        refine (rEq_ni hX9.num hY9.num (by omega)).mono ?_
        rintro e w10 ⟨rfl, hb10⟩
        have hBx10 := hBx9.later hb10
        have hBy10 := hBy9.later hb10
        clear x0 x1 y0 y1
        have x2 := hBx10.c2
        have x3 := hBx10.c3
        have y2 := hBy10.c2
        have y3 := hBy10.c3
        go_wp2_with fail
        refine (rEq_ni (hX9.den.below hb10) (hY9.den.below hb10) (by omega)).mono ?_
        rintro e w11 ⟨rfl, hb11⟩
        have hb12 := bnext' hb10 hb11
        have hG11 := hG9.later hb12
        have hC11 := hC9.later hb12
        clear x2 x3 y2 y3 hBx9 hBy9 hBx10 hBy10 hX9 hY9 hb10 hb11
        have a0 := hG11.a.c0
        have a1 := hG11.a.c1
        have a2 := hG11.a.c2
        have a3 := hG11.a.c3
        have c0 := hC11.c0
        have c1 := hC11.c1
        have c2 := hC11.c2
        have c3 := hC11.c3
        go_wp2_with fail
        have h1 := qCmp_any sa ta s3 s6 pa' qa' p3 p6 na' nac' ma' mac' n3 k3 n6 k6 (xa.take 24) (ya.take 24) z3 z6 w11 hG11.an hG11.ad (hP9.below hb12) (hQ9.below hb12) 24 49 (by decide) (by decide) (by decide) la la' l3 l6
        rw [HE.out, HQa.out, icmp_eq] at h1
        refine h1.mono ?_
        rintro e w13 ⟨rfl, hb13⟩
        clear a0 a1 a2 a3 c0 c1 c2 c3 h1
        go_wp2
        go_ret
        exact ⟨rfl, bnext' hG11.bel hb13⟩
end Go.Proofs.YtongkalfdgleaaaDoor
