/-
  ashlarref4.Line.
-/
import Derived.Test.YtejnhpjejcpekaaGreatDoorHuVyVzRqPqPrPsPtPuDtPvPwPxKa
import Derived.Test.YtejnhpjejcpekaaGreatDoorVqDcUmUoDmDv
import Derived.Test.YtejnhpjejcpekaaGreatDoorKnKmKoKqU3
import Derived.Deep.DeepFit
import Derived.Test.YtejnhpjejcpekaaGreatDoorUyInU0TaTbTc
import Derived.Test.YtejnhpjejcpekaaGreatDoorQhGfGgUnWfUuUxUtUvUw
import Derived.StillTailTactics
import Derived.Test.YtejnhpjejcpekaaGreatDoorWhPnWkWlBxBbCvNj
import Derived.Test.YtejnhpjejcpekaaGreatDoorUgUjBsLeUkUiWiWjUlDdReRx
namespace Go.Proofs.YtejnhpjejcpekaaGreatDoor
open Go.RowKit
set_option linter.unusedVariables false
set_option linter.unusedSimpArgs false
set_option maxHeartbeats 8000000
def LiP (x : Int) (w : World) (r : Ending) (w' : World) : Prop :=
  ∃ (g : Nat) (fs : List Ent), r = .returned (.slice (some ⟨g, 0, none⟩) 2 2) ∧ PR w' 4 (some ⟨g, 0, none⟩) 2 2 fs (lin x) ∧ w.heap.size ≤ g ∧ Below w.heap.size w w'
set_option maxRecDepth 100000 in
theorem rLine_any {w : World} {x : Int} {e : Ent} (h : RE w 4 x e) :
    Calls Tryz.prog 14 #[.agg #[.bool e.s, .slice e.p e.n e.c]] w (LiP x w) := by
  obtain ⟨s, q, n, c⟩ := e
  obtain ⟨h1, h2⟩ := h
  simp only at h1 h2
  subst h2
  have hal := bel_al (o := .cells #[.bool s, .slice q c c] 34) (Below.refl w.heap.size w)
  have hn := rNeg_v (h1.below hal)
  have HX : Hid (Below w.heap.size w (w.alloc (.cells #[.bool s, .slice q c c] 34))) := hal
  clear h1 hal
  go_enter Tryz.func14, Tryz.ntmps14
  go_wp2_with fail
  go_fit hn
  rintro r w1 ⟨s1, rfl, h1, hb1⟩
  have HB : Hid (Below w.heap.size w w1 ∧ RV w1 4 (-x) s1 q c) := ⟨bnext' HX.out hb1, h1⟩
  clear hn h1 hb1 HX
  go_wp2_with fail
  go_fit (rOf_n 1 w1 (by decide) (by decide))
  rintro r w2 ⟨u, rfl, hu, -, hb2⟩
  have HC : Hid (Below w.heap.size w w2 ∧ RV w2 4 (-x) s1 q c ∧ RE w2 4 1 u) := ⟨bnext' HB.out.1 hb2, HB.out.2.below hb2, hu⟩
  clear HB hu hb2
  go_wp2_with fail
  go_ret
  obtain ⟨c0, c1, c2, c3⟩ := cells_at4 w2 (.bool s1) (.slice q c c) (.bool u.s) (.slice u.p u.n u.c) 34
  have hal := bel_al (o := .cells #[.bool s1, .slice q c c, .bool u.s, .slice u.p u.n u.c] 34) (Below.refl w2.heap.size w2)
  exact ⟨w2.heap.size, [⟨s1, q, c, c⟩, u], rfl, pr_lit2 (e := ⟨s1, q, c, c⟩) (f := u) c0 c1 c2 c3 ⟨HC.out.2.1.below hal, rfl⟩ (HC.out.2.2.below hal), HC.out.1.size, bnext' HC.out.1 hal⟩
def pv (x : Int) (zs : List Int) : Nat → Int
  | 0 => 0
  | k + 1 => (pv x zs k - gx zs k) / x
def qz (x : Int) (zs : List Int) (m : Nat) : List Int := (List.range m).map fun i => pv x zs (i + 1)
theorem gx_qz (x : Int) (zs : List Int) (m t : Nat) : gx (qz x zs m) t = if t < m then pv x zs (t + 1) else 0 := by
  split
  · rename_i h
    rw [qz, gx_mem _ _ (by simpa using h)]
    simp
  · rename_i h
    exact gx_past _ m (by simp [qz]) t (by omega)
theorem pv_bd {x : Int} {zs : List Int} {P : Int} (h : ∀ t, ((gx zs t).natAbs : Int) < P) : ∀ k, ((pv x zs k).natAbs : Int) ≤ (k : Int) * P
  | 0 => by simp [pv]
  | k + 1 => by
    have ih := pv_bd (x := x) h k
    have h1 := Int.natAbs_ediv_le_natAbs (pv x zs k - gx zs k) x
    have h2 := h k
    rw [pv]
    push_cast
    rw [Int.add_mul, Int.one_mul]
    omega
theorem pv_lt {x : Int} {zs : List Int} {K : Nat} (h : ∀ t, ((gx zs t).natAbs : Int) < pw K) (k : Nat) (hk : k ≤ 1000) : ((pv x zs k).natAbs : Int) < pw (K + 1) ∧ ((pv x zs k - gx zs k).natAbs : Int) < pw (K + 1) := by
  have h1 := pv_bd (x := x) h k
  have h2 := h k
  have h3 := pw_pos K
  rw [pw_succ]
  have h4 : (k : Int) * pw K ≤ 1000 * pw K := Int.mul_le_mul_of_nonneg_right (by omega) (by omega)
  constructor <;> omega
def Goes (x : Int) (zs : List Int) (m : Nat) : Prop := (∀ k, k < m → (pv x zs k - gx zs k) % x = 0) ∧ pv x zs m = gx zs m
theorem goes_mul {x : Int} {zs : List Int} {m : Nat} (hl : zs.length = m + 1) (h : Goes x zs m) (t : Nat) : gx zs t = gx (mulp (qz x zs m) (lin x)) t := by
  rw [gx_mlin, gx_qz, gx_qz]
  have hp : (if t = 0 then 0 else if t - 1 < m then pv x zs (t - 1 + 1) else 0) = if t ≤ m then pv x zs t else 0 := by
    rcases t with _ | t
    · simp [pv]
    · rw [if_neg (by omega), Nat.add_sub_cancel]
      by_cases h1 : t < m
      · rw [if_pos h1, if_pos (by omega)]
      · rw [if_neg h1, if_neg (by omega)]
  rw [hp]
  rcases Nat.lt_trichotomy t m with h1 | h1 | h1
  · rw [if_pos (by omega), if_pos h1, pv]
    have h2 := Int.mul_ediv_add_emod (pv x zs t - gx zs t) x
    rw [h.1 t h1] at h2
    omega
  · subst h1
    rw [if_pos (Nat.le_refl _), if_neg (by omega), h.2]
    simp
  · rw [if_neg (by omega), if_neg (by omega), gx_past zs _ (Nat.le_refl _) t (by omega)]
    simp
theorem mul_goes {x : Int} (hx : x ≠ 0) {zs q : List Int} {m : Nat} (hl : zs.length = m + 1) (h : ∀ t, gx zs t = gx (mulp q (lin x)) t) : Goes x zs m ∧ ∀ t, gx q t = gx (qz x zs m) t := by
  have h' : ∀ t, gx zs t = (if t = 0 then 0 else gx q (t - 1)) - x * gx q t := fun t => by rw [h, gx_mlin]
  have hp : ∀ k, pv x zs k = if k = 0 then 0 else gx q (k - 1) := fun k => by
    induction k with
    | zero => rfl
    | succ k ih =>
      rw [pv, if_neg (by omega), Nat.add_sub_cancel, ih, h']
      have e : (if k = 0 then 0 else gx q (k - 1)) - ((if k = 0 then 0 else gx q (k - 1)) - x * gx q k) = x * gx q k := by omega
      rw [e, Int.mul_ediv_cancel_left _ hx]
  have hz : ∀ j t, q.length ≤ t + j → m ≤ t → gx q t = 0 := fun j => by
    induction j with
    | zero => exact fun t ht _ => gx_past q _ (Nat.le_refl _) t ht
    | succ j ih =>
      intro t ht hm
      have h1 := h' (t + 1)
      rw [gx_past zs _ (Nat.le_refl _) (t + 1) (by omega), if_neg (by omega), Nat.add_sub_cancel, ih (t + 1) (by omega) (by omega)] at h1
      omega
  refine ⟨⟨fun k hk => ?_, ?_⟩, fun t => ?_⟩
  · rw [hp, h']
    have e : (if k = 0 then 0 else gx q (k - 1)) - ((if k = 0 then 0 else gx q (k - 1)) - x * gx q k) = x * gx q k := by omega
    rw [e, Int.mul_emod_right]
  · rw [hp, h' m, hz q.length m (by omega) (Nat.le_refl _), Int.mul_zero, Int.sub_zero]
  · rw [gx_qz]
    split
    · rw [hp, if_neg (by omega), Nat.add_sub_cancel]
    · exact hz q.length t (by omega) (by omega)
theorem qz_nrm {x : Int} {zs : List Int} {m : Nat} (hl : zs.length = m + 1) (hn : tlen zs = zs.length) (h : Goes x zs m) : tlen (qz x zs m) = m := by
  refine tlen_eq _ _ (fun j hj => by rw [gx_qz, if_neg (by omega)]) ?_
  rcases Nat.eq_zero_or_pos m with h0 | h0
  · exact .inl h0
  · refine .inr ?_
    rw [gx_qz, if_pos (by omega), show m - 1 + 1 = m by omega, h.2]
    have h1 := tlen_top zs (by omega)
    rwa [hn, hl, Nat.add_sub_cancel] at h1
theorem gx_drop1 (zs : List Int) (t : Nat) : gx (zs.drop 1) t = gx zs (t + 1) := by
  simp only [gx, List.getD_eq_getElem?_getD, List.getElem?_drop, Nat.add_comm 1 t]
theorem drop_mul {zs : List Int} (h : gx zs 0 = 0) (t : Nat) : gx zs t = gx (mulp (zs.drop 1) (lin 0)) t := by
  rw [gx_mlin, gx_drop1, Int.zero_mul, Int.sub_zero]
  split
  · rename_i h0; rw [h0, h]
  · rw [show t - 1 + 1 = t by omega]
theorem drop_not {zs : List Int} (h : gx zs 0 ≠ 0) : ¬ Dvd zs (lin 0) := fun ⟨q, hq⟩ => h (by rw [hq 0, gx_mlin]; simp)
def RdP (B : Nat) (x : Int) (zs : List Int) (n K : Nat) (w : World) (r : Ending) (w' : World) : Prop :=
  ((∃ (q : Option Addr) (m c : Nat) (qs : List Ent) (ys : List Int), r = .returned (.tuple #[.slice q m c, .bool true]) ∧ PC B w' (K + 1) q m c qs ys ∧ m + 1 = n ∧ ∀ t, gx zs t = gx (mulp ys (lin x)) t) ∨ (∃ (q : Option Addr) (m c : Nat), r = .returned (.tuple #[.slice q m c, .bool false]) ∧ ¬ Dvd zs (lin x))) ∧ Below w.heap.size w w'
theorem isgn_dec (z : Int) : (isgn z == 0) = decide (z = 0) := by
  unfold isgn
  split
  · rename_i h; rw [decide_eq_true h]; rfl
  · rename_i h
    rw [decide_eq_false h]
    split <;> rfl
theorem ge_drop1 (es : List Ent) (j : Nat) : ge (es.drop 1) j = ge es (j + 1) := by
  simp only [ge, List.getD_eq_getElem?_getD, List.getElem?_drop, Nat.add_comm 1 j]
theorem PC.drop {B : Nat} {w : World} {K b o n nc : Nat} {es : List Ent} {zs : List Int} (h : PC B w K (some ⟨b, o, none⟩) (n + 1) nc es zs) : PC B w (K + 1) (some ⟨b, o + 2, none⟩) n (nc - 1) (es.drop 1) (zs.drop 1) := by
  have hzl := h.pn.zl
  have hel := h.pn.el
  have hcap := h.cap
  have hbnd := h.bnd
  refine ⟨⟨by rw [List.length_drop]; omega, by rw [List.length_drop]; omega, ?_, fun hx => ?_, fun a ha => by cases ha; exact h.pn.fr ⟨b, o, none⟩ rfl, fun j hj => ?_⟩, by omega, by omega, fun e => by simp at e⟩
  · refine tlen_eq _ _ (fun j hj => by rw [gx_drop1]; exact gx_past _ _ (Nat.le_of_eq hzl) _ (by omega)) ?_
    rcases Nat.eq_zero_or_pos n with h0 | h0
    · exact .inl h0
    · refine .inr ?_
      have h1 := tlen_top zs (by rw [h.pn.nrm]; omega)
      rw [h.pn.nrm, Nat.add_sub_cancel] at h1
      rwa [gx_drop1, show n - 1 + 1 = n by omega]
  · obtain ⟨b', o', hp, hc⟩ := h.pn.pl (by omega)
    cases hp
    refine ⟨b, o + 2, rfl, fun j hj => ?_⟩
    rw [List.length_drop] at hj
    have h1 := hc (j + 1) (by omega)
    rw [ge_drop1, show o + 2 + j * 2 = o + (j + 1) * 2 by omega]
    exact h1
  · rw [gx_drop1, ge_drop1]
    exact nv_up (h.pn.ev (j + 1) (by omega)) (by omega)
set_option maxRecDepth 100000 in
theorem rtdiv_zero {w : World} {B K L : Nat} {p : Option Addr} {n nc : Nat} {es : List Ent} {zs : List Int} {e : Ent} (h : PC B w K p n nc es zs) (hx : EV w L 0 e) (hn : n ≤ 1000) (hn1 : 1 ≤ n) (hK : K ≤ 300) (hL : L ≤ 300) :
    Calls Tryz.prog 98 #[.slice p n nc, .agg #[.bool e.s, .slice e.p e.n e.c]] w (RdP B 0 zs n K w) := by
  have HX : Hid (PC B w K p n nc es zs ∧ EV w L 0 e) := ⟨h, hx⟩
  obtain ⟨b, o, hp, hc⟩ := h.pn.pl (by rw [h.pn.el]; omega)
  subst hp
  obtain ⟨c0, c1⟩ := hc 0 (by rw [h.pn.el]; omega)
  simp only [Nat.zero_mul, Nat.add_zero] at c0 c1
  have hcap := h.cap
  have hbnd := h.bnd
  have hs := Sign_ev hx
  clear hc h hx
  obtain ⟨m, rfl⟩ : ∃ m, n = m + 1 := ⟨n - 1, by omega⟩
  have hal := bel_al (o := .cells #[.bool e.s, .slice e.p e.n e.c] 26) (Below.refl w.heap.size w)
  have hs := Sign_ev (HX.out.2.below hal)
  have c0' := cell_later hal c0
  have c1' := cell_later hal c1
  have e1 : ((m + 1 : Nat) : Int) - 1 = (m : Int) := by omega
  have HAL : Hid (Below w.heap.size w (w.alloc (.cells #[.bool e.s, .slice e.p e.n e.c] 26))) := hal
  go_enter Tryz.func98, Tryz.ntmps98
  go_wp2_with fail
  go_fit hs
  rintro r w1 ⟨rfl, hb1⟩
  rw [show isgn 0 = 0 from rfl]
  have d0 := cell_later hb1 c0'
  have d1 := cell_later hb1 c1'
  have HB1 : Hid (Below w.heap.size w w1) := bnext' HAL.out hb1
  have hv := ((HX.out.1.below HB1.out).pn.ev 0 (by omega)).ev (by omega)
  clear c0 c1 c0' c1' hs hal hb1
  have hz : nc = 1 ∨ ¬ nc = 1 := by omega
  have HCS := (show Hid _ from hz)
  clear hz
  have i1 : (1 : Int) ≤ ((m + 1 : Nat) : Int) := by omega
  have hd := isgn_dec (gx zs 0)
  have i2 : (1 : Int) ≤ (m : Int) + 1 := by omega
  have HP : Hid (PC B w (K + 1) (some ⟨b, o + 2, none⟩) m (nc - 1) (es.drop 1) (zs.drop 1)) := HX.out.1.drop
  rcases HCS.out with hz | hz
  · subst hz
    obtain rfl : m = 0 := by omega
    go_wp2_with fail
    go_region_held3 (fun w' => w'.cell? ⟨b, o, none⟩ = some (.bool (ge es 0).s) ∧ w'.cell? ⟨b, o + 1, none⟩ = some (.slice (ge es 0).p (ge es 0).n (ge es 0).c)) (first | with_reducible exact ⟨d0, d1⟩ | with_reducible exact ⟨q0, q1⟩ | (simp [go_sem, *]; done))
      (first
        | (go_at_call 100; go_fit (Sign_ev hv.drew); rintro r' v2 ⟨rfl, hb2⟩; have hV2 := undrew hb2; have q0 := cell_later hV2 d0; have q1 := cell_later hV2 d1))
    all_goals
      have HF : Hid (Below w.heap.size w v2) := bnext' HB1.out hV2
      have HZ : Hid (gx zs 0 ≠ 0) := by
        have h1 := tlen_top zs (by rw [HX.out.1.pn.nrm]; omega)
        rwa [HX.out.1.pn.nrm] at h1
      clear hd q0 q1 hV2 hb2 d0 d1 hv
      go_wp2
      refine bodyPost_ret (v := .tuple #[.slice (some ⟨b, o, none⟩) (0 : Nat) (0 : Nat), .bool (decide (gx zs 0 = 0))]) (by simp [results, Tryz.results98, go_sem]) rfl ?_
      refine ⟨.inr ⟨some ⟨b, o, none⟩, 0, 0, ?_, drop_not HZ.out⟩, HF.out⟩
      rw [decide_eq_false HZ.out]
  go_wp2_with fail
  go_region_held3 (fun w' => w'.cell? ⟨b, o, none⟩ = some (.bool (ge es 0).s) ∧ w'.cell? ⟨b, o + 1, none⟩ = some (.slice (ge es 0).p (ge es 0).n (ge es 0).c)) (first | with_reducible exact ⟨d0, d1⟩ | with_reducible exact ⟨q0, q1⟩ | (simp [go_sem, *]; done))
    (first
      | (go_at_call 100; go_fit (Sign_ev hv.drew); rintro r' v2 ⟨rfl, hb2⟩; have hV2 := undrew hb2; have q0 := cell_later hV2 d0; have q1 := cell_later hV2 d1))
  all_goals
    have HF : Hid (Below w.heap.size w v2) := bnext' HB1.out hV2
    have HD : Hid (gx zs 0 = 0 ∨ gx zs 0 ≠ 0) := by show _ ∨ _; omega
    clear hd q0 q1 hV2 hb2 d0 d1 hv
    go_wp2
    refine bodyPost_ret (v := .tuple #[.slice (some ⟨b, o + 2, none⟩) m (nc - 1), .bool (decide (gx zs 0 = 0))]) (by simp [results, Tryz.results98, go_sem]) rfl ?_
    rcases HD.out with h9 | h9
    · refine ⟨.inl ⟨some ⟨b, o + 2, none⟩, m, nc - 1, _, _, ?_, HP.out.below HF.out, rfl, drop_mul h9⟩, HF.out⟩
      rw [decide_eq_true h9]
    · refine ⟨.inr ⟨some ⟨b, o + 2, none⟩, m, nc - 1, ?_, drop_not h9⟩, HF.out⟩
      rw [decide_eq_false h9]
theorem Cmp_any (s t : Bool) (p q : Option Addr) (n nc m mc : Nat) (xs ys : List Int) (w : World) (hA : AI w p n nc xs) (hB : AI w q m mc ys) :
    Calls Tryz.prog 153 #[.agg #[.bool s, .slice p n nc], .agg #[.bool t, .slice q m mc]] w fun e w' => e = .returned (.int .i64 (icmp (ival s xs) (ival t ys))) ∧ Below w.heap.size w w' := by
  have hd : Hid (isgn (ival s xs) = isgn (ival t ys) ∨ isgn (ival s xs) ≠ isgn (ival t ys)) := Classical.em _
  have q1 : -1 ≤ isgn (ival s xs) ∧ isgn (ival s xs) ≤ 1 := by rcases isgn_cases (ival s xs) with h | h | h <;> omega
  have q2 : -1 ≤ icmp (val xs) (val ys) ∧ icmp (val xs) (val ys) ≤ 1 := by unfold icmp; split <;> (try split) <;> decide
  obtain ⟨q1, q1'⟩ := q1
  obtain ⟨q2, q2'⟩ := q2
  go_enter Tryz.func153, Tryz.ntmps153
  go_wp2_with fail
  have hX0 := boxes2 w (.bool s) (.slice p n nc) (.bool t) (.slice q m mc) 26 26
  generalize ((w.alloc (Obj.cells #[Value.bool s, Value.slice p n nc] 26)).alloc (Obj.cells #[Value.bool t, Value.slice q m mc] 26)) = W0 at *
  refine (Sign_any s p n nc xs _ (hA.below hX0.below)).mono ?_
  rintro e W1 ⟨rfl, hb0⟩
  have hX1 := hX0.later hb0
  clear hX0 hb0 W0
  have k0 := hX1.ca0
  have k1 := hX1.ca1
  have k2 := hX1.cb0
  have k3 := hX1.cb1
  go_wp2_with fail
  refine (Sign_any t q m mc ys _ (hB.below hX1.below)).mono ?_
  rintro e W ⟨rfl, hb0⟩
  have hX := hX1.later hb0
  clear hX1 hb0 k0 k1 k2 k3 W1
  have k0 := hX.ca0
  have k1 := hX.ca1
  have k2 := hX.cb0
  have k3 := hX.cb1
  rcases hd.out with h | h
  · have hne : (isgn (ival s xs) != isgn (ival t ys)) = false := by rw [h]; simp
    have H : Hid (isgn (ival s xs) = isgn (ival t ys)) := h
    clear h hd
    go_wp2_with fail
    have hA' := hA.below hX.below
    have hB' := hB.below hX.below
    refine (compare_any p q n nc m mc xs ys _ hA.len hB.len hA.cap hA.bnd hB.cap hB.bnd hA'.rd hA.u hB'.rd hB.u).mono ?_
    rintro e w1 ⟨rfl, hb1⟩
    have hw : wrap64 (isgn (ival s xs) * icmp (val xs) (val ys)) = icmp (ival s xs) (ival t ys) := by
      rw [icmp_same hA.u hB.u H.out]
      unfold icmp; split <;> (try split) <;> simp [wrap64, IntKind.wrap, IntKind.bits, IntKind.signed]
    go_wp2
    go_ret
    refine ⟨?_, hX.below.trans (hb1.mono hX.below.size)⟩
    first
      | exact ret_int hw
      | exact ret_int (icmp_same hA.u hB.u H.out)
      | rfl
  · have hne : (isgn (ival s xs) != isgn (ival t ys)) = true := by rw [bne_iff_ne]; exact h
    clear hd
    go_wp2_with fail
    refine (compareInt_any _ _ _).mono ?_
    rintro e w1 ⟨rfl, rfl⟩
    go_wp2
    go_ret
    exact ⟨ret_int (icmp_isgn h), hX.below⟩
theorem Cmp_ev {w : World} {K L : Nat} {x y : Int} {e f : Ent} (h : EV w K x e) (k : EV w L y f) : Calls Tryz.prog 153 #[.agg #[.bool e.s, .slice e.p e.n e.c], .agg #[.bool f.s, .slice f.p f.n f.c]] w fun r w' => r = .returned (.int .i64 (icmp x y)) ∧ Below w.heap.size w w' := by
  obtain ⟨xs, h1, rfl, h3⟩ := h
  obtain ⟨ys, k1, rfl, k3⟩ := k
  exact Cmp_any e.s f.s e.p f.p e.n e.c f.n f.c xs ys w h1 k1
theorem icmp_dec (x y : Int) : (icmp x y == 0) = decide (x = y) := by
  unfold icmp
  rcases Int.lt_trichotomy x y with h | h | h
  · rw [if_pos h]; simp; omega
  · subst h; simp
  · rw [if_neg (by omega), if_pos h]; simp; omega
end Go.Proofs.YtejnhpjejcpekaaGreatDoor
