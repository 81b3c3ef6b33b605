/-
  ashlarref3.Compose with [0, a]: p(a x).
-/
import Derived.Test.YtifebbacnlhggaaGreatDoorVy
import Derived.Deep.DeepFit
import Derived.Test.YtifebbacnlhggaaGreatDoorLnWrIbWg
import Derived.Test.YtifebbacnlhggaaGreatDoorUjBsLeUkUiWiWjUlDdReRx
import Derived.Test.YtifebbacnlhggaaGreatDoorVaVgRo
import Derived.Test.YtifebbacnlhggaaGreatDoorBbCvNjUbUcUdOw
import Derived.Test.YtifebbacnlhggaaGreatDoorPl
namespace Go.Proofs.YtifebbacnlhggaaGreatDoor
open Go.RowKit
set_option linter.unusedVariables false
set_option linter.unusedSimpArgs false

/-- The entries of p(a x). -/
def dl (a : Int) : List Int → Nat → Int
  | [], _ => 0
  | c :: _, 0 => c
  | _ :: cs, t + 1 => a * dl a cs t
theorem dl_past (a : Int) : ∀ (zs : List Int) (t : Nat), zs.length ≤ t → dl a zs t = 0
  | [], _, _ => rfl
  | c :: cs, 0, h => by simp at h
  | c :: cs, t + 1, h => by
    rw [dl, dl_past a cs t (by simpa using h), Int.mul_zero]
theorem dl_pow (a : Int) : ∀ (zs : List Int) (t : Nat), dl a zs t = gx zs t * a ^ t
  | [], t => by simp [dl, gx]
  | c :: cs, 0 => by rw [dl, gx_cons_zero, Int.pow_zero, Int.mul_one]
  | c :: cs, t + 1 => by
    rw [dl, dl_pow a cs t, gx_cons_succ, Int.pow_succ]
    grind
def dlz (a : Int) (zs : List Int) : List Int := tr ((List.range zs.length).map (dl a zs))
theorem gx_dlz (a : Int) (zs : List Int) (t : Nat) : gx (dlz a zs) t = dl a zs t := by
  rw [dlz, gx_tr]
  rcases Nat.lt_or_ge t zs.length with h | h
  · rw [gx_mem _ _ (by simpa using h)]
    simp
  · rw [gx_past _ zs.length (by simp) t h, dl_past a zs t h]
theorem dlz_nrm (a : Int) (zs : List Int) : tlen (dlz a zs) = (dlz a zs).length := by rw [dlz, tlen_tr, length_tr]
theorem length_dlz (a : Int) (zs : List Int) : (dlz a zs).length ≤ zs.length := by
  rw [dlz, length_tr]
  refine Nat.le_trans (tlen_le _) ?_
  simp
theorem ps_lineD (s : List Int) (a : Int) (t : Nat) : ps s [0, a] (t + 1) t = (if t = 0 then 0 else a * gx s (t - 1)) := by
  rw [ps, if_pos (Nat.le_refl _), Nat.sub_self]
  have g0 : gx [0, a] 0 = 0 := by simp [gx]
  have g1 : gx [0, a] 1 = a := by simp [gx]
  rw [g0]
  cases t with
  | zero => simp [ps]
  | succ t =>
    rw [ps, ps_far s [0, a] (t + 1) t (by simp), if_pos (by omega), show t + 1 - t = 1 by omega, g1, if_neg (by omega), Nat.add_sub_cancel, Int.mul_comm a]
    omega
theorem dlz_step (a c : Int) (cs : List Int) : tr (pz (· + ·) (mulp (dlz a cs) [0, a]) (tr [c])) = dlz a (c :: cs) := by
  have h : dlz a (c :: cs) = tr (dlz a (c :: cs)) := by rw [tr, dlz_nrm, List.take_length]
  rw [h]
  refine tr_same fun t => ?_
  rw [gx_pz0 _ rfl, gx_mulp, ps_lineD, gx_tr, gx_dlz]
  cases t with
  | zero =>
    rw [if_pos rfl, gx_cons_zero, gx_dlz]
    show 0 + c = c
    omega
  | succ t =>
    rw [if_neg (by omega), Nat.add_sub_cancel, gx_dlz, gx_cons_succ]
    have h0 : gx ([] : List Int) t = 0 := by simp [gx]
    rw [h0]
    show a * dl a cs t + 0 = a * dl a cs t
    omega
theorem dl_lt {a : Int} {K L : Nat} (ha : (a.natAbs : Int) < pw L) : ∀ (zs : List Int), (∀ t, ((gx zs t).natAbs : Int) < pw K) → ∀ t, ((dl a zs t).natAbs : Int) < pw (K + zs.length * (L + 1))
  | [], _, t => by simpa [dl] using pw_pos _
  | c :: cs, h, 0 => by
    have h2 := h 0
    rw [gx_cons_zero] at h2
    rw [dl]
    exact Int.lt_of_lt_of_le h2 (pw_mono (by omega))
  | c :: cs, h, t + 1 => by
    have ih := dl_lt ha cs (fun j => by have := h (j + 1); rwa [gx_cons_succ] at this) t
    have e : K + (c :: cs).length * (L + 1) = L + (K + cs.length * (L + 1)) + 1 := by
      simp only [List.length_cons]
      rw [Nat.succ_mul]
      omega
    rw [e, dl, Int.natAbs_mul]
    generalize K + cs.length * (L + 1) = B at *
    push_cast
    have h1 : (a.natAbs : Int) * ((dl a cs t).natAbs : Int) ≤ pw L * pw B := Int.mul_le_mul (Int.le_of_lt ha) (Int.le_of_lt ih) (by omega) (Int.le_of_lt (pw_pos _))
    rw [← pw_add] at h1
    have h2 := pw_pos (L + B)
    rw [pw_succ]
    omega
set_option maxHeartbeats 4000000 in
set_option maxRecDepth 100000 in
/-- ashlarref3.Compose with [0, a]. -/
theorem rpComposeD_any {w : World} {N K L : Nat} {p q : Option Addr} {n nc qc : Nat} {es fs : List Ent} {zs : List Int} {a : Int} (h : PR w N p n nc es zs) (k : PR w 200 q 2 qc fs [0, a]) (hn : n ≤ 100) (hN : N ≤ 200) (hN4 : 4 ≤ N) (hX : ∀ i, ((gx zs i).natAbs : Int) < pw K) (hY : (a.natAbs : Int) < pw L) (hL : 1 ≤ L) (ha0 : a ≠ 0) (hK : K + n * (L + 1) + L ≤ 80) :
    Calls Tryz.prog 53 #[.slice p n nc, .slice q 2 qc] w (PrP (dlz a zs) 180 w) := by
  have HX : Hid (PR w N p n nc es zs ∧ PR w 200 q 2 qc fs [0, a] ∧ (∀ i t, i ≤ n → ((gx (dlz a (zs.drop i)) t).natAbs : Int) < pw (K + n * (L + 1))) ∧ (∀ t, ((gx [0, a] t).natAbs : Int) < pw L)) := by
    refine ⟨h, k, fun i t hi => ?_, fun t => ?_⟩
    · rw [gx_dlz]
      have h1 := dl_lt (K := K) hY (zs.drop i) (fun j => by rw [gx_drop]; exact hX _) t
      refine Int.lt_of_lt_of_le h1 (pw_mono ?_)
      have h2 : (zs.drop i).length ≤ n := by rw [List.length_drop, h.zl]; omega
      have := Nat.mul_le_mul_right (L + 1) h2
      omega
    · match t with
      | 0 => rw [gx_cons_zero]; exact pw_pos _
      | 1 =>
        have e : gx [0, a] 1 = a := by simp [gx]
        rw [e]
        exact hY
      | (t + 2) =>
        have e : gx [0, a] (t + 2) = 0 := by simp [gx]
        rw [e]
        exact pw_pos _
  have hga : gx [0, a] 1 = a := by simp [gx]
  have ht2 : tlen [0, a] = [(0 : Int), a].length := tlen_eq _ 2 (fun j hj => gx_past _ 2 (by simp) j hj) (.inr (by show gx [0, a] 1 ≠ 0; rw [hga]; exact ha0))
  clear hga
  have hel := h.el
  have hzl := h.zl
  have HK : Hid (K + n * (L + 1) + L ≤ 80) := hK
  clear h k hX hY hK
  generalize hT : K + n * (L + 1) = T at *
  clear hT
  go_enter Tryz.func53, Tryz.ntmps53
  go_wp2_with fail
  go_loopw [5, 6] (fun sv iv wr => ∃ (k : Nat) (ps : Option Addr) (ns : Nat) (ess : List Ent), k ≤ n ∧ iv = .int .i64 ((k : Int) - 1) ∧ sv = .slice ps ns ns ∧ Hid (CR w wr ps ns ess (dlz a (zs.drop k)))) (fun _ iv _ => (intOf iv + 1).toNat)
  case atStart =>
    refine ⟨n, none, 0, [], Nat.le_refl _, by go_num, rfl, ?_⟩
    show CR w w none 0 [] (dlz a (zs.drop n))
    rw [List.drop_eq_nil_of_le (by omega)]
    exact ⟨pr_nil _ _, (fun a ha => by cases ha), Below.refl _ _⟩
  case round =>
    obtain ⟨k, ps, ns, ess, hk, rfl, rfl, H⟩ := hrel
    have hcs : Hid (k = 0 ∨ ∃ j, k = j + 1) := by cases k with | zero => exact .inl rfl | succ j => exact .inr ⟨j, rfl⟩
    rcases hcs.out with rfl | ⟨j, rfl⟩
    · have hV := H.out
      rw [List.drop_zero] at hV
      have HV : Hid (CR w wr ps ns ess (dlz a zs)) := hV
      clear H hV hcs
      go_wp2
      go_ret
      exact ⟨ps, ns, ess, rfl, HV.out.s, HV.out.fr, by rw [dlz_nrm, HV.out.s.zl], HV.out.bw⟩
    · have hV := H.out
      have hP := HX.out.1.below hV.bw
      obtain ⟨b, o, hp, hc⟩ := hP.pl (by omega)
      subst hp
      obtain ⟨c0, c1⟩ := hc j (by omega)
      have he := hP.ev j (by omega)
      have hQ := HX.out.2.1.below hV.bw
      have hns : ns ≤ 100 := by rw [← hV.s.zl]; refine Nat.le_trans (length_dlz _ _) ?_; rw [List.length_drop]; omega
      have i0 : ((j + 1 : Nat) : Int) - 1 = (j : Int) := by omega
      have i1 : (j : Int) < (n : Int) := by omega
      have i2 : (0 : Int) ≤ (j : Int) := by omega
      have hlb : b < wr.heap.size := block_lt_of_cell c0
      have HV : Hid (CR w wr ps ns ess (dlz a (zs.drop (j + 1)))) := hV
      have HD : Hid (zs.drop j = gx zs j :: zs.drop (j + 1)) := by
        show zs.drop j = gx zs j :: zs.drop (j + 1)
        rw [List.drop_eq_getElem_cons (by omega), gx_mem zs j (by omega)]
      have ne1 : ¬ b = wr.heap.size := by omega
      have ne2 : ¬ wr.heap.size = b := by omega
      rw [i0]
      clear hV hP hc hcs H
      go_upto_region 5 with fail
      go_region_with (first
        | (go_at_call 82; go_fit (rpMul_any (K := T) (L := L) (HV.out.s.below (by first | exact (Below.refl _ _).drew | exact (bel_al (Below.refl _ _)).drew)) (hQ.below (by first | exact (Below.refl _ _).drew | exact (bel_al (Below.refl _ _)).drew)) (dlz_nrm _ _) ht2 (by omega) (by decide) (by decide) (by decide) (fun i => HX.out.2.2.1 (j + 1) i (by omega)) HX.out.2.2.2 (by have := HK.out; omega)); rintro r v1 ⟨p1, n1, e1, rfl, hR1, hF1, ht1, hb1⟩; have hB1 := undrew hb1; have hW1 := comp (X2 := wr) (w2 := wr) (Below.refl _ _) (by (repeat apply bel_al); exact Below.refl _ _) hB1; have d0 := cell_later hW1 c0; have d1 := cell_later hW1 c1; have hn1 : n1 ≤ 1000 := (by rw [← hR1.zl]; refine Nat.le_trans (lenm _ _) ?_; have h9 := length_dlz a (zs.drop (j + 1)); rw [List.length_drop] at h9; simp only [List.length_cons, List.length_nil]; omega))
        | (go_at_call 54; (first
            | go_fit (rTrim_any N _ 1 1 [ge es j] [gx zs j] _ (pr_lit (cells_at v1 _ _ _).1 (cells_at v1 _ _ _).2 ((he.below hW1).below (bel_al (Below.refl _ _)))) (by decide))
            | go_fit (rTrim_any N _ 1 1 [ge es j] [gx zs j] _ (pr_lit (cell_later hB1 (cells_at wr _ _ _).1) (cell_later hB1 (cells_at wr _ _ _).2) (he.below hW1)) (by decide))); rintro r v2 ⟨rfl, hb2⟩; have hV2 := comp (X2 := v1) (w2 := v1) (Below.refl _ _) (by (repeat apply bel_al); exact Below.refl _ _) hb2; have hR2 := hR1.below hV2)
        | (go_at_call 81; (first
            | go_fit (rpAdd_any hR2 ((pr_lit (cells_at v1 _ _ _).1 (cells_at v1 _ _ _).2 ((he.below hW1).below (bel_al (Below.refl _ _)))).trm.below hb2) (by omega) (by have := tlen_le [gx zs j]; simp at this; omega) (by have := HK.out; omega) (by omega) (by omega) hN4)
            | go_fit (rpAdd_any hR2 ((pr_lit (cell_later hB1 (cells_at wr _ _ _).1) (cell_later hB1 (cells_at wr _ _ _).2) (he.below hW1)).trm.below hb2) (by omega) (by have := tlen_le [gx zs j]; simp at this; omega) (by have := HK.out; omega) (by omega) (by omega) hN4)); rintro r v3 ⟨p3, n3, e3, rfl, hR3, hF3, ht3, hb3⟩))
      all_goals
        have hnx : CR w v3 p3 n3 e3 (dlz a (zs.drop j)) := by
          rw [dlz_step, ← HD.out] at hR3
          have hB3 := bnext' hW1 (bnext' hV2 hb3)
          exact ⟨(hR3.tight (fun t => HX.out.2.2.1 j t (by omega))).wide (by have := HK.out; omega), fun x hx => by have h9 := hF3 x hx; have h8 := HV.out.bw.size; have h7 := hW1.size; have h6 := hV2.size; omega, bnext' HV.out.bw hB3⟩
        have HN := (show Hid _ from hnx)
        clear hnx hR1 hR2 hR3 c0 c1 HV d0 d1 he hQ
        go_wp2
        refine ⟨⟨j, p3, n3, e3, by omega, by go_num, rfl, HN.out⟩, by simp [intOf]⟩
end Go.Proofs.YtifebbacnlhggaaGreatDoor
/-
  Bits of an exponent (out of Pa).
-/
namespace Go.Proofs.YtifebbacnlhggaaGreatDoor
open Go.RowKit
open Go.Shelf
set_option linter.unusedVariables false
set_option linter.unusedSimpArgs false

theorem and1_i64 (i : Nat) (hi : i < 9223372036854775808) : bits BinOp.and IntKind.i64 (i : Int) 1 = ((i % 2 : Nat) : Int) := by
  have h2 : (2 : Int) ^ 63 = 9223372036854775808 := by decide
  have h := bits_mask .i64 63 (by decide) (fun n h0 h1 => by rw [h2] at h1; rw [IntKind.wrap_i64]; omega) 1 (by decide) (i : Int) (by omega) (by rw [h2]; omega)
  rw [show ((2 : Int) ^ 1 - 1) = 1 by decide] at h
  rw [h]
  omega
theorem bit_of (e t : Nat) (he : e ≤ 1048576) : bits BinOp.and IntKind.i64 ((e : Int) / 2 ^ t) 1 = ((e / 2 ^ t % 2 : Nat) : Int) := by
  rw [← and1_i64 _ (by have := Nat.div_le_self e (2 ^ t); omega)]
  simp
/-- One bit of the exponent. -/
theorem bit_step (e j : Nat) : e / 2 ^ j = 2 * (e / 2 ^ (j + 1)) + e / 2 ^ j % 2 := by
  rw [Nat.pow_succ, ← Nat.div_div_eq_div_mul]; omega
end Go.Proofs.YtifebbacnlhggaaGreatDoor
/-
  Entries that are answered last; limbs.Of for entries.
-/
namespace Go.Proofs.YtifebbacnlhggaaGreatDoor
open Go.RowKit
set_option linter.unusedVariables false
set_option linter.unusedSimpArgs false

theorem lasts_NV (B K : Nat) : Lasts (fun w z e => NV B w K z e) := ⟨fun h hg hne => by
    obtain ⟨xs, h1, h2⟩ := h
    exact ⟨xs, ⟨h1.len, rd_grown h1.rd hg (by rw [h1.len]; exact hne), h1.u, h1.nrm, h1.sg, h1.pn, h1.v, h1.fr, h1.fz.kept hg (fun a ha => hne (Nat.pos_of_ne_zero fun h0 => by rw [h1.pn h0] at ha; cases ha) a ha)⟩, h2⟩, fun h hn => by
    obtain ⟨xs, h1, h2⟩ := h
    exact rd_lt h1.rd (by rw [h1.len]; exact hn)⟩
theorem Of_e (a : Int) (w : World) (h0 : -9223372036854775808 ≤ a) (h1 : a ≤ 9223372036854775807) : Calls Tryz.prog 48 #[.int .i64 a] w fun r w' => ∃ u : Ent, r = .returned (.agg #[.bool u.s, .slice u.p u.n u.c]) ∧ NV w.heap.size w' 2 a u ∧ Below w.heap.size w w' := by
  refine (Of_any a w h0 h1).mono ?_
  rintro e w' ⟨s', p', n', zs, rfl, g1, g2, g3⟩
  exact ⟨⟨s', p', n', n'⟩, rfl, ⟨zs, g1, rfl, g2⟩, g3⟩
end Go.Proofs.YtifebbacnlhggaaGreatDoor
/-
  Lehmer's steps, stopped by Collins's condition: plain facts.
-/
namespace Go.Proofs.YtifebbacnlhggaaGreatDoor
open Go.RowKit
set_option linter.unusedVariables false
set_option linter.unusedSimpArgs false

/-- What is left of a and b behind so many steps. -/
def rem0 (sg s t a b : Int) : Int := -sg * (s * a - t * b)
def rem1 (sg s t a b : Int) : Int := sg * (s * a - t * b)

/-- A state of the steps: p0 and q0 are a and b over F, without their rests. -/
structure La (a b F p0 q0 sg p q s0 s1 s2 t0 t1 t2 : Int) : Prop where
  hs : sg = 1 ∨ sg = -1
  ep : p = sg * (s1 * p0 - t1 * q0)
  eq : q = -sg * (s2 * p0 - t2 * q0)
  idn : t2 * p + t1 * q = p0
  s1n : 0 ≤ s1
  s2n : 0 ≤ s2
  t1n : 0 ≤ t1
  t2n : 1 ≤ t2
  t12 : t1 ≤ t2
  st2 : s2 ≤ t2
  st12 : s1 + s2 ≤ t1 + t2
  qn : 0 ≤ q
  pq : q ≤ p
  pp : p ≤ p0
  g : Int.gcd (rem1 sg s1 t1 a b) (rem0 sg s2 t2 a b) = Int.gcd a b
  prev : (s0 = 0 ∧ t0 = 0 ∧ s1 = 1 ∧ t1 = 0 ∧ s2 = 0 ∧ t2 = 1 ∧ sg = 1) ∨
    (0 ≤ s0 ∧ 0 ≤ t0 ∧ t0 ≤ t1 ∧ t1 < 1073741824 ∧ s0 < 1073741824 ∧ s1 ≤ t1 ∧ 1 ≤ t1 ∧ 0 ≤ rem1 sg s1 t1 a b ∧ rem1 sg s1 t1 a b < rem0 sg s0 t0 a b ∧ rem1 sg s1 t1 a b ≤ b ∧ (t0 = 0 ∨ rem0 sg s0 t0 a b ≤ b) ∧ Int.gcd (rem0 sg s0 t0 a b) (rem1 sg s1 t1 a b) = Int.gcd a b)

theorem La.start {a b F p0 q0 : Int} (hq : 0 ≤ q0) (hp : q0 ≤ p0) : La a b F p0 q0 1 p0 q0 0 1 0 0 0 1 := by
  refine ⟨.inl rfl, by omega, by omega, by omega, by decide, by decide, by decide, by decide, by decide, by decide, by decide, hq, hp, Int.le_refl _, ?_, .inl ⟨rfl, rfl, rfl, rfl, rfl, rfl, rfl⟩⟩
  rw [rem1, rem0, show (1 : Int) * (1 * a - 0 * b) = a by omega, show -(1 : Int) * (0 * a - 1 * b) = b by omega]

/-- Rests are small: what is left has the sign that the highest bits say. -/
theorem rest_lo {F al be s t : Int} (hF : 0 < F) (ha0 : 0 ≤ al) (ha1 : al < F) (hb0 : 0 ≤ be) (hb1 : be < F) (hs0 : 0 ≤ s) (ht0 : 0 ≤ t) (hst : s ≤ t) :
    -(t * (F - 1)) ≤ s * al - t * be ∧ s * al - t * be ≤ t * (F - 1) := by
  have h1 : s * al ≤ s * (F - 1) := Int.mul_le_mul_of_nonneg_left (by omega) hs0
  have h2 : s * (F - 1) ≤ t * (F - 1) := Int.mul_le_mul_of_nonneg_right hst (by omega)
  have h3 : t * be ≤ t * (F - 1) := Int.mul_le_mul_of_nonneg_left (by omega) ht0
  have h4 : 0 ≤ s * al := Int.mul_nonneg hs0 ha0
  have h5 : 0 ≤ t * be := Int.mul_nonneg ht0 hb0
  constructor <;> omega
theorem sg_bd {sg x M : Int} (hs : sg = 1 ∨ sg = -1) (h : -M ≤ x ∧ x ≤ M) : -M ≤ sg * x ∧ sg * x ≤ M := by
  rcases hs with rfl | rfl <;> omega
theorem sq_lt {t p p0 : Int} (ht : 1 ≤ t) (hp : t ≤ p) (h : t * p ≤ p0) (h0 : p0 < 1152921504606846976) : t < 1073741824 := by
  rcases (show t < 1073741824 ∨ 1073741824 ≤ t by omega) with h1 | h1
  · exact h1
  · exfalso
    have h2 : t * 1073741824 ≤ t * p := Int.mul_le_mul_of_nonneg_left (by omega) (by omega)
    have h3 : 1073741824 * 1073741824 ≤ t * 1073741824 := Int.mul_le_mul_of_nonneg_right h1 (by decide)
    omega

theorem La.step {a b F p0 q0 sg p q s0 s1 s2 t0 t1 t2 al be : Int} (h : La a b F p0 q0 sg p q s0 s1 s2 t0 t1 t2) (hF : 0 < F) (hp0 : p0 < 1152921504606846976)
    (ea : a = p0 * F + al) (eb : b = q0 * F + be) (ha0 : 0 ≤ al) (ha1 : al < F) (hb0 : 0 ≤ be) (hb1 : be < F)
    (c1 : t2 ≤ q) (c2 : t1 + t2 ≤ p - q) : La a b F p0 q0 (-sg) q (p % q) s1 s2 (s1 + p / q * s2) t1 t2 (t1 + p / q * t2) := by
  have t2n := h.t2n
  have t1n := h.t1n
  have hq : 0 < q := by omega
  have hd : 1 ≤ p / q := (Int.le_ediv_iff_mul_le hq).2 (by have := h.pq; omega)
  have hm : p % q = p - p / q * q := by have := Int.emod_add_mul_ediv p q; rw [Int.mul_comm q] at this; omega
  have hm0 := Int.emod_nonneg p (show q ≠ 0 by omega)
  have hm1 := Int.emod_lt_of_pos p hq
  generalize p / q = d at *
  have hs2 := Int.mul_nonneg (show 0 ≤ d by omega) h.s2n
  have ht2 : t2 ≤ d * t2 := by have := Int.mul_le_mul_of_nonneg_right hd (show 0 ≤ t2 by omega); omega
  have hds : (d - 1) * s2 ≤ (d - 1) * t2 := Int.mul_le_mul_of_nonneg_left h.st2 (by omega)
  rw [Int.sub_mul, Int.sub_mul, Int.one_mul, Int.one_mul] at hds
  have hst12 := h.st12
  have hst2 := h.st2
  have hs1n := h.s1n
  have hs2n := h.s2n
  -- what is left
  have e2 : rem0 sg s2 t2 a b = F * q - sg * (s2 * al - t2 * be) := by rw [rem0, ea, eb, h.eq]; grind
  have e1 : rem1 sg s1 t1 a b - rem0 sg s2 t2 a b = F * (p - q) + sg * ((s1 + s2) * al - (t1 + t2) * be) := by rw [rem0, rem1, ea, eb, h.eq, h.ep]; grind
  have b2 := sg_bd h.hs (rest_lo hF ha0 ha1 hb0 hb1 h.s2n (by omega) h.st2)
  have b1 := sg_bd h.hs (rest_lo hF ha0 ha1 hb0 hb1 (s := s1 + s2) (t := t1 + t2) (by omega) (by omega) h.st12)
  have k2 : F * t2 ≤ F * q := Int.mul_le_mul_of_nonneg_left c1 (by omega)
  have k1 : F * (t1 + t2) ≤ F * (p - q) := Int.mul_le_mul_of_nonneg_left c2 (by omega)
  have m2 : t2 * (F - 1) = F * t2 - t2 := by rw [Int.mul_sub, Int.mul_comm F]; omega
  have m1 : (t1 + t2) * (F - 1) = F * (t1 + t2) - (t1 + t2) := by rw [Int.mul_sub, Int.mul_comm F]; omega
  have x2 : 0 ≤ rem0 sg s2 t2 a b := by omega
  have x1 : rem0 sg s2 t2 a b < rem1 sg s1 t1 a b := by omega
  have f1 : rem1 (-sg) s2 t2 a b = rem0 sg s2 t2 a b := rfl
  have f0 : rem0 (-sg) s1 t1 a b = rem1 sg s1 t1 a b := by rw [rem0, rem1, Int.neg_neg]
  have f2 : rem0 (-sg) (s1 + d * s2) (t1 + d * t2) a b = rem1 sg s1 t1 a b - d * rem0 sg s2 t2 a b := by rw [rem0, rem1, rem0]; grind
  have hid := h.idn
  have htq := Int.mul_nonneg t1n h.qn
  refine ⟨by rcases h.hs with e | e <;> omega, h.eq, ?_, ?_, h.s2n, by omega, by omega, by omega, by omega, by omega, by omega, hm0, by omega, by have := h.pp; have := h.pq; omega, ?_, .inr ⟨h.s1n, h.t1n, h.t12, ?_, ?_, h.st2, h.t2n, by rw [f1]; exact x2, by rw [f1, f0]; exact x1, ?_, ?_, ?_⟩⟩
  · rw [hm, h.ep, h.eq]; grind
  · rw [hm]
    have : (t1 + d * t2) * q + t2 * (p - d * q) = t2 * p + t1 * q := by grind
    omega
  · rw [f1, f2, Int.gcd_sub_mul_right_right, Int.gcd_comm]; exact h.g
  · exact sq_lt (p := p) h.t2n (by have := h.qn; omega) (by omega) hp0
  · rcases h.prev with ⟨_, _, e, _⟩ | ⟨_, _, _, e, _, e', _⟩
    · omega
    · omega
  · rw [f1]
    rcases h.prev with ⟨_, _, _, _, e3, e4, e5⟩ | ⟨_, _, _, _, _, _, _, _, _, e, _⟩
    · rw [e3, e4, e5, rem0]; omega
    · omega
  · rw [f0]
    rcases h.prev with ⟨_, _, _, e, _⟩ | ⟨_, _, _, _, _, _, _, _, _, e, _⟩
    · exact .inl e
    · exact .inr e
  · rw [f0, f1]; exact h.g

/-- What the steps leave. -/
theorem La.done {a b F p0 q0 sg p q s0 s1 s2 t0 t1 t2 : Int} (h : La a b F p0 q0 sg p q s0 s1 s2 t0 t1 t2) (ht : 0 < t0) :
    0 ≤ s0 ∧ s0 < 1073741824 ∧ t0 < 1073741824 ∧ 0 ≤ s1 ∧ s1 < 1073741824 ∧ 0 ≤ t1 ∧ t1 < 1073741824 ∧ 0 ≤ rem1 sg s1 t1 a b ∧ rem1 sg s1 t1 a b < rem0 sg s0 t0 a b ∧ rem0 sg s0 t0 a b ≤ b ∧ Int.gcd (rem0 sg s0 t0 a b) (rem1 sg s1 t1 a b) = Int.gcd a b := by
  rcases h.prev with ⟨_, e, _⟩ | ⟨h1, h2, h3, h4, h5, h6, h7, h8, h9, h10, h11, h12⟩
  · omega
  · exact ⟨h1, h5, by omega, h.s1n, by omega, h.t1n, h4, h8, h9, by rcases h11 with e | e; omega; exact e, h12⟩
/-- What is reckoned with fits. -/
theorem La.bd {a b F p0 q0 sg p q s0 s1 s2 t0 t1 t2 : Int} (h : La a b F p0 q0 sg p q s0 s1 s2 t0 t1 t2) (hq : 0 < p) (hp0 : p0 < 1152921504606846976) :
    0 ≤ s0 ∧ s0 < 1073741824 ∧ 0 ≤ t0 ∧ t0 < 1073741824 ∧ s1 ≤ 1073741824 ∧ t1 < 1073741824 ∧ t2 ≤ p0 ∧ s2 ≤ p0 := by
  have h1 : t2 * 1 ≤ t2 * p := Int.mul_le_mul_of_nonneg_left (by omega) (by have := h.t2n; omega)
  have h2 := Int.mul_nonneg h.t1n h.qn
  have h3 := h.idn
  have h4 := h.st2
  rcases h.prev with ⟨e1, e2, e3, e4, _⟩ | ⟨h1, h2, h3, h4, h5, h6, h7, h8, h9, h10, h11, h12⟩ <;> refine ⟨by omega, by omega, by omega, by omega, by omega, by omega, by omega, by omega⟩
end Go.Proofs.YtifebbacnlhggaaGreatDoor
