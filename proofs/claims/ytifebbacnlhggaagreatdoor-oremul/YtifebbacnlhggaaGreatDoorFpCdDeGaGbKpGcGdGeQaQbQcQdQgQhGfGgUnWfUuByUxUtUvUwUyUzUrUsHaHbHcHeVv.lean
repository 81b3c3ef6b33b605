/-
  ashlarref3.Compose with [0, a]: p(a x).
-/
import Derived.Test.YtifebbacnlhggaaGreatDoorDdDvPmHuVy
import Derived.Deep.DeepFit
import Derived.Test.YtifebbacnlhggaaGreatDoorLnWrIbWgUeUfUg
import Derived.Test.YtifebbacnlhggaaGreatDoorLeUkWiWj
import Derived.Test.YtifebbacnlhggaaGreatDoorUaVgOnWhPnWk
import Derived.Test.YtifebbacnlhggaaGreatDoorWlBxBbCvNjUbUcUdOwRaWmBeRd
import Derived.Test.YtifebbacnlhggaaGreatDoorPl
import Derived.Lib.EndianBits
import Derived.Test.YtifebbacnlhggaaGreatDoorMmWaWbWc
import Derived.Deep.DeepCutAuto
import Derived.Test.YtifebbacnlhggaaGreatDoorVqDcUj
import Derived.Test.YtifebbacnlhggaaGreatDoorWdWeNi
import Derived.Test.YtifebbacnlhggaaGreatDoorUlUmVsUoDmVt
import Derived.Shelf.SlicesE.Clone
import Derived.Ground.SlgnProg
import Derived.Test.YtifebbacnlhggaaGreatDoorRtDhVeRsVfVcAjDqDrBmBqDuAkBrAlAp
import Derived.Test.YtifebbacnlhggaaGreatDoorBpBnBoAhAdBsDtAgWvUhAiRzVd
import Derived.Deep.CutRange
import Derived.Deep.RegionHeld3
import Derived.Test.YtifebbacnlhggaaGreatDoorDsAeVuWxUpUqRm
import Derived.StillTailTactics
import Derived.Test.YtifebbacnlhggaaGreatDoorAqNrNaHdNbFvOi
import Derived.Test.YtifebbacnlhggaaGreatDoorRkUi
import Derived.Test.YtifebbacnlhggaaGreatDoorRpDkDlDbRiRjRg
namespace Go.Proofs.YtifebbacnlhggaaGreatDoor
open Go.RowKit
set_option linter.unusedVariables false
set_option linter.unusedSimpArgs false
set_option maxHeartbeats 8000000
def dl (a : Int) : List Int → Nat → Int
  | [], _ => 0
  | c :: _, 0 => c
  | _ :: cs, t + 1 => a * dl a cs t
theorem dl_past (a : Int) : ∀ (zs : List Int) (t : Nat), zs.length ≤ t → dl a zs t = 0
  | [], _, _ => rfl
  | c :: cs, 0, h => by simp at h
  | c :: cs, t + 1, h => by
    rw [dl, dl_past a cs t (by simpa using h), Int.mul_zero]
theorem dl_pow (a : Int) : ∀ (zs : List Int) (t : Nat), dl a zs t = gx zs t * a ^ t
  | [], t => by simp [dl, gx]
  | c :: cs, 0 => by rw [dl, gx_cons_zero, Int.pow_zero, Int.mul_one]
  | c :: cs, t + 1 => by
    rw [dl, dl_pow a cs t, gx_cons_succ, Int.pow_succ]
    grind
def dlz (a : Int) (zs : List Int) : List Int := tr ((List.range zs.length).map (dl a zs))
theorem gx_dlz (a : Int) (zs : List Int) (t : Nat) : gx (dlz a zs) t = dl a zs t := by
  rw [dlz, gx_tr]
  rcases Nat.lt_or_ge t zs.length with h | h
  · rw [gx_mem _ _ (by simpa using h)]
    simp
  · rw [gx_past _ zs.length (by simp) t h, dl_past a zs t h]
theorem dlz_nrm (a : Int) (zs : List Int) : tlen (dlz a zs) = (dlz a zs).length := by rw [dlz, tlen_tr, length_tr]
theorem length_dlz (a : Int) (zs : List Int) : (dlz a zs).length ≤ zs.length := by
  rw [dlz, length_tr]
  refine Nat.le_trans (tlen_le _) ?_
  simp
theorem ps_lineD (s : List Int) (a : Int) (t : Nat) : ps s [0, a] (t + 1) t = (if t = 0 then 0 else a * gx s (t - 1)) := by
  rw [ps, if_pos (Nat.le_refl _), Nat.sub_self]
  have g0 : gx [0, a] 0 = 0 := by simp [gx]
  have g1 : gx [0, a] 1 = a := by simp [gx]
  rw [g0]
  cases t with
  | zero => simp [ps]
  | succ t =>
    rw [ps, ps_far s [0, a] (t + 1) t (by simp), if_pos (by omega), show t + 1 - t = 1 by omega, g1, if_neg (by omega), Nat.add_sub_cancel, Int.mul_comm a]
    omega
theorem dlz_step (a c : Int) (cs : List Int) : tr (pz (· + ·) (mulp (dlz a cs) [0, a]) (tr [c])) = dlz a (c :: cs) := by
  have h : dlz a (c :: cs) = tr (dlz a (c :: cs)) := by rw [tr, dlz_nrm, List.take_length]
  rw [h]
  refine tr_same fun t => ?_
  rw [gx_pz0 _ rfl, gx_mulp, ps_lineD, gx_tr, gx_dlz]
  cases t with
  | zero =>
    rw [if_pos rfl, gx_cons_zero, gx_dlz]
    show 0 + c = c
    omega
  | succ t =>
    rw [if_neg (by omega), Nat.add_sub_cancel, gx_dlz, gx_cons_succ]
    have h0 : gx ([] : List Int) t = 0 := by simp [gx]
    rw [h0]
    show a * dl a cs t + 0 = a * dl a cs t
    omega
theorem dl_lt {a : Int} {K L : Nat} (ha : (a.natAbs : Int) < pw L) : ∀ (zs : List Int), (∀ t, ((gx zs t).natAbs : Int) < pw K) → ∀ t, ((dl a zs t).natAbs : Int) < pw (K + zs.length * (L + 1))
  | [], _, t => by simpa [dl] using pw_pos _
  | c :: cs, h, 0 => by
    have h2 := h 0
    rw [gx_cons_zero] at h2
    rw [dl]
    exact Int.lt_of_lt_of_le h2 (pw_mono (by omega))
  | c :: cs, h, t + 1 => by
    have ih := dl_lt ha cs (fun j => by have := h (j + 1); rwa [gx_cons_succ] at this) t
    have e : K + (c :: cs).length * (L + 1) = L + (K + cs.length * (L + 1)) + 1 := by
      simp only [List.length_cons]
      rw [Nat.succ_mul]
      omega
    rw [e, dl, Int.natAbs_mul]
    generalize K + cs.length * (L + 1) = B at *
    push_cast
    have h1 : (a.natAbs : Int) * ((dl a cs t).natAbs : Int) ≤ pw L * pw B := Int.mul_le_mul (Int.le_of_lt ha) (Int.le_of_lt ih) (by omega) (Int.le_of_lt (pw_pos _))
    rw [← pw_add] at h1
    have h2 := pw_pos (L + B)
    rw [pw_succ]
    omega
set_option maxRecDepth 100000 in
theorem rpComposeD_any {w : World} {N K L : Nat} {p q : Option Addr} {n nc qc : Nat} {es fs : List Ent} {zs : List Int} {a : Int} (h : PR w N p n nc es zs) (k : PR w 200 q 2 qc fs [0, a]) (hn : n ≤ 100) (hN : N ≤ 200) (hN4 : 4 ≤ N) (hX : ∀ i, ((gx zs i).natAbs : Int) < pw K) (hY : (a.natAbs : Int) < pw L) (hL : 1 ≤ L) (ha0 : a ≠ 0) (hK : K + n * (L + 1) + L ≤ 80) :
    Calls Tryz.prog 53 #[.slice p n nc, .slice q 2 qc] w (PrP (dlz a zs) 180 w) := by
  have HX : Hid (PR w N p n nc es zs ∧ PR w 200 q 2 qc fs [0, a] ∧ (∀ i t, i ≤ n → ((gx (dlz a (zs.drop i)) t).natAbs : Int) < pw (K + n * (L + 1))) ∧ (∀ t, ((gx [0, a] t).natAbs : Int) < pw L)) := by
    refine ⟨h, k, fun i t hi => ?_, fun t => ?_⟩
    · rw [gx_dlz]
      have h1 := dl_lt (K := K) hY (zs.drop i) (fun j => by rw [gx_drop]; exact hX _) t
      refine Int.lt_of_lt_of_le h1 (pw_mono ?_)
      have h2 : (zs.drop i).length ≤ n := by rw [List.length_drop, h.zl]; omega
      have := Nat.mul_le_mul_right (L + 1) h2
      omega
    · match t with
      | 0 => rw [gx_cons_zero]; exact pw_pos _
      | 1 =>
        have e : gx [0, a] 1 = a := by simp [gx]
        rw [e]
        exact hY
      | (t + 2) =>
        have e : gx [0, a] (t + 2) = 0 := by simp [gx]
        rw [e]
        exact pw_pos _
  have hga : gx [0, a] 1 = a := by simp [gx]
  have ht2 : tlen [0, a] = [(0 : Int), a].length := tlen_eq _ 2 (fun j hj => gx_past _ 2 (by simp) j hj) (.inr (by show gx [0, a] 1 ≠ 0; rw [hga]; exact ha0))
  clear hga
  have hel := h.el
  have hzl := h.zl
  have HK : Hid (K + n * (L + 1) + L ≤ 80) := hK
  clear h k hX hY hK
  generalize hT : K + n * (L + 1) = T at *
  clear hT
  go_enter Tryz.func53, Tryz.ntmps53
  go_wp2_with fail
  go_loopw [5, 6] (fun sv iv wr => ∃ (k : Nat) (ps : Option Addr) (ns : Nat) (ess : List Ent), k ≤ n ∧ iv = .int .i64 ((k : Int) - 1) ∧ sv = .slice ps ns ns ∧ Hid (CR w wr ps ns ess (dlz a (zs.drop k)))) (fun _ iv _ => (intOf iv + 1).toNat)
  case atStart =>
    refine ⟨n, none, 0, [], Nat.le_refl _, by go_num, rfl, ?_⟩
    show CR w w none 0 [] (dlz a (zs.drop n))
    rw [List.drop_eq_nil_of_le (by omega)]
    exact ⟨pr_nil _ _, (fun a ha => by cases ha), Below.refl _ _⟩
  case round =>
    obtain ⟨k, ps, ns, ess, hk, rfl, rfl, H⟩ := hrel
    have hcs : Hid (k = 0 ∨ ∃ j, k = j + 1) := by cases k with | zero => exact .inl rfl | succ j => exact .inr ⟨j, rfl⟩
    rcases hcs.out with rfl | ⟨j, rfl⟩
    · have hV := H.out
      rw [List.drop_zero] at hV
      have HV : Hid (CR w wr ps ns ess (dlz a zs)) := hV
      clear H hV hcs
      go_wp2
      go_ret
      exact ⟨ps, ns, ess, rfl, HV.out.s, HV.out.fr, by rw [dlz_nrm, HV.out.s.zl], HV.out.bw⟩
    · have hV := H.out
      have hP := HX.out.1.below hV.bw
      obtain ⟨b, o, hp, hc⟩ := hP.pl (by omega)
      subst hp
      obtain ⟨c0, c1⟩ := hc j (by omega)
      have he := hP.ev j (by omega)
      have hQ := HX.out.2.1.below hV.bw
      have hns : ns ≤ 100 := by rw [← hV.s.zl]; refine Nat.le_trans (length_dlz _ _) ?_; rw [List.length_drop]; omega
      have i0 : ((j + 1 : Nat) : Int) - 1 = (j : Int) := by omega
      have i1 : (j : Int) < (n : Int) := by omega
      have i2 : (0 : Int) ≤ (j : Int) := by omega
      have hlb : b < wr.heap.size := block_lt_of_cell c0
      have HV : Hid (CR w wr ps ns ess (dlz a (zs.drop (j + 1)))) := hV
      have HD : Hid (zs.drop j = gx zs j :: zs.drop (j + 1)) := by
        show zs.drop j = gx zs j :: zs.drop (j + 1)
        rw [List.drop_eq_getElem_cons (by omega), gx_mem zs j (by omega)]
      have ne1 : ¬ b = wr.heap.size := by omega
      have ne2 : ¬ wr.heap.size = b := by omega
      rw [i0]
      clear hV hP hc hcs H
      go_upto_region 5 with fail
      go_region_with (first
        | (go_at_call 82; go_fit (rpMul_any (K := T) (L := L) (HV.out.s.below (by first | exact (Below.refl _ _).drew | exact (bel_al (Below.refl _ _)).drew)) (hQ.below (by first | exact (Below.refl _ _).drew | exact (bel_al (Below.refl _ _)).drew)) (dlz_nrm _ _) ht2 (by omega) (by decide) (by decide) (by decide) (fun i => HX.out.2.2.1 (j + 1) i (by omega)) HX.out.2.2.2 (by have := HK.out; omega)); rintro r v1 ⟨p1, n1, e1, rfl, hR1, hF1, ht1, hb1⟩; have hB1 := undrew hb1; have hW1 := comp (X2 := wr) (w2 := wr) (Below.refl _ _) (by (repeat apply bel_al); exact Below.refl _ _) hB1; have d0 := cell_later hW1 c0; have d1 := cell_later hW1 c1; have hn1 : n1 ≤ 1000 := (by rw [← hR1.zl]; refine Nat.le_trans (lenm _ _) ?_; have h9 := length_dlz a (zs.drop (j + 1)); rw [List.length_drop] at h9; simp only [List.length_cons, List.length_nil]; omega))
        | (go_at_call 54; (first
            | go_fit (rTrim_any N _ 1 1 [ge es j] [gx zs j] _ (pr_lit (cells_at v1 _ _ _).1 (cells_at v1 _ _ _).2 ((he.below hW1).below (bel_al (Below.refl _ _)))) (by decide))
            | go_fit (rTrim_any N _ 1 1 [ge es j] [gx zs j] _ (pr_lit (cell_later hB1 (cells_at wr _ _ _).1) (cell_later hB1 (cells_at wr _ _ _).2) (he.below hW1)) (by decide))); rintro r v2 ⟨rfl, hb2⟩; have hV2 := comp (X2 := v1) (w2 := v1) (Below.refl _ _) (by (repeat apply bel_al); exact Below.refl _ _) hb2; have hR2 := hR1.below hV2)
        | (go_at_call 81; (first
            | go_fit (rpAdd_any hR2 ((pr_lit (cells_at v1 _ _ _).1 (cells_at v1 _ _ _).2 ((he.below hW1).below (bel_al (Below.refl _ _)))).trm.below hb2) (by omega) (by have := tlen_le [gx zs j]; simp at this; omega) (by have := HK.out; omega) (by omega) (by omega) hN4)
            | go_fit (rpAdd_any hR2 ((pr_lit (cell_later hB1 (cells_at wr _ _ _).1) (cell_later hB1 (cells_at wr _ _ _).2) (he.below hW1)).trm.below hb2) (by omega) (by have := tlen_le [gx zs j]; simp at this; omega) (by have := HK.out; omega) (by omega) (by omega) hN4)); rintro r v3 ⟨p3, n3, e3, rfl, hR3, hF3, ht3, hb3⟩))
      all_goals
        have hnx : CR w v3 p3 n3 e3 (dlz a (zs.drop j)) := by
          rw [dlz_step, ← HD.out] at hR3
          have hB3 := bnext' hW1 (bnext' hV2 hb3)
          exact ⟨(hR3.tight (fun t => HX.out.2.2.1 j t (by omega))).wide (by have := HK.out; omega), fun x hx => by have h9 := hF3 x hx; have h8 := HV.out.bw.size; have h7 := hW1.size; have h6 := hV2.size; omega, bnext' HV.out.bw hB3⟩
        have HN := (show Hid _ from hnx)
        clear hnx hR1 hR2 hR3 c0 c1 HV d0 d1 he hQ
        go_wp2
        refine ⟨⟨j, p3, n3, e3, by omega, by go_num, rfl, HN.out⟩, by simp [intOf]⟩
open Go.Shelf
theorem and1_i64 (i : Nat) (hi : i < 9223372036854775808) : bits BinOp.and IntKind.i64 (i : Int) 1 = ((i % 2 : Nat) : Int) := by
  have h2 : (2 : Int) ^ 63 = 9223372036854775808 := by decide
  have h := bits_mask .i64 63 (by decide) (fun n h0 h1 => by rw [h2] at h1; rw [IntKind.wrap_i64]; omega) 1 (by decide) (i : Int) (by omega) (by rw [h2]; omega)
  rw [show ((2 : Int) ^ 1 - 1) = 1 by decide] at h
  rw [h]
  omega
theorem bit_of (e t : Nat) (he : e ≤ 1048576) : bits BinOp.and IntKind.i64 ((e : Int) / 2 ^ t) 1 = ((e / 2 ^ t % 2 : Nat) : Int) := by
  rw [← and1_i64 _ (by have := Nat.div_le_self e (2 ^ t); omega)]
  simp
theorem bit_step (e j : Nat) : e / 2 ^ j = 2 * (e / 2 ^ (j + 1)) + e / 2 ^ j % 2 := by
  rw [Nat.pow_succ, ← Nat.div_div_eq_div_mul]; omega
theorem lasts_NV (B K : Nat) : Lasts (fun w z e => NV B w K z e) := ⟨fun h hg hne => by
    obtain ⟨xs, h1, h2⟩ := h
    exact ⟨xs, ⟨h1.len, rd_grown h1.rd hg (by rw [h1.len]; exact hne), h1.u, h1.nrm, h1.sg, h1.pn, h1.v, h1.fr, h1.fz.kept hg (fun a ha => hne (Nat.pos_of_ne_zero fun h0 => by rw [h1.pn h0] at ha; cases ha) a ha)⟩, h2⟩, fun h hn => by
    obtain ⟨xs, h1, h2⟩ := h
    exact rd_lt h1.rd (by rw [h1.len]; exact hn)⟩
theorem Of_e (a : Int) (w : World) (h0 : -9223372036854775808 ≤ a) (h1 : a ≤ 9223372036854775807) : Calls Tryz.prog 48 #[.int .i64 a] w fun r w' => ∃ u : Ent, r = .returned (.agg #[.bool u.s, .slice u.p u.n u.c]) ∧ NV w.heap.size w' 2 a u ∧ Below w.heap.size w w' := by
  refine (Of_any a w h0 h1).mono ?_
  rintro e w' ⟨s', p', n', zs, rfl, g1, g2, g3⟩
  exact ⟨⟨s', p', n', n'⟩, rfl, ⟨zs, g1, rfl, g2⟩, g3⟩
theorem val_cut (xs : List Int) (i : Nat) : val xs = val (xs.take i) + pw i * val (xs.drop i) := by
  by_cases h : i ≤ xs.length
  · exact val_drop_take xs i h
  · rw [List.take_of_length_le (by omega), List.drop_of_length_le (by omega)]; simp [val]
structure Kp (g h : Nat) (w w' : World) : Prop where
  block : ∀ k, k < w.heap.size → k ≠ g → k ≠ h → w'.heap[k]? = w.heap[k]?
  os : w'.os = w.os
  tape : w'.tape = w.tape
  output : w'.output = w.output
  size : w.heap.size ≤ w'.heap.size
def Good (a b aa ab ba bb : Int) : Prop :=
  -1073741824 < aa ∧ aa < 1073741824 ∧ -1073741824 < ab ∧ ab < 1073741824 ∧ -1073741824 < ba ∧ ba < 1073741824 ∧ -1073741824 < bb ∧ bb < 1073741824 ∧ 0 ≤ ba * a + bb * b ∧ ba * a + bb * b < aa * a + ab * b ∧ aa * a + ab * b ≤ b ∧ Int.gcd (aa * a + ab * b) (ba * a + bb * b) = Int.gcd a b
theorem bitLen_bd {x : Int} (h0 : 0 < x) (h1 : x < 4294967296) : 1 ≤ Lib.bitLen x.toNat ∧ Lib.bitLen x.toNat ≤ 32 ∧ IB (Lib.bitLen x.toNat) x := by
  have hib := bitLenAux_ib 64 x.toNat (by omega)
  have e : ((x.toNat : Nat) : Int) = x := by omega
  rw [e] at hib
  have hb : IB (Lib.bitLen x.toNat) x := hib
  refine ⟨?_, ?_, hb⟩
  · rcases Nat.eq_zero_or_pos (Lib.bitLen x.toNat) with hz | hz
    · have h2 := hb.2.1
      rw [hz] at h2
      have e0 : (2 : Int) ^ 0 = 1 := rfl
      rw [e0] at h2; omega
    · exact hz
  · rcases Nat.lt_or_ge 32 (Lib.bitLen x.toNat) with hz | hz
    · exfalso
      rcases hb.2.2 with h2 | h2
      · omega
      · have h3 := p2_mono (show 32 ≤ Lib.bitLen x.toNat - 1 by omega)
        have e0 : (2 : Int) ^ 32 = 4294967296 := rfl
        omega
    · exact hz
structure Hd (P lu lv u0 u1 u2 nx hd U V : Int) : Prop where
  p : 0 < P
  lu0 : 0 ≤ lu
  lu1 : lu < P
  lv0 : 0 ≤ lv
  lv1 : lv < P
  a0 : 0 ≤ u0 ∧ u0 < 4294967296
  a1 : 0 ≤ u1 ∧ u1 < 4294967296
  a2 : 0 ≤ u2 ∧ u2 < 4294967296
  b0 : 0 ≤ nx ∧ nx < 4294967296
  b1 : 1 ≤ hd ∧ hd < 4294967296
  u : U = lu + P * (u0 + 4294967296 * (u1 + 4294967296 * u2))
  v : V = lv + P * (nx + 4294967296 * hd)
theorem NV.fit {B : Nat} {w : World} {K M : Nat} {z : Int} {e : Ent} (h : NV B w K z e) (hz : (z.natAbs : Int) < pw M) : NV B w M z e := by
  obtain ⟨xs, h1, h2, h3⟩ := h
  exact ⟨xs, h1, h2, h1.le hz⟩
theorem Neg_any (s : Bool) (p : Option Addr) (n nc : Nat) (xs : List Int) (w : World) (hA : AI w p n nc xs) :
    Calls Tryz.prog 180 #[.agg #[.bool s, .slice p n nc]] w fun e w' => ∃ s' p' n' ys, e = .returned (.agg #[.bool s', .slice p' n' n']) ∧ NI w.heap.size w' s' p' n' ys (ival (!s) xs) ∧ n' ≤ n ∧ Below w.heap.size w w' := by
  have ht := tlen_le xs
  have hl := hA.len
  have hs := hA.sml
  go_enter Tryz.func180, Tryz.ntmps180
  go_wp2
  go_region_held3 (fun w' => w'.cell? ⟨w.heap.size, 0, none⟩ = some (.bool s) ∧ w'.cell? ⟨w.heap.size, 1, none⟩ = some (.slice p n nc)) (first | (simp [go_sem, *, World.cell?_alloc_past]; done) | exact keepc2 (by assumption) (by assumption))
    (first
      | (go_at_call 94; refine (trim_any p n nc xs _ hA.len hA.cap hA.bnd ?_).mono ?_; exact ((hA.rd.alloc _).alloc _).drew; rintro e w' ⟨rfl, rfl⟩)
      | (go_at_call 168; refine (clone_any p (tlen xs) nc (tr xs) _ (length_tr xs) (by omega) ?_).mono ?_; exact ((hA.rd.tr.alloc _).alloc _).drew; rintro e w' ⟨rfl, rfl⟩)
      | (go_at_call 99; refine (number_any (!s) (some ⟨w.heap.size + 1 + 1, 0, none⟩) (tlen xs) (tlen xs) (tr xs) _ (length_tr xs) (Nat.le_refl _) (by unfold maxLen; omega) ?_).mono ?_; exact (Row.new2 w _ _ _ _ _).drew.rd_all; rintro e w1 ⟨rfl, hb⟩; obtain ⟨c0, c1, f0, f1⟩ := resbox (r := w.heap.size + 1) (u := .bool false) (v := .slice none 0 0) hb (by simp [go_sem, World.cell?_alloc_past]) (by simp [go_sem, World.cell?_alloc_past]) (by simp [go_sem]) (by simp [go_sem])))
  go_wp2
  refine bodyPost_ret (v := .agg #[.bool (nsg (!s) (tr xs)), .slice (nad (some ⟨w.heap.size + 1 + 1, 0, none⟩) (tr xs)) (tlen (tr xs)) (tlen (tr xs))]) (by simp [results, Tryz.results180, go_sem, c0, c1]) rfl ⟨_, _, _, tr (tr xs), rfl, ?_, ?_, ?_⟩
  · rw [← ival_tr (!s) xs]
    exact ((((ni_number (B := w.heap.size + 1 + 1) (!s) (Row.new2 w _ _ _ _ _).drew.rd_all (u32_tr hA.u) (from_new (Nat.le_refl _)) ((Row.new2 w _ _ _ _ _).drew.fz 0)).below hb).set (by simp) _).set (by simp) _).mono (by omega)
  · rw [tlen_tr]; omega
  · exact ((((((Below.refl _ _).alloc (Nat.le_refl _) _).alloc (by simp) _).alloc (by simp; omega) _).drew.trans (hb.mono (by simp; omega))).setCell (by simp) _).setCell (by simp) _
theorem EV.bd {w : World} {K : Nat} {z : Int} {e : Ent} (h : EV w K z e) : (z.natAbs : Int) < pw K := by
  obtain ⟨xs, h1, h2, h3⟩ := h
  have h4 := h1.lt e.s
  rw [h2] at h4
  have := pw_mono h3
  omega
theorem pow_bd {z : Int} {L : Nat} (h : (z.natAbs : Int) < pw L) : ∀ j, ((z ^ j).natAbs : Int) ≤ pw (L * j)
  | 0 => by simp [pw]
  | j + 1 => by
    rw [Int.pow_succ, Int.natAbs_mul, Int.natCast_mul, Nat.mul_succ, pw_add]
    exact Int.mul_le_mul (pow_bd h j) (by omega) (by omega) (Int.le_of_lt (pw_pos _))
theorem pow_bd1 {z : Int} {L : Nat} (h : (z.natAbs : Int) < pw L) (j : Nat) : ((z ^ j).natAbs : Int) < pw (L * j + 1) := by
  have h1 := pow_bd h j
  have h2 : pw (L * j + 1) = 4294967296 * pw (L * j) := pw_succ _
  have h3 := pw_pos (L * j)
  omega
theorem len16 : ∀ n, n < 17 → n / 2 ^ Lib.bitLen n = 0 ∧ Lib.bitLen n ≤ 5 := by decide
set_option maxRecDepth 100000 in
theorem raise_any {w : World} {L n : Nat} {z : Int} {e : Ent} (h : EV w L z e) (hL : L ≤ 4) (hn : n ≤ 16) :
    Calls Tryz.prog 105 #[.agg #[.bool e.s, .slice e.p e.n e.c], .int .i64 n] w fun r w' => ∃ f : Ent, r = .returned (.agg #[.bool f.s, .slice f.p f.n f.c]) ∧ NV w.heap.size w' (L * n + 1) (z ^ n) f ∧ Below w.heap.size w w' := by
  have hW : Below w.heap.size w ((w.alloc (.cells #[.bool e.s, .slice e.p e.n e.c] 24)).alloc (.cells #[.bool false, .slice none 0 0] 24)) := ((Below.refl _ _).alloc (Nat.le_refl _) _).alloc (by simp) _
  have hA : Bx ((w.alloc (.cells #[.bool e.s, .slice e.p e.n e.c] 24)).alloc (.cells #[.bool false, .slice none 0 0] 24)) w.heap.size (.bool e.s) (.slice e.p e.n e.c) := Bx.alloc (Bx.new _ _ _ rfl) _
  have hR : Bx ((w.alloc (.cells #[.bool e.s, .slice e.p e.n e.c] 24)).alloc (.cells #[.bool false, .slice none 0 0] 24)) (w.heap.size + 1) (.bool false) (.slice none 0 0) := Bx.new _ _ _ (by simp)
  have hE := h.below hW
  clear h
  go_enter Tryz.func105, Tryz.ntmps105
  go_wp2_with fail
  generalize (w.alloc (.cells #[.bool e.s, .slice e.p e.n e.c] 24)).alloc (.cells #[.bool false, .slice none 0 0] 24) = W at *
  go_fit (Of_e 1 W (by decide) (by decide))
  rintro r w1 ⟨u, rfl, hN1, hb1⟩
  have hlen := Len_any (n : Int)
  have hO := Bx.new (w := w1) (.bool u.s) (.slice u.p u.n u.c) 24 rfl
  have hal := bel_al (o := .cells #[.bool u.s, .slice u.p u.n u.c] 24) (Below.refl w1.heap.size w1)
  have sW1 := hb1.size
  go_wp2_with fail
  go_fit (hlen _ (by omega) (by omega))
  rintro r w2 ⟨rfl, hw⟩
  subst w2
  clear hlen
  generalize w1.alloc (.cells #[.bool u.s, .slice u.p u.n u.c] 24) = W1 at *
  obtain ⟨hB0, hB5⟩ := len16 n (by omega)
  have hzb := hE.bd
  have HI : Hid (Below W.heap.size W W1 ∧ NV W.heap.size W1 1 1 u) := ⟨bnext' hb1 hal, (hN1.fit (by decide)).below hal⟩
  have HW : Hid (Below w.heap.size w W ∧ Bx W w.heap.size (.bool e.s) (.slice e.p e.n e.c) ∧ Bx W (w.heap.size + 1) (.bool false) (.slice none 0 0) ∧ EV W L z e ∧ W.heap.size ≤ w1.heap.size) := ⟨hW, hA, hR, hE, sW1⟩
  have HO : Hid (Bx W1 w1.heap.size (.bool u.s) (.slice u.p u.n u.c)) := hO
  clear hN1 hb1 hal hW hA hR hE sW1 hO
  generalize hb : Lib.bitLen n = b at *
  generalize w1.heap.size = g at *
  have w0 : wrap64 ((b : Int) - 1) = (b : Int) - 1 := by unfold wrap64; omega
  go_wp2_with fail
  go_loopw [6] (fun iv wr => ∃ k : Nat, k ≤ b ∧ iv = .int .i64 ((k : Int) - 1) ∧ Hid (Below W.heap.size W wr ∧ ∃ f, Bx wr g (.bool f.s) (.slice f.p f.n f.c) ∧ NV W.heap.size wr (L * (n / 2 ^ k) + 1) (z ^ (n / 2 ^ k)) f)) (fun iv _ => (intOf iv + 1).toNat)
  case atStart => exact ⟨b, Nat.le_refl _, by go_num, HI.out.1, u, HO.out, by rw [hB0, Int.pow_zero, Nat.mul_zero]; exact HI.out.2⟩
  case round =>
    obtain ⟨k, hk, rfl, G⟩ := hrel
    obtain ⟨gB, f, gX, gN⟩ := G.out
    obtain ⟨hW, hA, hR, hE, hg⟩ := HW.out
    have sR : w.heap.size + 1 < W.heap.size := block_lt_of_cell hR.c0
    rcases Nat.eq_zero_or_pos k with h0 | h0
    · subst h0
      rw [Nat.pow_zero, Nat.div_one] at gN
      obtain ⟨c0, c1, -, -⟩ := gX
      obtain ⟨r0, r1, f0, f1⟩ := hR.later gB
      have HF : Hid (NV W.heap.size wr (L * n + 1) (z ^ n) f ∧ Below w.heap.size w wr ∧ w.heap.size ≤ W.heap.size) := ⟨gN, bnext' hW gB, hW.size⟩
      clear gN gB hW hA hR hE G
      go_wp2
      refine bodyPost_ret (v := .agg #[.bool f.s, .slice f.p f.n f.c]) (by simp [results, Tryz.results105, go_sem, r0, r1]) rfl ⟨f, rfl, ?_, ?_⟩
      · exact (HF.out.1.set2 (g := w.heap.size + 1) (o := 0) sR _ _).mono HF.out.2.2
      · exact bset2 HF.out.2.1 (by omega) _ _
    · obtain ⟨t, rfl⟩ : ∃ t, k = t + 1 := ⟨k - 1, by omega⟩
      have hq : n / 2 ^ (t + 1) ≤ 16 := Nat.le_trans (Nat.div_le_self _ _) hn
      have hKK : L * (n / 2 ^ (t + 1)) + 1 ≤ 65 := by have := Nat.mul_le_mul hL hq; omega
      have hm1 := Mul_ev (gN.ev (by omega)) (gN.ev (by omega)) (by omega)
      have hbit := bit_of n t (by omega)
      have H2 : Hid (n / 2 ^ t = 2 * (n / 2 ^ (t + 1)) + n / 2 ^ t % 2) := bit_step n t
      obtain ⟨c0, c1, f0, f1⟩ := id gX
      have j1 : (0 : Int) ≤ (t : Int) + 1 - 1 := by omega
      have j2 : ¬ ((t : Int) + 1 - 1 < 0) := by omega
      have v2 : (t : Int) + 1 - 1 = (t : Int) := by omega
      have v3 : wrap64 ((t : Int) - 1) = (t : Int) - 1 := by unfold wrap64; omega
      have HG : Hid (Bx wr g (.bool f.s) (.slice f.p f.n f.c) ∧ Below W.heap.size W wr) := ⟨gX, gB⟩
      clear gN gX
      generalize hy : n / 2 ^ (t + 1) = y at *
      clear hy
      go_wp2_with fail
      go_fit hm1
      rintro r v1 ⟨u1, rfl, hN1, hb1⟩
      have gX1 := HG.out.1.later hb1
      have sg : g < v1.heap.size := block_lt_of_cell gX1.c0
      have sgw : g < wr.heap.size := block_lt_of_cell HG.out.1.c0
      obtain ⟨d0, d1, e0, e1⟩ := id gX1
      have hS : Hid (Bx ((v1.setCell ⟨g, 0, none⟩ (.bool u1.s)).setCell ⟨g, 1, none⟩ (.slice u1.p u1.n u1.c)) g (.bool u1.s) (.slice u1.p u1.n u1.c) ∧ Below W.heap.size W ((v1.setCell ⟨g, 0, none⟩ (.bool u1.s)).setCell ⟨g, 1, none⟩ (.slice u1.p u1.n u1.c)) ∧ NV W.heap.size ((v1.setCell ⟨g, 0, none⟩ (.bool u1.s)).setCell ⟨g, 1, none⟩ (.slice u1.p u1.n u1.c)) (L * (2 * y) + 1) (z ^ (2 * y)) u1) := by
        refine ⟨Bx_set gX1, bset2 (bnext' HG.out.2 hb1) hg _ _, ?_⟩
        have h3 := (hN1.set2 (g := g) (o := 0) sgw (.bool u1.s) (.slice u1.p u1.n u1.c)).mono HG.out.2.size
        have e3 : z ^ y * z ^ y = z ^ (2 * y) := by rw [← Int.pow_add, Nat.two_mul]
        rw [e3] at h3
        exact h3.fit (pow_bd1 hzb _)
      clear hN1 hb1 gX1 hm1 c0 c1 f0 f1
      rcases Nat.mod_two_eq_zero_or_one (n / 2 ^ t) with hb2 | hb2
      · rw [hb2] at hbit
        have hq2 : (bits BinOp.and IntKind.i64 ((n : Int) / 2 ^ t) 1 == 1) = false := by rw [hbit]; rfl
        have H3 : Hid (n / 2 ^ t = 2 * y) := by have := H2.out; show _ = _; omega
        clear hbit hb2 H2
        go_wp2_with fail
        exact ⟨⟨t, by omega, rfl, hS.out.2.1, u1, hS.out.1, by rw [H3.out]; exact hS.out.2.2⟩, by simp [intOf]⟩
      · rw [hb2] at hbit
        have hq2 : (bits BinOp.and IntKind.i64 ((n : Int) / 2 ^ t) 1 == 1) = true := by rw [hbit]; rfl
        have H3 : Hid (n / 2 ^ t = 2 * y + 1) := by have := H2.out; show _ = _; omega
        have hq3 : 2 * y + 1 ≤ 16 := by rw [← H3.out]; exact Nat.le_trans (Nat.div_le_self _ _) hn
        have hK3 : L * (2 * y) + 1 ≤ 65 := by have := Nat.mul_le_mul hL (show 2 * y ≤ 16 by omega); omega
        obtain ⟨sX, sB, sN⟩ := hS.out
        obtain ⟨x0, x1, x2, x3⟩ := id sX
        obtain ⟨a0, a1, -, -⟩ := hA.later sB
        have hm2 := Mul_ev (sN.ev (by omega)) (hE.below sB) (by omega)
        have HS : Hid (Bx ((v1.setCell ⟨g, 0, none⟩ (.bool u1.s)).setCell ⟨g, 1, none⟩ (.slice u1.p u1.n u1.c)) g (.bool u1.s) (.slice u1.p u1.n u1.c) ∧ Below W.heap.size W ((v1.setCell ⟨g, 0, none⟩ (.bool u1.s)).setCell ⟨g, 1, none⟩ (.slice u1.p u1.n u1.c))) := ⟨sX, sB⟩
        clear hbit hb2 H2 sN sX sB hS
        go_wp2_with fail
        generalize (v1.setCell ⟨g, 0, none⟩ (.bool u1.s)).setCell ⟨g, 1, none⟩ (.slice u1.p u1.n u1.c) = S1 at *
        go_fit hm2
        rintro r v2' ⟨u2, rfl, hN2, hb2⟩
        have gX2 := HS.out.1.later hb2
        have sg2 : g < S1.heap.size := block_lt_of_cell HS.out.1.c0
        obtain ⟨y0, y1, y2, y3⟩ := id gX2
        have hS : Hid (Bx ((v2'.setCell ⟨g, 0, none⟩ (.bool u2.s)).setCell ⟨g, 1, none⟩ (.slice u2.p u2.n u2.c)) g (.bool u2.s) (.slice u2.p u2.n u2.c) ∧ Below W.heap.size W ((v2'.setCell ⟨g, 0, none⟩ (.bool u2.s)).setCell ⟨g, 1, none⟩ (.slice u2.p u2.n u2.c)) ∧ NV W.heap.size ((v2'.setCell ⟨g, 0, none⟩ (.bool u2.s)).setCell ⟨g, 1, none⟩ (.slice u2.p u2.n u2.c)) (L * (2 * y + 1) + 1) (z ^ (2 * y + 1)) u2) := by
          refine ⟨Bx_set gX2, bset2 (bnext' HS.out.2 hb2) hg _ _, ?_⟩
          have h3 := (hN2.set2 (g := g) (o := 0) sg2 (.bool u2.s) (.slice u2.p u2.n u2.c)).mono HS.out.2.size
          rw [← Int.pow_succ] at h3
          exact h3.fit (pow_bd1 hzb _)
        clear hN2 hb2 gX2 hm2 x0 x1 x2 x3 a0 a1 HS
        go_wp2_with fail
        exact ⟨⟨t, by omega, rfl, hS.out.2.1, u2, hS.out.1, by rw [H3.out]; exact hS.out.2.2⟩, by simp [intOf]⟩
section
variable {w w' : World} {g : Nat} {t : TypeId} {es : List Ent}
end
shelf_lay_g SlLaysE0.n41 Slgn 41 at Tryz 162 as Tryz.clonePoly
theorem Neg_ev {w : World} {K : Nat} {x : Int} {e : Ent} (h : EV w K x e) : Calls Tryz.prog 180 #[.agg #[.bool e.s, .slice e.p e.n e.c]] w fun r w' => ∃ u : Ent, r = .returned (.agg #[.bool u.s, .slice u.p u.n u.c]) ∧ NV w.heap.size w' K (-x) u ∧ Below w.heap.size w w' := by
  obtain ⟨xs, h1, rfl, h3⟩ := h
  refine (Neg_any e.s e.p e.n e.c xs w h1).mono ?_
  rintro r w' ⟨s', p', n', zs, g1, g2, g3, g4⟩
  have e1 : ival (!e.s) xs = -ival e.s xs := by cases e.s <;> simp [ival]
  rw [e1] at g2
  exact ⟨⟨s', p', n', n'⟩, g1, ⟨zs, g2, rfl, by show n' ≤ _; omega⟩, g4⟩
theorem pb_le {w : World} {K : Nat} {p : Option Addr} {n nc : Nat} {es : List Ent} {zs : List Int} (h : PA w K p n nc es zs) (hn : n ≤ 1000000) : pb zs ≤ 32 * K := by
  have := pb_le_of zs (32 * K) (fun j hj => zb_le (h.ev j (by rw [← h.zl]; exact hj))) zs.length (Nat.le_refl _)
  rwa [List.take_length] at this
theorem NV_st3 {B F : Nat} {w : World} {K : Nat} {z : Int} {e : Ent} {a : Addr} {v : Value} (hF : Go.Proofs.YtifebbacnlhggaaGreatDoor.From F e.p) (ha : a.block < F) (h : NV B w K z e) : NV B (w.setCell a v) K z e := by
  obtain ⟨xs, h1, h2⟩ := h
  exact ⟨xs, NI_st3 hF ha h1, h2⟩
theorem NV.ltb {B : Nat} {w : World} {K : Nat} {z : Int} {e : Ent} (h : NV B w K z e) : ∀ x, e.p = some x → x.block < w.heap.size := by
  obtain ⟨xs, h1, -⟩ := h
  exact h1.lt
theorem NV.frm {B : Nat} {w : World} {K : Nat} {z : Int} {e : Ent} (h : NV B w K z e) : Go.Proofs.YtifebbacnlhggaaGreatDoor.From B e.p := by
  obtain ⟨xs, h1, -⟩ := h
  exact h1.fr
theorem unNV {w v : World} {K : Nat} {z : Int} {e : Ent} (h : NV w.drew.heap.size v K z e) : NV w.heap.size v K z e := h
open Go.RowKit Go.Shelf
attribute [local go_sem] Oper.semAt_some
end Go.Proofs.YtifebbacnlhggaaGreatDoor
