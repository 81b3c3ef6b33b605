/-
  upoly: (prime).divisor.
-/
import Derived.Test.YtkjpeehbhmcojaaGreatDoorUyUzUr
import Derived.Deep.DeepFit
import Derived.Deep.RegionHeld3
import Derived.Test.YtkjpeehbhmcojaaGreatDoorUoDmVtAfBpBnBoAhAdBsDtAgWvUhAiRzVd
namespace Go.Proofs.YtkjpeehbhmcojaaGreatDoor
open Go.RowKit
set_option linter.unusedVariables false
set_option linter.unusedSimpArgs false
set_option maxHeartbeats 8000000
def dvs (m : Int) (iv : Int → Int) : Nat → List Int → Nat → List Int → Nat → List Int × Nat
  | 0, A, na, _, _ => (A, na)
  | f + 1, A, na, B, nb => if nb = 0 then (A, na) else
      dvs m iv f ((B.take nb).map (· * iv (gx B (nb - 1)) % m)) nb (rrest m ((B.take nb).map (· * iv (gx B (nb - 1)) % m)) (nb - 1) (na - (nb - 1)) A)
        (tlen ((rrest m ((B.take nb).map (· * iv (gx B (nb - 1)) % m)) (nb - 1) (na - (nb - 1)) A).take (min (nb - 1) na)))
theorem Res.take {m : Int} {xs : List Int} (h : Res m xs) (n : Nat) : Res m (xs.take n) := fun j => by
  rcases Nat.lt_or_ge j n with hj | hj
  · rw [gx_take _ _ _ hj]; exact h j
  · have h0 := h xs.length
    rw [gx_past xs xs.length (Nat.le_refl _) _ (Nat.le_refl _)] at h0
    rw [gx_past (xs.take n) n (by simp; omega) j hj]
    exact h0
theorem Res.scaled {m c : Int} {xs : List Int} (hm : 2 ≤ m) : Res m (xs.map (· * c % m)) := fun j => by
  rw [gx_map0 (· * c % m) (by simp)]
  exact ⟨Int.emod_nonneg _ (by omega), Int.emod_lt_of_pos _ (by omega)⟩
structure DV (B0 : Nat) (wr : World) (m : Int) (ga na ca : Nat) (A : List Int) (gb nb cb : Nat) (B : List Int) : Prop where
  ra : Row wr ga 94 .u64 A
  rb : Row wr gb 94 .u64 B
  ne : ga ≠ gb
  fa : B0 ≤ ga
  fb : B0 ≤ gb
  la : na ≤ A.length
  lb : nb ≤ B.length
  sa : Res m A
  sb : Res m B
set_option maxRecDepth 100000 in
theorem divisor_res (B0 : Nat) (m : Nat) (ga na ca : Nat) (A : List Int) (gb nb cb : Nat) (B : List Int) (w : World) (h : DV B0 w m ga na ca A gb nb cb B) (hB0 : B0 ≤ w.heap.size) (hca : na ≤ ca) (hcb : nb ≤ cb) (hca2 : ca ≤ 100000) (hcb2 : cb ≤ 100000) (hm : 2 ≤ m) (hm2 : m ≤ 2147483647) (F : Nat) (hF : nb ≤ F) :
    Calls Tryz.prog 80 #[.int .u64 m, .slice (some ⟨ga, 0, none⟩) na ca, .slice (some ⟨gb, 0, none⟩) nb cb] w fun e w' => ∃ g c D nd, dvs m (fun a => a ^ (m - 2) % m) F A na B nb = (D, nd) ∧ e = .returned (.slice (some ⟨g, 0, none⟩) nd c) ∧ Row w' g 94 .u64 D ∧ Res m D ∧ nd ≤ D.length ∧ B0 ≤ g ∧ Below B0 w w' := by
  generalize hiv : (fun a : Int => a ^ (m - 2) % (m : Int)) = iv
  have hivb : ∀ a, 0 ≤ iv a ∧ iv a < m := fun a => by rw [← hiv]; exact ⟨Int.emod_nonneg _ (by omega), Int.emod_lt_of_pos _ (by omega)⟩
  have HIV : Hid (∀ a : Int, a ^ (m - 2) % (m : Int) = iv a) := fun a => by rw [← hiv]
  clear hiv
  have HD : Hid (DV B0 w m ga na ca A gb nb cb B) := h
  clear h
  go_enter Tryz.func80, Tryz.ntmps80
  go_wp2_with fail
  go_loopw [1, 2] (fun av bv wr => ∃ (f ga' na' ca' gb' nb' cb' : Nat) (A' B' : List Int), av = .slice (some ⟨ga', 0, none⟩) na' ca' ∧ bv = .slice (some ⟨gb', 0, none⟩) nb' cb' ∧ nb' ≤ f ∧ na' ≤ ca' ∧ nb' ≤ cb' ∧ ca' ≤ 100000 ∧ cb' ≤ 100000 ∧ Hid (DV B0 wr m ga' na' ca' A' gb' nb' cb' B' ∧ dvs m iv f A' na' B' nb' = dvs m iv F A na B nb ∧ Below B0 w wr)) (fun _ bv _ => match bv with | .slice _ n _ => n | _ => 0)
  case atStart => exact ⟨F, ga, na, ca, gb, nb, cb, A, B, rfl, rfl, hF, hca, hcb, hca2, hcb2, HD.out, rfl, Below.refl _ _⟩
  case round =>
    clear HD hca hcb hca2 hcb2
    obtain ⟨f, ga', na', ca', gb', nb', cb', A', B', rfl, rfl, hf, hca, hcb, hca2, hcb2, H⟩ := hrel
    rcases Nat.eq_zero_or_pos nb' with h0 | h0
    · subst h0
      obtain ⟨hd, he, hb⟩ := H.out
      have he' : dvs m iv F A na B nb = (A', na') := by
        rw [← he]
        cases f with
        | zero => rfl
        | succ f => rw [dvs, if_pos rfl]
      have HE : Hid (DV B0 wr m ga' na' ca' A' gb' 0 cb' B' ∧ dvs m iv F A na B nb = (A', na') ∧ Below B0 w wr) := ⟨hd, he', hb⟩
      clear H hd he hb he'
      go_wp2
      go_ret
      obtain ⟨hd, he, hb⟩ := HE.out
      exact ⟨ga', ca', A', na', he, rfl, hd.ra, hd.sa, hd.la, hd.fa, hb⟩
    · have hp : (0 : Int) < (nb' : Int) := by omega
      obtain ⟨hd, he, hb⟩ := H.out
      obtain ⟨f, rfl⟩ : ∃ k, f = k + 1 := ⟨f - 1, by omega⟩
      rw [dvs, if_neg (by omega)] at he
      have hc := hd.rb.cell (nb' - 1) (by have := hd.lb; omega)
      obtain ⟨x0, x1⟩ := hd.sb (nb' - 1)
      have hi1 : (nb' : Int) - 1 = ((nb' - 1 : Nat) : Int) := by omega
      have hi2 : ((nb' - 1 : Nat) : Int) < (nb' : Int) := by omega
      have hi3 : IntKind.i64.wrap ((nb' - 1 : Nat) : Int) = ((nb' - 1 : Nat) : Int) := by rw [IntKind.wrap_i64]; omega
      obtain ⟨i0, i1⟩ := hivb (gx B' (nb' - 1))
      have HI : Hid (DV B0 wr m ga' na' ca' A' gb' nb' cb' B' ∧ Below B0 w wr) := ⟨hd, hb⟩
      have HE := (show Hid _ from he)
      clear H hd he hb
      have hiv := inverse_any m (gx B' (nb' - 1)) wr hm hm2 x0 x1
      rw [HIV.out] at hiv
      go_wp2_with fail
      refine hiv.mono ?_
      rintro e w1 ⟨rfl, rfl⟩
      clear hiv
      have hd := HI.out.1
      go_wp2_with fail
      refine (scaled_any _ nb' cb' (B'.take nb') m (iv (gx B' (nb' - 1))) _ (by have := hd.lb; simp; omega) (by omega) (hd.rb.rd_take nb') (hd.sb.take nb') (by omega) (by omega) i0 i1).mono ?_
      rintro e w1 ⟨rfl, hr1, hb1⟩
      have hra := hd.ra.below hb1 hd.ra.lt
      have hlt := hd.ra.lt
      generalize hS : (B'.take nb').map (· * iv (gx B' (nb' - 1)) % (m : Int)) = S at *
      have hSl : S.length = nb' := by rw [← hS]; have := hd.lb; simp; omega
      have hSr : Res m S := by rw [← hS]; exact Res.scaled (by omega)
      have HS := (show Hid _ from hS)
      have HR : Hid (Row w1 wr.heap.size 94 .u64 S ∧ Row w1 ga' 94 .u64 A' ∧ Below wr.heap.size wr w1 ∧ Res m S) := ⟨hr1, hra, hb1, hSr⟩
      clear hS hd hr1 hra hb1 hSr hc
      have hrest := rest_any ga' na' ca' A' (some ⟨wr.heap.size, 0, none⟩) (nb' - 1) nb' nb' S m w1 (by omega) HI.out.1.la hca (by omega) HR.out.2.1 HI.out.1.sa hSl (by omega) HR.out.1.rd_all HR.out.2.2.2 (fun a ha => by cases ha; exact Nat.ne_of_gt hlt) (by omega) (by omega)
      go_wp2_with fail
      refine hrest.mono ?_
      rintro e w2 ⟨rfl, hr2, hg2⟩
      clear hrest
      generalize hT : rrest m S (nb' - 1) (na' - (nb' - 1)) A' = T at *
      have HT := (show Hid _ from hT)
      have hTl : tlen (T.take (min (nb' - 1) na')) ≤ nb' - 1 := Nat.le_trans (tlen_le _) (by simp; omega)
      have hTl2 : tlen (T.take (min (nb' - 1) na')) ≤ na' := Nat.le_trans (tlen_le _) (by simp; omega)
      have HG : Hid (Row w2 ga' 94 .u64 T ∧ w1.grownBy w2 (some ga')) := ⟨hr2, hg2⟩
      generalize hN : tlen (T.take (min (nb' - 1) na')) = N at *
      have HN := (show Hid _ from hN)
      clear hT hr2 hg2 hN
      go_wp2
      go_roundw
      case rel =>
        obtain ⟨hd, hb⟩ := HI.out
        obtain ⟨r1, r2, r3, r4⟩ := HR.out
        obtain ⟨t1, t2⟩ := HG.out
        have hsz := hb.size
        have hla := hd.la
        refine ⟨f, wr.heap.size, nb', nb', ga', N, ca', S, T, rfl, rfl, by omega, Nat.le_refl _, by omega, by omega, hca2, ⟨r1.kept t2 (by simp; omega), t1, by omega, by omega, hd.fa, by omega, ?_, r4, ?_⟩, ?_, ?_⟩
        · rw [← HT.out, length_rrest]; omega
        · rw [← HT.out]; exact Res.rrest (by omega) _ hd.sa
        · exact HE.out
        · exact below_grown (hb.trans (r3.mono (by omega))) t2 (by have := r3.size; omega) hd.fa
      case measure => show N < nb'; omega
theorem pow2_any (x : Nat) (h : x = 31 * 69273665 + 30) : (2 : Int) ^ x % 2147483647 = 1073741824 := by
  have e31 : (2 : Int) ^ 31 % 2147483647 = 1 := by decide
  have e30 : (2 : Int) ^ 30 % 2147483647 = 1073741824 := by decide
  have e1 : ((2 : Int) ^ 31) ^ 69273665 % 2147483647 = 1 := by
    rw [← pow_emod, e31, Int.one_pow]
    decide
  rw [h, Int.pow_add, Int.pow_mul, Int.mul_emod, e1, e30]
  decide
theorem dvs_start (iv : Int → Int) (h : iv 2 = 1073741824) : dvs 2147483647 iv 2 [1, 4, 4] 3 [1, 2] 2 = ([1073741824, 1], 2) := by
  rw [dvs, if_neg (by decide), show gx [1, 2] (2 - 1) = 2 from rfl, h]
  have e1 : (List.take 2 [(1 : Int), 2]).map (· * 1073741824 % 2147483647) = [1073741824, 1] := by decide
  rw [e1]
  have e2 : rrest 2147483647 [1073741824, 1] (2 - 1) (3 - (2 - 1)) [1, 4, 4] = [0, 2, 4] := by decide
  rw [e2]
  have e3 : tlen (List.take (min (2 - 1) 3) [(0 : Int), 2, 4]) = 0 := by decide
  rw [e3, dvs, if_pos rfl]
theorem dvs_at (mm : Nat) (h : mm = 2147483647) : dvs (mm : Int) (fun a => a ^ (mm - 2) % (mm : Int)) 2 [1, 4, 4] 3 [1, 2] 2 = ([1073741824, 1], 2) := by
  have e : (mm : Int) = 2147483647 := by omega
  have hiv : (fun a : Int => a ^ (mm - 2) % (mm : Int)) 2 = 1073741824 := by
    show (2 : Int) ^ (mm - 2) % (mm : Int) = _
    rw [e]
    exact pow2_any (mm - 2) (by omega)
  generalize (fun a : Int => a ^ (mm - 2) % (mm : Int)) = iv at *
  rw [e]
  exact dvs_start iv hiv
theorem res_map (m : Int) (zs : List Int) (hm : 2 ≤ m) : Res m (zs.map (· % m)) := fun j => by
  rw [gx_map0 (· % m) (by simp)]
  exact ⟨Int.emod_nonneg _ (by omega), Int.emod_lt_of_pos _ (by omega)⟩
set_option maxRecDepth 100000 in
theorem prim_start {w : World} {B C K L : Nat} {p q : Option Addr} {es fs : List Ent} (h : PN B w K p 3 es [1, 4, 4]) (hb : PN C w L q 2 fs [1, 2]) (hK : K < 80) (hL : L < 80) :
    Calls Tryz.prog 39 #[.slice p (3 : Nat) (3 : Nat), .slice q (2 : Nat) (2 : Nat)] w fun r w' => r = .returned (.slice q (2 : Nat) (2 : Nat)) ∧ Below w.heap.size w w' := by
  obtain ⟨n, hn⟩ : ∃ n : Nat, n = 3 := ⟨_, rfl⟩
  obtain ⟨m, hm⟩ : ∃ m : Nat, m = 2 := ⟨_, rfl⟩
  obtain ⟨i, hi⟩ : ∃ i : Nat, i = 2 := ⟨_, rfl⟩
  obtain ⟨j, hj⟩ : ∃ j : Nat, j = 1 := ⟨_, rfl⟩
  rw [← hn] at h ⊢
  rw [← hm] at hb ⊢
  obtain ⟨c1, o1, hp, hc⟩ := h.pl (by rw [h.el]; omega)
  obtain ⟨x0, x1⟩ := hc i (by rw [h.el]; omega)
  obtain ⟨c2, o2, hq, hd⟩ := hb.pl (by rw [hb.el]; omega)
  obtain ⟨d0, d1⟩ := hd j (by rw [hb.el]; omega)
  subst hp hq
  have hx := (h.ev i (by omega)).ev (by omega)
  have hy := (hb.ev j (by omega)).ev (by omega)
  have e24 : ((Int.gcd (gx [1, 4, 4] i) (gx [1, 2] j) : Nat) : Int) = 2 := by rw [hi, hj]; decide
  have E24 := (show Hid _ from e24)
  have hlg : c1 < w.heap.size := block_lt_of_cell x0
  have hlb : c2 < w.heap.size := block_lt_of_cell d0
  have i1 : (n : Int) - 1 = (i : Int) := by omega
  have i2 : (i : Int) < (n : Int) := by omega
  have i3 : IntKind.i64.wrap (i : Int) = (i : Int) := by rw [IntKind.wrap_i64]; omega
  have j1 : (m : Int) - 1 = (j : Int) := by omega
  have j2 : (j : Int) < (m : Int) := by omega
  have j3 : IntKind.i64.wrap (j : Int) = (j : Int) := by rw [IntKind.wrap_i64]; omega
  have HV : Hid (n = 3 ∧ m = 2 ∧ i = 2 ∧ j = 1) := ⟨hn, hm, hi, hj⟩
  have HP : Hid (PN B w K (some ⟨c1, o1, none⟩) n es [1, 4, 4] ∧ PN C w L (some ⟨c2, o2, none⟩) m fs [1, 2]) := ⟨h, hb⟩
  have ln : n ≤ 3 := by omega
  have lm : m ≤ 2 := by omega
  clear h hb hc hd hn hm hi hj e24
  go_enter Tryz.func39, Tryz.ntmps39
  go_wp2_with fail
  go_cut [5] (fun lv wc => ∃ (u : Ent) (g1 : Nat), lv = .pointer (some ⟨g1, 0, none⟩) ∧ Hid (Bx wc g1 (.bool u.s) (.slice u.p u.n u.c) ∧ NV w.heap.size wc 150 2 u ∧ w.heap.size ≤ g1 ∧ Below w.heap.size w wc))
  case first =>
    go_region_held3 (fun w' => w'.cell? ⟨c1, o1 + i * 2, none⟩ = some (.bool (ge es i).s) ∧ w'.cell? ⟨c1, o1 + i * 2 + 1, none⟩ = some (.slice (ge es i).p (ge es i).n (ge es i).c) ∧ w'.cell? ⟨c2, o2 + j * 2, none⟩ = some (.bool (ge fs j).s) ∧ w'.cell? ⟨c2, o2 + j * 2 + 1, none⟩ = some (.slice (ge fs j).p (ge fs j).n (ge fs j).c)) (first | with_reducible exact ⟨x0, x1, d0, d1⟩ | (refine keep4B ⟨x0, x1, d0, d1⟩ hlg hlb ?_; (repeat (first | (with_reducible exact hW1) | (with_reducible exact Below.refl _ _) | (refine Bel_al ?_ (Nat.le_refl _)) | (refine Bel_st ?_ ?_) | (refine Below.drew ?_))); all_goals ((try simp only [World.size_alloc]); (try dsimp only); omega)))
      ((go_at_call 41; go_fit (Gcd_ev (hx.below (by first | exact (Below.refl _ _).drew | exact (bel_al (Below.refl _ _)).drew)) (hy.below (by first | exact (Below.refl _ _).drew | exact (bel_al (Below.refl _ _)).drew)) (by omega) (by omega)); rintro r v1 ⟨u, rfl, hN1', hb1⟩; have hN1 := unNV hN1'; clear hN1'; have hB1 := undrew hb1; have hW1 := comp (X2 := w) (w2 := w) (Below.refl _ _) (by (repeat apply bel_al); exact Below.refl _ _) hB1; obtain ⟨hc2, hf2, hz2, -, -⟩ := brules hB1; obtain ⟨e1, e2, e3, e4⟩ := bne hB1; have t1 := hW1.size; have t1b := hB1.size))
    all_goals (go_wp2_with fail; go_meet)
    all_goals
      rw [E24.out] at hN1
      refine ⟨u, _, rfl, ?_, ?_, ?_, ?_⟩
      · (repeat (first | exact Bx_new (by simp; done) | refine Bx_set (u := .bool false) (v := .slice none 0 0) ?_ | refine Bx_oth ?_ (by have h1 := t1; have h2 := t1b; (try simp only [World.size_alloc] at h1 h2); (try simp only [World.size_alloc]); (try dsimp only); omega) | apply Bx_al)); all_goals exact ⟨by simp [go_sem, *], by simp [go_sem, *], by simp [go_sem, *], by simp [go_sem, *]⟩
      · (repeat (first | apply NV_al | refine NV_st3 hN1.frm (by have h1 := t1; have h2 := t1b; (try simp only [World.size_alloc] at h1 h2); (try simp only [World.size_alloc]); (try dsimp only); omega) ?_ | refine NV_st2 hN1.ltb (by have h1 := t1; have h2 := t1b; (try simp only [World.size_alloc] at h1 h2); (try simp only [World.size_alloc]); (try dsimp only); omega) ?_)); exact hN1.mono (by have h1 := t1; have h2 := t1b; (try simp only [World.size_alloc] at h1 h2); (try simp only [World.size_alloc]); (try dsimp only); omega)
      · have h1 := t1; have h2 := t1b; (try simp only [World.size_alloc] at h1 h2); (try simp only [World.size_alloc]); (try dsimp only); omega
      · (repeat (first | exact hW1 | refine Bel_al ?_ (Nat.le_refl _) | refine Bel_st ?_ (by have h1 := t1; have h2 := t1b; (try simp only [World.size_alloc] at h1 h2); (try simp only [World.size_alloc]); (try dsimp only); omega)))
  case rest =>
    obtain ⟨u, g1, rfl, HG⟩ := hcut
    clear x0 x1 d0 d1 hx hy
    obtain ⟨mm, hmm⟩ : ∃ mm : Nat, mm = 2147483647 := ⟨_, rfl⟩
    have HMM : Hid (mm = 2147483647) := hmm
    have e0 : (2147483647 : Int) = (mm : Int) := by omega
    have l0 : mm ≤ 2147483647 := by omega
    have l1 : 2147483647 ≤ mm := by omega
    clear hmm
    go_wp2_with fail
    rw [e0]
    clear e0
    have HW : Hid (Below w.heap.size w wc) := HG.out.2.2.2
    go_loopw [6, 7, 8, 9, 10] (fun fv mv sv dv gv wr => fv = .pointer none ∧ mv = .int .u64 (mm : Int) ∧ Hid (Below wc.heap.size wc wr)) (fun _ _ _ _ _ _ => 0)
    case atStart => exact ⟨rfl, rfl, Below.refl _ _⟩
    case round =>
      obtain ⟨rfl, rfl, H⟩ := hrel
      have hB0 := H.out
      obtain ⟨q0, q1, -, -⟩ := HG.out.1.later hB0
      have hu := (HG.out.2.1.below hB0).ev (by omega)
      have hof := of_ev hu (mm : Int) (by omega) (by omega)
      have e1 : (2 : Int) % (mm : Int) = 2 := by rw [Int.emod_eq_of_lt (by omega) (by omega)]
      rw [e1] at hof
      have hB1 := bnext' HW.out hB0
      clear hu hB0
      go_wp2_with fail
      refine hof.mono ?_
      rintro r w1 ⟨rfl, hb1⟩
      clear hof q0 q1 e1
      have hB2 := bnext' hB1 hb1
      have hPa := (HP.out.1.below hB2).pa (by omega) (by omega)
      have hPb := (HP.out.2.below hB2).pa (by omega) (by omega)
      have hra := residues_any hPa (by omega) (mm : Int) (by omega) (by omega)
      have ea : ([1, 4, 4] : List Int).map (· % (mm : Int)) = [1, 4, 4] := by rw [HMM.out]; decide
      have eb : ([1, 2] : List Int).map (· % (mm : Int)) = [1, 2] := by rw [HMM.out]; decide
      have ta : tlen [1, 4, 4] = n := by rw [HV.out.1]; decide
      have tb : tlen [1, 2] = m := by rw [HV.out.2.1]; decide
      rw [ea, ta] at hra
      go_wp2_with fail
      refine hra.mono ?_
      rintro r w2 ⟨rfl, hr2, hb2⟩
      clear hra
      have hrb := residues_any (hPb.below hb2) (by omega) (mm : Int) (by omega) (by omega)
      rw [eb, tb] at hrb
      go_wp2_with fail
      refine hrb.mono ?_
      rintro r w3 ⟨rfl, hr3, hb3⟩
      clear hrb
      have hdv := divisor_res w1.heap.size mm w1.heap.size n n [1, 4, 4] w2.heap.size m m [1, 2] w3 ⟨hr2.below hb3 hr2.lt, hr3, Nat.ne_of_lt hr2.lt, Nat.le_refl _, hb2.size, by rw [HV.out.1]; decide, by rw [HV.out.2.1]; decide, by rw [← ea]; exact res_map _ _ (by omega), by rw [← eb]; exact res_map _ _ (by omega)⟩ (Nat.le_trans hb2.size hb3.size) (Nat.le_refl _) (Nat.le_refl _) (by omega) (by omega) (by omega) l0 2 lm
      go_wp2_with fail
      refine hdv.mono ?_
      rintro r w4 ⟨g4, c4, D, nd, hD, rfl, hr4, -, -, -, hb4⟩
      clear hdv
      have hnd : nd = m := by
        rw [HV.out.1, HV.out.2.1, dvs_at mm HMM.out] at hD
        rw [HV.out.2.1]
        exact (congrArg Prod.snd hD).symm
      have hB4 : Below w.heap.size w w4 := (bnext' hB2 (bnext' hb2 hb3)).trans (hb4.mono hB2.size)
      have hEG : EG [1, 4, 4] [1, 2] [1, 2] n 1 2 1 := by rw [HV.out.1]; exact eg_start
      have hP2 : PB C w4 L (some ⟨c2, o2, none⟩) (1 + 1) fs [1, 2] := by have h5 := (HP.out.2.below hB4).pb (by omega); rwa [HV.out.2.1] at h5
      have hdd := divides_goes ((HP.out.1.below hB4).pb (by omega)) hP2 hEG hK hL
      rw [show 1 + 1 = m from HV.out.2.1.symm] at hdd
      have k1 : ¬ (m : Int) = 1 := by have := HV.out.2.1; omega
      have k1' : ((m : Int) == 1) = false := by rw [beq_eq_false_iff_ne]; exact k1
      have HB4 : Hid (Below w.heap.size w w4) := hB4
      clear hD hEG hP2 hb4 hB4 hr4 hr3 hr2 hb3 hb2 hPa hPb ea eb ta tb hb1 hB1 hB2
      subst hnd
      go_wp2_with fail
      refine hdd.mono ?_
      rintro r w5 ⟨rfl, hb5⟩
      clear hdd
      go_wp2
      go_ret
      exact ⟨rfl, bnext' HB4.out hb5⟩
set_option maxRecDepth 100000 in
theorem uGcd_start {w : World} {K L : Nat} {p q : Option Addr} {n nc m mc : Nat} {es fs : List Ent} (h : PA w K p n nc es [1, 4, 4]) (hb : PA w L q m mc fs [1, 2]) (hK : K < 80) (hL : L < 50) (hK1 : 1 ≤ K) (hL1 : 1 ≤ L) :
    Calls Tryz.prog 14 #[.slice p n nc, .slice q m mc] w (PnP [1, 2] (1 + L) w) := by
  have hn := h.zl
  have hm := hb.zl
  have hn9 : n ≤ 9 := by rw [← hn]; decide
  have hm9 : m ≤ 9 := by rw [← hm]; decide
  have HN : Hid (([1, 4, 4] : List Int).length = n ∧ ([1, 2] : List Int).length = m) := ⟨hn, hm⟩
  clear hn hm
  have ta : tr [1, 4, 4] = [1, 4, 4] := by decide
  have tb : tr [1, 2] = [1, 2] := by decide
  have hra := read_any K p n nc es _ w h (by omega) (by omega)
  rw [ta] at hra
  go_enter Tryz.func14, Tryz.ntmps14
  go_wp2_with fail
  refine hra.mono ?_
  rintro r w1 ⟨p1, n1, es1, rfl, h1, hb1⟩
  have hn1 := h1.zl
  have l1 : 1 ≤ n1 := by rw [← hn1]; decide
  have l2 : n1 ≤ 9 := by rw [← hn1]; decide
  clear hra hn1
  go_wp2_with fail
  refine (parts_any h1 (by omega) l1 (by omega) hK1).mono ?_
  rintro r w2 ⟨u2, p2, n2, es2, rfl, hu2, h2, hb2⟩
  have e1 : gcdl [1, 4, 4] = 1 := by decide
  have e2 : prml [1, 4, 4] = [1, 4, 4] := by decide
  rw [e1] at hu2
  rw [e2] at h2
  have hal := bel_al (o := .cells #[.bool u2.s, .slice u2.p u2.n u2.c] 47) (Below.refl w2.heap.size w2)
  have hX2 : Bx (w2.alloc (.cells #[.bool u2.s, .slice u2.p u2.n u2.c] 47)) w2.heap.size (.bool u2.s) (.slice u2.p u2.n u2.c) := Bx.new _ _ _ rfl
  have hB2 := bnext' (bnext' hb1 hb2) hal
  have hu3 := hu2.below hal
  have h3 := h2.below hal
  have hrb := read_any L q m mc fs _ (w2.alloc (.cells #[.bool u2.s, .slice u2.p u2.n u2.c] 47)) (hb.below hB2) (by omega) (by omega)
  rw [tb] at hrb
  clear h1 hb1 hb2 hal hu2 h2 e1 e2
  go_wp2_with fail
  generalize w2.alloc (.cells #[.bool u2.s, .slice u2.p u2.n u2.c] 47) = W2 at *
  refine hrb.mono ?_
  rintro r w3 ⟨p4, n4, es4, rfl, h4, hb3⟩
  have hn4 := h4.zl
  have l3 : 1 ≤ n4 := by rw [← hn4]; decide
  have l4 : n4 ≤ 9 := by rw [← hn4]; decide
  clear hrb hn4
  go_wp2_with fail
  refine (parts_any h4 (by omega) l3 (by omega) hL1).mono ?_
  rintro r w4 ⟨u5, p5, n5, es5, rfl, hu5, h5, hb4⟩
  have e1 : gcdl [1, 2] = 1 := by decide
  have e2 : prml [1, 2] = [1, 2] := by decide
  rw [e1] at hu5
  rw [e2] at h5
  have hb34 := bnext' hb3 hb4
  have hal := bel_al (o := .cells #[.bool u5.s, .slice u5.p u5.n u5.c] 47) (Below.refl w4.heap.size w4)
  have hX5 : Bx (w4.alloc (.cells #[.bool u5.s, .slice u5.p u5.n u5.c] 47)) w4.heap.size (.bool u5.s) (.slice u5.p u5.n u5.c) := Bx.new _ _ _ rfl
  have hX6 := (hX2.later hb34).later hal
  have hB6 := bnext' (bnext' hB2 hb34) hal
  have hu6 := (hu3.below hb34).below hal
  have hu7 := hu5.below hal
  have h6 := (h3.below hb34).below hal
  have h7 := h5.below hal
  have hn2 : n2 = 3 := by have := h6.zl; rw [← this]; rfl
  have hn5 : n5 = 2 := by have := h7.zl; rw [← this]; rfl
  subst hn2 hn5
  clear h3 hu3 hX2 hB2 h4 hb3 hb4 hb34 hal hu5 h5 e1 e2
  go_wp2_with fail
  generalize w4.alloc (.cells #[.bool u5.s, .slice u5.p u5.n u5.c] 47) = W4 at *
  refine (prim_start h6 h7 hK (by omega)).mono ?_
  rintro r w5 ⟨rfl, hb5⟩
  have hX8 := hX6.later hb5
  have hX9 := hX5.later hb5
  obtain ⟨q0, q1, -, -⟩ := id hX8
  obtain ⟨q2, q3, -, -⟩ := id hX9
  have hv2 := (hu6.below hb5).ev (by omega)
  have hv5 := (hu7.below hb5).ev (by omega)
  have hg := Gcd_ev hv2 hv5 (by omega) (by omega)
  have h8 := h7.below hb5
  have hB8 := bnext' hB6 hb5
  clear hX6 hX5 hu6 hu7 h6 h7 hb5 hB6
  go_wp2_with fail
  refine hg.mono ?_
  rintro r w6 ⟨v6, rfl, hv6, hb6⟩
  have hv7 : NV w5.heap.size w6 1 1 v6 := hv6.fit (by decide)
  have hs := uScale_any ((h8.below hb6).pa (by omega) (by omega)) (hv7.ev (by omega)) (by omega) (by omega) (by omega)
  have e3 : tr ((tr [1, 2]).map ((1 : Int) * ·)) = [1, 2] := by decide
  rw [e3] at hs
  have HB : Hid (Below w.heap.size w w6) := bnext' hB8 hb6
  clear hg q0 q1 q2 q3 hX8 hX9 hv6 h8 hB8 hb6 e3 hv2 hv5
  go_wp2_with fail
  refine hs.mono ?_
  rintro r w7 ⟨p8, n8, es8, rfl, h9, hb7⟩
  clear hs
  go_wp2
  go_ret
  exact PnP.from ⟨p8, n8, es8, rfl, h9, hb7⟩ HB.out
end Go.Proofs.YtkjpeehbhmcojaaGreatDoor
