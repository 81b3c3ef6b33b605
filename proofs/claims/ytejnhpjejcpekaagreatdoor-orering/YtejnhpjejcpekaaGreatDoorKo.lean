/-
  packed.Poly.
-/
import Derived.Test.YtejnhpjejcpekaaGreatDoorPrPsPtPuPvPwPxKa
import Derived.Test.YtejnhpjejcpekaaGreatDoorKnKm
import Derived.Deep.DeepFit
namespace Go.Proofs.YtejnhpjejcpekaaGreatDoor
open Go.RowKit
set_option linter.unusedVariables false
set_option linter.unusedSimpArgs false
set_option maxHeartbeats 8000000
theorem NV.ev6 {B : Nat} {w : World} {K : Nat} {z : Int} {e : Ent} (h : NV B w K z e) (hK : K ≤ 10000000) : EV w K z e := by
  obtain ⟨xs, h1, h2, h3⟩ := h
  exact ⟨xs, by rw [h2]; exact h1.ai (by omega), h1.v, h3⟩
set_option maxRecDepth 100000 in
theorem pkPoly_any {B : Nat} {w : World} {K : Nat} {z : Int} {u : Ent} (hu : NV B w K z u) (W n : Nat) (d : Nat → Int) (hW1 : 1 ≤ W) (hW : W ≤ 900) (hn : n ≤ 1000) (hn1 : 1 ≤ n) (hK : K ≤ 1000000) (hz : z = pkf W d n) (hd : ∀ j, j < n → 2 * ((d j).natAbs : Int) < pw W) (hd0 : d (n - 1) ≠ 0) :
    Calls Tryz.prog 287 #[.agg #[.bool u.s, .slice u.p u.n u.c], .int .i64 W] w fun r w' => ∃ q us, r = .returned (.slice q n n) ∧ us.length = n ∧ PL w' q us ∧ Go.Proofs.YtejnhpjejcpekaaGreatDoor.From w.heap.size q ∧ (∀ j, j < n → NV w.heap.size w' W (d j) (ge us j)) ∧ Below w.heap.size w w' := by
  have hbt : zb z / (32 * W) + 1 = n := by
    rw [hz]
    obtain ⟨k, rfl⟩ : ∃ k, n = k + 1 := ⟨n - 1, by omega⟩
    rw [pkf_bits k hW1 hd hd0]
  have hzn : z ≠ 0 := by
    rw [hz]
    obtain ⟨k, rfl⟩ : ∃ k, n = k + 1 := ⟨n - 1, by omega⟩
    have h1 := pkf_low k (fun j hj => hd j (by omega)) hd0
    have h2 := pw_pos (W * k)
    intro h3
    rw [h3] at h1
    simp at h1
    omega
  have hEV := hu.ev6 (by omega)
  obtain ⟨xs, hI, hcn, hnK⟩ := hu
  have hlt0 := hI.lt
  have hpn := hI.pn
  have hval : val xs = pkf W (sgd u.s d) n := by
    rw [pkf_sgd, ← hz, ← hI.v, ival]
    cases u.s <;> simp
  have HV : Hid (val xs = pkf W (sgd u.s d) n ∧ (∀ j, j < n → 2 * ((d j).natAbs : Int) < pw W) ∧ (u.n = 0 → u.p = none) ∧ (∀ x, u.p = some x → x.block < w.heap.size) ∧ u.c = u.n ∧ U32 xs) := ⟨hval, hd, hpn, hlt0, hcn, hI.u⟩
  have HI : Hid (AI w u.p u.n u.c xs) := by show AI _ _ _ _ _; rw [hcn]; exact hI.ai (by omega)
  clear hval hd hpn hlt0 hcn hI hz
  have hmk := mk_poly n (by omega)
  have hmu := mk_u32 W (by omega)
  obtain ⟨i0, hi, hzz⟩ := Option.map_eq_some_iff.1 info_u32
  simp only [Prod.mk.injEq] at hzz
  obtain ⟨hz0, hz1, hz2⟩ := hzz
  have g1 : (isgn z == 0) = false := by rw [beq_eq_false_iff_ne]; unfold isgn; split <;> (try split) <;> omega
  have g2 : ¬ isgn z = 0 := by unfold isgn; split <;> (try split) <;> omega
  have hal0 := bel_al (o := .cells #[.bool u.s, .slice u.p u.n u.c] 26) (Below.refl w.heap.size w)
  have hEV1 := hEV.below hal0
  have hX0 : Bx (w.alloc (.cells #[.bool u.s, .slice u.p u.n u.c] 26)) w.heap.size (.bool u.s) (.slice u.p u.n u.c) := Bx.new _ _ _ rfl
  go_enter Tryz.func287, Tryz.ntmps287
  go_wp2_with fail
  generalize w.alloc (.cells #[.bool u.s, .slice u.p u.n u.c] 26) = Wa at *
  go_fit (Sign_ev hEV1)
  rintro r wa1 ⟨rfl, hba1⟩
  have hEV2 := hEV1.below hba1
  obtain ⟨x0, x1, -, -⟩ := hX0.later hba1
  generalize isgn z = sg at *
  go_wp2_with fail
  go_fit (Bits_ev hEV2)
  rintro r wa2 ⟨rfl, hba2⟩
  have hBa := bnext' (bnext' hal0 hba1) hba2
  have hXa := (hX0.later hba1).later hba2
  have v0 : ¬ (32 : Int) * (W : Int) = 0 := by omega
  have v1 : ((zb z : Nat) : Int).tdiv (32 * (W : Int)) = ((n - 1 : Nat) : Int) := by
    rw [Int.tdiv_eq_ediv_of_nonneg (by omega)]
    have h9 : (((zb z / (32 * W) : Nat)) : Int) = ((n - 1 : Nat) : Int) := by congr 1; omega
    rw [← h9]
    push_cast
    rfl
  have v2 : ((n - 1 : Nat) : Int) + 1 = (n : Int) := by omega
  clear hbt hzn hEV hEV1 hEV2 hX0 x0 x1
  generalize zb z = zbz at *
  go_wp2_with fail
  have hb3 : Bx (wa2.alloc (.cells (ca2 (ezs n)) 26)) w.heap.size (.bool u.s) (.slice u.p u.n u.c) := hXa.alloc _
  have hr7 : Row2 (wa2.alloc (.cells (ca2 (ezs n)) 26)) wa2.heap.size 26 (ezs n) := Row2.new wa2 26 (ezs n)
  have hB0 : Below w.heap.size w (wa2.alloc (.cells (ca2 (ezs n)) 26)) := bel_al hBa
  have hs00 : w.heap.size < wa2.heap.size := block_lt_of_cell hXa.c0
  generalize wa2.alloc (.cells (ca2 (ezs n)) 26) = W0 at *
  generalize wa2.heap.size = ga at *
  refine (Of_any 1 W0 (by decide) (by decide)).mono ?_
  rintro r w1 ⟨s1, p1, n1, x1, rfl, hN1, hn1, hb1⟩
  have hal := bel_al (o := .cells #[.bool s1, .slice p1 n1 n1] 26) (Below.refl w1.heap.size w1)
  have hb8 : Bx (w1.alloc (.cells #[.bool s1, .slice p1 n1 n1] 26)) w1.heap.size (.bool s1) (.slice p1 n1 n1) := Bx.new _ _ _ rfl
  have hb3' := (hb3.later hb1).later hal
  have hr7' := (hr7.below hb1 hr7.lt).below hal (Nat.lt_of_lt_of_le hr7.lt hb1.size)
  have hB1 := bnext' (bnext' hB0 hb1) hal
  have hN1' := hN1.below hal
  have hs0 : ga < W0.heap.size := hr7.lt
  have hs1 := hb1.size
  have HO1 : Hid (NI W0.heap.size (w1.alloc (.cells #[.bool s1, .slice p1 n1 n1] 26)) s1 p1 n1 x1 1) := hN1'
  have hs2 : w1.heap.size < (w1.alloc (.cells #[.bool s1, .slice p1 n1 n1] 26)).heap.size := by simp
  clear hb3 hr7 hB0 hN1 hN1' hb1 hal
  go_upto_region 5 with fail
  generalize w1.alloc (.cells #[.bool s1, .slice p1 n1 n1] 26) = W2 at *
  have hown : (W2.alloc (.cells (ca .u32 (zeros W)) 88)).ownsRow W2.heap.size 88 1 (.slice (some ⟨W2.heap.size, 0, none⟩) W W) W ((zeros W).map (Value.int .u32)) := by
    have := World.ownsRow_lit (base := W2.heap.size) (e := 88) (size := 1) W2 (ca .u32 (zeros W)) W (Nat.le_refl _) (by unfold maxLen; omega) (by rw [size_ca, length_zeros, Nat.mul_one])
    rwa [ca_list] at this
  have HO : Hid ((W2.alloc (.cells (ca .u32 (zeros W)) 88)).ownsRow W2.heap.size 88 1 (.slice (some ⟨W2.heap.size, 0, none⟩) W W) W ((zeros W).map (Value.int .u32))) := hown
  clear hown
  go_wp2_with (refine wpList_append_lies _ rfl _ _ 24 rfl W2.heap.size 88 i0 (.int .u32 0) 1 4 Tryz.underlying24 hi hz0 hz1 hz2 rfl (by decide) (.slice (some ⟨W2.heap.size, 0, none⟩) W W) W ((zeros W).map (Value.int .u32)) rfl (HO.out.alloc _) ⟨W2.heap.size + 1, 0, none⟩ 1 1 [.int .u32 1] rfl rfl ?_ (fun x hx => by simp at hx; subst hx; rfl) (by decide) (by unfold maxLen; omega) (by omega) (by simp; omega) _ rfl ?_; (have h8 := World.news_of_block (heap_alloc_new (W2.alloc (.cells (ca .u32 (zeros W)) 88)) (.cells #[.int .u32 1] 88)); rw [World.size_alloc] at h8; exact h8); intro g cap w3 hown3 hgrow3 hat3 hlt3)
  have hB3 : Below W2.heap.size W2 w3 := (bel_al (bel_al (Below.refl _ _))).grown hgrow3 (by simp; omega) (fun q hq => (HO.out.lt q hq).1)
  have hfm := hown3.form (by simp)
  have hge : W2.heap.size ≤ g := by
    rcases hat3 with h1 | h1
    · exact (HO.out.lt g h1).1
    · rw [h1]; simp; omega
  have hb9 : Bx ((w3.alloc (.cells #[.bool false, .slice (some ⟨g, 0, none⟩) (W + 1) cap] 26)).alloc (.cells #[.bool false, .slice none 0 0] 26)) w3.heap.size (.bool false) (.slice (some ⟨g, 0, none⟩) (W + 1) cap) := (Bx.new _ _ _ rfl).alloc _
  have hb10 : Bx ((w3.alloc (.cells #[.bool false, .slice (some ⟨g, 0, none⟩) (W + 1) cap] 26)).alloc (.cells #[.bool false, .slice none 0 0] 26)) (w3.heap.size + 1) (.bool false) (.slice none 0 0) := Bx.new _ _ _ (by simp)
  have hal4 : Below w3.heap.size w3 ((w3.alloc (.cells #[.bool false, .slice (some ⟨g, 0, none⟩) (W + 1) cap] 26)).alloc (.cells #[.bool false, .slice none 0 0] 26)) := bel_al (bel_al (Below.refl _ _))
  have hsz4 : w3.heap.size + 1 < ((w3.alloc (.cells #[.bool false, .slice (some ⟨g, 0, none⟩) (W + 1) cap] 26)).alloc (.cells #[.bool false, .slice none 0 0] 26)).heap.size := by simp
  generalize (w3.alloc (.cells #[.bool false, .slice (some ⟨g, 0, none⟩) (W + 1) cap] 26)).alloc (.cells #[.bool false, .slice none 0 0] 26) = W4 at *
  have hB4 := bnext' hB3 hal4
  have hs3 := hB3.size
  have HU0 : Hid (UN w W4 w.heap.size ga w1.heap.size w3.heap.size (w3.heap.size + 1) W n 0 W u ⟨s1, p1, n1, n1⟩ ⟨false, some ⟨g, 0, none⟩, W + 1, cap⟩ ez xs d (ezs n) 0) := by
    have hcap : W + 1 ≤ cap ∧ cap ≤ maxLen := by
      rcases hown3.2 with ⟨h1, -⟩ | ⟨g', cap', cur, h1, h2, h3, h4, h5, h6, -⟩
      · cases h1
      · cases h1; exact ⟨h4, h5⟩
    have hai : AI w3 (some ⟨g, 0, none⟩) (W + 1) cap (zeros W ++ [1]) := by
      refine ⟨by simp [length_zeros], hcap.1, hcap.2, by omega, ?_, u32_append (u32_zeros W) (u32_one (by omega))⟩
      have h8 := hown3
      rw [show List.map (Value.int IntKind.u32) (zeros W) ++ [Value.int IntKind.u32 1] = (zeros W ++ [1]).map (Value.int .u32) from by simp] at h8
      exact rd_owns h8
    have hn1' := HO1.out.below hB4
    refine ⟨hb3'.later hB4, HI.out.below (bnext' hB1 hB4), hr7'.below hB4 hr7'.lt, length_ezs n, hb8.later hB4, ⟨x1, hn1'.ai (by omega), hn1'.v, hn1⟩, hb9, ⟨_, hai.below hal4, ?_, Nat.le_refl _⟩, hb10, (NV.ez 0 W4 2).ev (by decide), .inl rfl, fun h0 => ⟨fun a ha e => ?_, fun a ha e => ?_⟩, fun h0 => ⟨fun a ha e => ?_, fun a ha e => ?_⟩, fun h0 => ⟨fun a ha e => ?_, fun a ha e => ?_⟩, fun h0 => absurd h0 (by decide), fun j hj => absurd hj (by omega), by omega, bnext' hB1 hB4⟩
    · show ival false (zeros W ++ [1]) = pw W
      rw [ival, if_neg (by decide), val_base]
    · have := HV.out.2.2.2.1 a ha; omega
    · have := HV.out.2.2.2.1 a ha; have := hB1.size; omega
    · have := HO1.out.fr a ha; omega
    · have := HO1.out.lt a ha; omega
    · cases ha; simp at e; omega
    · cases ha; simp at e; omega
  obtain ⟨g3, hg3⟩ : ∃ g3, g3 = w.heap.size := ⟨_, rfl⟩
  obtain ⟨g7, hg7⟩ : ∃ g7, g7 = ga := ⟨_, rfl⟩
  obtain ⟨g8, hg8⟩ : ∃ g8, g8 = w1.heap.size := ⟨_, rfl⟩
  obtain ⟨g9, hg9⟩ : ∃ g9, g9 = w3.heap.size := ⟨_, rfl⟩
  obtain ⟨g10, hg10⟩ : ∃ g10, g10 = w3.heap.size + 1 := ⟨_, rfl⟩
  rw [← hg10, ← hg9, ← hg8, ← hg7] at HU0 ⊢
  have HU1 : Hid (UN w W4 g3 g7 g8 g9 g10 W n 0 W u ⟨s1, p1, n1, n1⟩ ⟨false, some ⟨g, 0, none⟩, W + 1, cap⟩ ez xs d (ezs n) 0) := by rw [hg3]; exact HU0.out
  have e3 : w.heap.size = g3 := hg3.symm
  rw [e3]
  have HG3 : Hid (g3 = w.heap.size) := hg3
  generalize (⟨s1, p1, n1, n1⟩ : Ent) = one at *
  generalize (⟨false, some ⟨g, 0, none⟩, W + 1, cap⟩ : Ent) = base at *
  clear HU0 hg3 hg7 hg8 hg9 hg10 e3 hown3 hgrow3 hat3 hlt3 hB3 hfm hge hb9 hb10 hal4 hsz4 hB4 hs3 hb8 hb3' hr7' hB1 HO1 HO hmk hmu hi hz0 hz1 hz2
  go_loopw [9, 10, 11, 12, 31] (fun _ _ _ _ kv wr => ∃ (i : Nat) (us : List Ent) (c : Int) (cr : Ent), i ≤ n ∧ kv = .int .i64 i ∧ Hid (UN w wr g3 g7 g8 g9 g10 W n i W u one base cr xs d us c ∧ val xs / pw (W * i) + c = tlf W (sgd u.s d) (n - i) i)) (fun _ _ _ _ kv _ => n - (intOf kv).toNat)
  case atStart => exact ⟨0, ezs n, 0, ez, Nat.zero_le _, by go_num, HU1.out, by rw [Nat.mul_zero, pw_zero, Int.ediv_one, Int.add_zero, Nat.sub_zero, tlf_all, HV.out.1]⟩
  case round =>
    clear HU1
    obtain ⟨i, us, c, cr, hi, rfl, H⟩ := hrel
    rcases Nat.lt_or_ge i n with hlt | hge
    · obtain ⟨hU, hinv⟩ := H.out
      obtain ⟨kk, hkk⟩ : ∃ kk, kk = W * i := ⟨_, rfl⟩
      have hkb : kk ≤ 900000 := by rw [hkk]; exact Nat.mul_le_mul (show W ≤ 900 by omega) (show i ≤ 1000 by omega)
      have e1 : (i : Int) * (W : Int) = (kk : Int) := by rw [hkk, Int.mul_comm]; push_cast; rfl
      have hxl := hU.a3.len
      obtain ⟨f, hf⟩ : ∃ f, f = min kk u.n := ⟨_, rfl⟩
      obtain ⟨t, ht⟩ : ∃ t, t = min (f + W) u.n := ⟨_, rfl⟩
      have e2 : min (kk : Int) (u.n : Int) = (f : Int) := by omega
      have e4 : min ((f : Int) + (W : Int)) (u.n : Int) = (t : Int) := by omega
      have hfn : f ≤ u.n := by omega
      have hft : f ≤ t := by omega
      have htn : t ≤ u.n := by omega
      have htW : t - f ≤ W := by omega
      have HD : Hid (val ((xs.drop f).take (t - f)) = (val xs / pw (W * i)) % pw W) := by
        show _ = _
        rw [dig_list xs kk W f t (by rw [hxl]; exact hf) (by rw [hxl]; exact ht), val_digit hU.a3.u, hkk]
      have HK : Hid (kk = W * i ∧ f = min kk u.n ∧ t = min (f + W) u.n) := ⟨hkk, hf, ht⟩
      have HINV : Hid (val xs / pw (W * i) + c = tlf W (sgd u.s d) (n - i) i) := hinv
      have HU : Hid (UN w wr g3 g7 g8 g9 g10 W n i W u one base cr xs d us c) := hU
      obtain ⟨q0, q1, -, -⟩ := id hU.b3
      clear H hU hinv hkk hf ht
      go_upto_region 11 with fail
      go_cut [11] from 32 to 74 (fun pv wc => ∃ (dg : Ent) (g13 : Nat), pv = .pointer (some ⟨g13, 0, none⟩) ∧ Hid (DG wr wc g13 W ((val xs / pw (W * i)) % pw W) dg))
      case first =>
        rcases Nat.eq_zero_or_pos u.n with h0 | h0
        · have hp0 := HV.out.2.2.1 h0
          have hc0 : u.c = 0 := by rw [HV.out.2.2.2.2.1, h0]
          obtain rfl : f = 0 := by omega
          obtain rfl : t = 0 := by omega
          rw [hp0, h0, hc0] at q1
          have e5 : min (W : Int) 0 = 0 := by omega
          have hvz : (val xs / pw (W * i)) % pw W = 0 := by rw [← HD.out]; simp [val]
          have hDG : DG wr (wr.alloc (.cells #[.bool false, .slice none 0 0] 26)) wr.heap.size W ((val xs / pw (W * i)) % pw W) ez := ⟨Bx.new _ _ _ rfl, by rw [hvz]; exact (NV.ez 0 _ W).ev (by omega), bel_al (Below.refl _ _)⟩
          have HDG := (show Hid _ from hDG)
          clear hDG hvz HD
          go_wp2
          go_meet
          exact ⟨ez, _, rfl, HDG.out⟩
        · have hA := HU.out.a3
          obtain ⟨b, o, hp, -⟩ := hA.rd (by rw [hA.len]; exact h0)
          rw [hp, HV.out.2.2.2.2.1] at hA q1
          rcases Nat.lt_or_ge f u.n with hfl | hfl
          · have hA2 := ai_cut hA f t hft htn
            have hDG : DG wr (wr.alloc (.cells #[.bool false, .slice (some ⟨b, o + f, none⟩) (t - f) (u.n - f)] 26)) wr.heap.size W ((val xs / pw (W * i)) % pw W) ⟨false, some ⟨b, o + f, none⟩, t - f, u.n - f⟩ := ⟨Bx.new _ _ _ rfl, ⟨_, hA2.below (bel_al (Below.refl _ _)), by rw [← HD.out]; rfl, by show t - f ≤ W; omega⟩, bel_al (Below.refl _ _)⟩
            have HDG := (show Hid _ from hDG)
            have j1 : (f : Int) ≤ (t : Int) := by omega
            have j2 : (t : Int) ≤ (u.n : Int) := by omega
            have j3 : ¬ u.n = f := by omega
            clear hDG hA hA2
            go_wp2
            go_meet
            exact ⟨_, _, rfl, HDG.out⟩
          · obtain rfl : f = u.n := by omega
            obtain rfl : t = u.n := by omega
            have hvz : (val xs / pw (W * i)) % pw W = 0 := by rw [← HD.out]; simp [val]
            have hDG : DG wr (wr.alloc (.cells #[.bool false, .slice (some ⟨b, o, none⟩) 0 0] 26)) wr.heap.size W ((val xs / pw (W * i)) % pw W) ⟨false, some ⟨b, o, none⟩, 0, 0⟩ := ⟨Bx.new _ _ _ rfl, by rw [hvz]; exact ⟨[], ⟨rfl, Nat.le_refl _, Nat.zero_le _, Nat.zero_le _, Rd.nil, u32_nil⟩, by simp [ival, val], Nat.zero_le _⟩, bel_al (Below.refl _ _)⟩
            have HDG := (show Hid _ from hDG)
            clear hDG hvz HD hA
            go_wp2
            go_meet
            exact ⟨_, _, rfl, HDG.out⟩
      case rest =>
        obtain ⟨dg, g13, rfl, HDG⟩ := hcut
        have hU1 := HU.out.below HDG.out.bw
        obtain ⟨y0, y1, -, -⟩ := id HDG.out.b
        obtain ⟨y2, y3, -, -⟩ := id hU1.b10
        have hdv := HDG.out.v
        have hcv := hU1.v10
        have had := Add_ev hdv hcv
        have HU1 : Hid (UN w wc g3 g7 g8 g9 g10 W n i W u one base cr xs d us c) := hU1
        clear HU HDG q0 q1 hdv hcv hU1 HD
        go_wp2_with fail
        refine had.mono ?_
        rintro r w5 ⟨c5, rfl, hN5, hb5⟩
        have hal := bel_al (o := .cells #[.bool c5.s, .slice c5.p c5.n c5.c] 26) (Below.refl w5.heap.size w5)
        have hb14 : Bx (w5.alloc (.cells #[.bool c5.s, .slice c5.p c5.n c5.c] 26)) w5.heap.size (.bool c5.s) (.slice c5.p c5.n c5.c) := Bx.new _ _ _ rfl
        have hUa := (HU1.out.below hb5).below hal
        have hgs := HU1.out.gs
        have hs5 := hb5.size
        have hU6 := hUa.carry (cr' := ez) (c' := 0) ((NV.ez 0 _ 2).ev (by decide)) (fun h0 => absurd h0 (by decide)) (.inl rfl)
        have hN6 := ((hN5.below hal).set2 (g := g10) (o := 0) hgs.2.2.2.1 (.bool false) (.slice none 0 0)).mono HU1.out.bw.size
        have hB6 := Bx_oth (g := g10) (x := .bool false) (y := .slice none 0 0) hb14 (by omega)
        have hS6 : Sf g7 g10 c5 := Sf.fresh hN5.frm hgs.2.2.1 hgs.2.2.2.1
        have hO6 : 0 < c5.n → Off w5.heap.size c5.p := fun h0 a ha e => by have := hN5.ltb a ha; omega
        have hb3w := block_lt_of_cell HU1.out.b3.c0
        have hb8w := block_lt_of_cell HU1.out.b8.c0
        have hb9w := block_lt_of_cell HU1.out.b9.c0
        have HNE : Hid (w5.heap.size ≠ g3 ∧ w5.heap.size ≠ g7 ∧ w5.heap.size ≠ g8 ∧ w5.heap.size ≠ g9 ∧ w5.heap.size ≠ g10 ∧ w.heap.size ≤ w5.heap.size) := by simp at hb3w hb8w hb9w; have := HU1.out.bw.size; exact ⟨by omega, by omega, by omega, by omega, by omega, by omega⟩
        obtain ⟨x0, x1, f0, f1⟩ := id hUa.b10
        clear y0 y1 y2 y3 had hN5 hUa hal hb14 hb3w hb8w hb9w
        go_upto_region 14 with fail
        have HQ : Hid (0 ≤ val xs / pw (W * i) % pw W + c ∧ (c = 0 ∨ c = 1)) := ⟨by have := Int.emod_nonneg (val xs / pw (W * i)) (show pw W ≠ 0 by have := pw_pos W; omega); have := HU1.out.c01; omega, HU1.out.c01⟩
        have hst := digit_step HQ.out.2 (pw_pos W) (d := sgd u.s d i) (R := tlf W (sgd u.s d) (n - (i + 1)) (i + 1)) (Q := val xs / pw (W * i)) (by rw [HINV.out, show n - i = n - (i + 1) + 1 by omega, tlf]) (by rw [sgd_abs]; exact HV.out.2.1 i hlt)
        rw [← pw_div] at hst
        have hzh := zb_half (c := val xs / pw (W * i) % pw W + c) (W := W) HQ.out.1 hW1
        generalize val xs / pw (W * i) % pw W + c = v5 at *
        have HST := (show Hid _ from And.intro hst hzh)
        clear hst hzh x0 x1 f0 f1 hb5
        generalize hW6 : ((w5.alloc (.cells #[.bool c5.s, .slice c5.p c5.n c5.c] 26)).setCell ⟨g10, 0, none⟩ (.bool false)).setCell ⟨g10, 1, none⟩ (.slice none 0 0) = W6 at *
        change UN w (((w5.alloc (.cells #[.bool c5.s, .slice c5.p c5.n c5.c] 26)).setCell ⟨g10, 0, none⟩ (.bool false)).setCell ⟨g10, 1, none⟩ (.slice none 0 0)) g3 g7 g8 g9 g10 W n i W u one base ez xs d us 0 at hU6
        rw [hW6] at hU6
        generalize w5.heap.size = g14 at *
        clear hW6
        have hOA := HU1.out.offs (g := g14) (by omega) (by omega)
        have hOA0 : OA g14 i u one base ez us := ⟨hOA.u, hOA.one, hOA.base, fun h0 => absurd h0 (by decide), hOA.q⟩
        have hbt := Bits_ev (hN6.ev (by omega))
        obtain ⟨z0, z1, -, -⟩ := id hB6
        have hzb : zb v5 ≤ 32 * (W + 2 + 1) := zb_le (hN6.ev (by omega))
        clear HU1 hOA
        go_wp2_with fail
        refine hbt.mono ?_
        rintro r w7 ⟨rfl, hb7⟩
        have hU7 := hU6.below hb7
        have hN7 := hN6.below hb7
        have hB7 := hB6.later hb7
        have hg147 : g14 < w7.heap.size := block_lt_of_cell hB7.c0
        clear hbt z0 z1 hU6 hN6 hB6 hb7
        go_upto_if 61 with fail
        go_cut [] from 32 to 74 (fun wx => ∃ (c7 : Int) (cr7 ce : Ent), Hid (CE w wx g14 g3 g7 g8 g9 g10 W n i u one base cr7 xs d us c7 (sgd u.s d i) ce ∧ val xs / pw (W * (i + 1)) + c7 = tlf W (sgd u.s d) (n - (i + 1)) (i + 1)))
        case first =>
          have hcs : Hid (pw W ≤ 2 * v5 ∨ ¬ pw W ≤ 2 * v5) := Classical.em _
          have HDB : Hid (((sgd u.s d i).natAbs : Int) < pw W) := by show _ < _; rw [sgd_abs]; have := HV.out.2.1 i hlt; omega
          rcases hcs.out with hz | hz
          · have k1 : (32 : Int) * (W : Int) ≤ (zb v5 : Int) := by have := HST.out.2.2 (by omega); omega
            obtain ⟨hv, hin⟩ := HST.out.1.1 (by omega)
            have hsb := Sub_ev ((hN7.ev (by omega)).drew) (hU7.v9.drew)
            rw [hv] at hsb
            obtain ⟨z0, z1, -, -⟩ := id hB7
            obtain ⟨z2, z3, -, -⟩ := id hU7.b9
            obtain ⟨z4, z5, -, -⟩ := id hU7.b8
            have HA : Hid (UN w w7 g3 g7 g8 g9 g10 W n i W u one base ez xs d us 0 ∧ Bx w7 g14 (.bool c5.s) (.slice c5.p c5.n c5.c) ∧ val xs / pw (W * (i + 1)) + 1 = tlf W (sgd u.s d) (n - (i + 1)) (i + 1)) := ⟨hU7, hB7, hin⟩
            have hn14 := HNE.out
            have hn10 : g14 ≠ g10 := hn14.2.2.2.2.1
            have hn10' : g10 ≠ g14 := Ne.symm hn10
            clear hz hcs hv hin hU7 hN7 hB7 HST
            go_wp2_with fail
            go_region_with ((go_at_call 114; go_fit hsb; rintro r v8 ⟨c8, rfl, hN8', hb8'⟩; have hN8 := unNV hN8'; clear hN8'; have hb8 := undrew hb8'; clear hb8'; have hU8 := HA.out.1.below hb8; obtain ⟨x0, x1, f0, f1⟩ := HA.out.2.1.later hb8; obtain ⟨x2, x3, f2, f3⟩ := id hU8.b10; obtain ⟨x4, x5, -, -⟩ := id hU8.b8))
            all_goals
              have hX := hU8.box hOA0 hn14 (.bool c8.s) (.slice c8.p c8.n c8.c)
              have hXX := hX.carry (cr' := one) (c' := 1) hX.v8 hX.s8 (.inr rfl)
              have hg := HA.out.1.gs
              have hCE : CE w ((((v8.setCell ⟨g14, 0, none⟩ (.bool c8.s)).setCell ⟨g14, 1, none⟩ (.slice c8.p c8.n c8.c)).setCell ⟨g10, 0, none⟩ (.bool one.s)).setCell ⟨g10, 1, none⟩ (.slice one.p one.n one.c)) g14 g3 g7 g8 g9 g10 W n i u one base one xs d us 1 (sgd u.s d i) c8 := ⟨hXX, Bx_oth (Bx_set (HA.out.2.1.later hb8)) hn10, (((hN8.fit HDB.out).set2 (g := g14) (o := 0) hg147 _ _).set2 (g := g10) (o := 0) hg.2.2.2.1 _ _).mono HA.out.1.bw.size, Sf.fresh hN8.frm hg.2.2.1 hg.2.2.2.1, fun _ => off_from hN8.frm hg147, HNE.out, ⟨hOA0.u, hOA0.one, hOA0.base, hOA0.one, hOA0.q⟩⟩
              have HCE : Hid (CE w ((((v8.setCell ⟨g14, 0, none⟩ (.bool c8.s)).setCell ⟨g14, 1, none⟩ (.slice c8.p c8.n c8.c)).setCell ⟨g10, 0, none⟩ (.bool one.s)).setCell ⟨g10, 1, none⟩ (.slice one.p one.n one.c)) g14 g3 g7 g8 g9 g10 W n i u one base one xs d us 1 (sgd u.s d i) c8 ∧ val xs / pw (W * (i + 1)) + 1 = tlf W (sgd u.s d) (n - (i + 1)) (i + 1)) := ⟨hCE, HA.out.2.2⟩
              clear hCE hX hXX hN8 hU8 hsb z0 z1 z2 z3 z4 z5 x0 x1 x2 x3 x4 x5 f0 f1 f2 f3
              go_wp2_with fail
              go_meet
              exact ⟨1, one, c8, HCE.out⟩
          · have k1 : ¬ (32 : Int) * (W : Int) ≤ (zb v5 : Int) := by intro h8; have := HST.out.2.1 (by omega); omega
            obtain ⟨hv, hin⟩ := HST.out.1.2 (by omega)
            have hCE : CE w w7 g14 g3 g7 g8 g9 g10 W n i u one base ez xs d us 0 (sgd u.s d i) c5 := ⟨hU7, hB7, by rw [hv] at hN7; exact hN7.fit HDB.out, hS6, hO6, HNE.out, hOA0⟩
            have HCE : Hid (CE w w7 g14 g3 g7 g8 g9 g10 W n i u one base ez xs d us 0 (sgd u.s d i) c5 ∧ val xs / pw (W * (i + 1)) + 0 = tlf W (sgd u.s d) (n - (i + 1)) (i + 1)) := ⟨hCE, by rw [Int.add_zero]; exact hin⟩
            clear hz hcs hv hin hCE hU7 hN7 hB7 HST
            go_wp2
            go_meet
            exact ⟨0, ez, c5, HCE.out⟩
        case rest =>
          obtain ⟨c7, cr7, ce, HC⟩ := hcut
          clear hOA0 hU7 hN7 hB7 hS6 hO6 HST hzb hs5 hgs hg147 HQ hn1 hs0 hs1 hs2
          have hC := HC.out.1
          obtain ⟨z0, z1, -, -⟩ := id hC.un.b3
          obtain ⟨z2, z3, e6, e7⟩ := id hC.b
          have hrow := hC.un.r7
          have i1 : (i : Int) < (n : Int) := by omega
          have i2 : (0 : Int) ≤ (i : Int) := by omega
          have hcs2 : Hid (u.s = false ∨ u.s = true) := by cases u.s <;> simp [Hid] <;> decide
          rcases hcs2.out with hsu | hsu
          · rw [hsu] at z0
            have hcv : NV w.heap.size wc W (d i) ce := by have h8 := hC.v; rw [sgd, hsu, if_neg (by decide)] at h8; exact h8
            have hnx := hC.un.entry hlt hcv hC.s
            have HNX : Hid (UN w ((wc.setCell ⟨g7, i * 2, none⟩ (.bool ce.s)).setCell ⟨g7, i * 2 + 1, none⟩ (.slice ce.p ce.n ce.c)) g3 g7 g8 g9 g10 W n (i + 1) W u one base cr7 xs d (us.set i ce) c7 ∧ val xs / pw (W * (i + 1)) + c7 = tlf W (sgd u.s d) (n - (i + 1)) (i + 1)) := ⟨hnx, HC.out.2⟩
            obtain ⟨y0, y1⟩ := hrow.cell i (by rw [hC.un.l7]; exact hlt)
            have y2 := hrow.frozen (i * 2)
            have y3 := hrow.frozen (i * 2 + 1)
            have HSU : Hid (u.s = false) := hsu
            clear hC HC hnx hcv hrow hsu hcs2
            go_wp2
            go_roundw
            case rel => exact ⟨i + 1, us.set i ce, c7, cr7, by omega, by go_num, HNX.out⟩
            case measure => simp [intOf]; omega
          · rw [hsu] at z0
            have hng := Neg_ev (hC.v.ev (by omega))
            have hvd : -sgd u.s d i = d i := by rw [sgd, hsu, if_pos rfl, Int.neg_neg]
            rw [hvd] at hng
            have HSU : Hid (u.s = true) := hsu
            have HCC : Hid (CE w wc g14 g3 g7 g8 g9 g10 W n i u one base cr7 xs d us c7 (sgd u.s d i) ce ∧ val xs / pw (W * (i + 1)) + c7 = tlf W (sgd u.s d) (n - (i + 1)) (i + 1)) := ⟨hC, HC.out.2⟩
            clear hsu hvd hrow hC HC hcs2
            go_wp2_with fail
            refine hng.mono ?_
            rintro r w9 ⟨c9, rfl, hN9, hb9⟩
            have hC9 := HCC.out.1.below hb9
            have hC0 := HCC.out.1
            have hg14 : g14 < wc.heap.size := block_lt_of_cell hC0.b.c0
            have hg := hC0.un.gs
            have hX := hC9.un.box hC9.oa hC9.ne (.bool c9.s) (.slice c9.p c9.n c9.c)
            have hN10 : NV w.heap.size ((w9.setCell ⟨g14, 0, none⟩ (.bool c9.s)).setCell ⟨g14, 1, none⟩ (.slice c9.p c9.n c9.c)) W (d i) c9 := (hN9.set2 (g := g14) (o := 0) hg14 _ _).mono hC0.un.bw.size
            have hnx := hX.entry hlt hN10 (Sf.fresh hN9.frm hg.2.2.1 hg.2.2.2.1)
            have HNX : Hid (UN w ((((w9.setCell ⟨g14, 0, none⟩ (.bool c9.s)).setCell ⟨g14, 1, none⟩ (.slice c9.p c9.n c9.c)).setCell ⟨g7, i * 2, none⟩ (.bool c9.s)).setCell ⟨g7, i * 2 + 1, none⟩ (.slice c9.p c9.n c9.c)) g3 g7 g8 g9 g10 W n (i + 1) W u one base cr7 xs d (us.set i c9) c7 ∧ val xs / pw (W * (i + 1)) + c7 = tlf W (sgd u.s d) (n - (i + 1)) (i + 1)) := ⟨hnx, HCC.out.2⟩
            have hb14 := Bx_set (x := .bool c9.s) (y := .slice c9.p c9.n c9.c) hC9.b
            obtain ⟨x0, x1, f0, f1⟩ := id hC9.b
            obtain ⟨y4, y5, -, -⟩ := id hb14
            obtain ⟨y0, y1⟩ := hX.r7.cell i (by rw [hX.l7]; exact hlt)
            have y2 := hX.r7.frozen (i * 2)
            have y3 := hX.r7.frozen (i * 2 + 1)
            clear hC9 hC0 hX hN10 hnx hb14 hN9 hng HCC z0 z1 z2 z3 e6 e7
            go_upto_region 18 with fail
            clear x0 x1 f0 f1
            generalize (w9.setCell ⟨g14, 0, none⟩ (.bool c9.s)).setCell ⟨g14, 1, none⟩ (.slice c9.p c9.n c9.c) = W9 at *
            go_wp2
            go_roundw
            case rel => exact ⟨i + 1, us.set i c9, c7, cr7, by omega, by go_num, HNX.out⟩
            case measure => simp [intOf]; omega
    · obtain rfl : i = n := by omega
      have hU := H.out.1
      have HR : Hid (∃ q us', Ending.returned (.slice (some ⟨g7, 0, none⟩) (i : Nat) (i : Nat)) = .returned (.slice q (i : Nat) (i : Nat)) ∧ us'.length = i ∧ PL wr q us' ∧ Go.Proofs.YtejnhpjejcpekaaGreatDoor.From w.heap.size q ∧ (∀ j, j < i → NV w.heap.size wr W (d j) (ge us' j)) ∧ Below w.heap.size w wr) := ⟨_, us, rfl, hU.l7, hU.r7.pl, from_new hU.gs.2.1, fun j hj => (hU.q j hj).1, hU.bw⟩
      clear H hU hge
      go_wp2
      go_ret
      exact HR.out
end Go.Proofs.YtejnhpjejcpekaaGreatDoor
