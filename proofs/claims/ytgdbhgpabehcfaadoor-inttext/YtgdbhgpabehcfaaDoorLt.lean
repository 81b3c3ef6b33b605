/-
  ashlarlaw1.IntText: for every number and every text the law's answer is true.
-/
import Derived.Test.YtgdbhgpabehcfaaDoorBh
import Derived.Test.YtgdbhgpabehcfaaDoorCy
import Derived.Test.YtgdbhgpabehcfaaDoorSf
namespace Go.Proofs.YtgdbhgpabehcfaaDoor
open Go.RowKit
set_option linter.unusedVariables false
set_option linter.unusedSimpArgs false

theorem extract_400 (l : List UInt8) : (⟨l.toArray⟩ : ByteArray).extract 0 400 = ⟨(l.take 400).toArray⟩ := by
  rw [ByteArray.extract_mk]
  simp
/-- What limbs.Read answers, of short and of very long texts. -/
def BPost (l : List UInt8) (w : World) (e : Ending) (w' : World) : Prop := (l.length ≤ 400 ∧ RdPost l w e w') ∨ (65536 < l.length ∧ e = .returned (.tuple #[.agg #[.bool false, .slice none 0 0], .int .i64 8]) ∧ Below w.heap.size w w')
def CPost (l : List UInt8) (w : World) (e : Ending) (w' : World) : Prop := (l.length ≤ 400 ∧ RrPost l w e w') ∨ (65536 < l.length ∧ e = .returned (.tuple #[.agg #[.bool false, .slice none 0 0], .int .i64 8]) ∧ Below w.heap.size w w')
theorem Read_both (l : List UInt8) (w : World) (h : l.length ≤ 400 ∨ 65536 < l.length) (hm : l.length ≤ maxLen) : Calls Tryd.prog 20 #[.string ⟨l.toArray⟩] w (BPost l w) := by
  rcases h with h | h
  · exact (Read_any l w (by omega)).mono fun e w' k => .inl ⟨h, k⟩
  · exact (Read_long l w hm h).mono fun e w' k => .inr ⟨h, k⟩
theorem rRead_both (l : List UInt8) (w : World) (h : l.length ≤ 400 ∨ 65536 < l.length) (hm : l.length ≤ maxLen) : Calls Tryd.prog 21 #[.string ⟨l.toArray⟩] w (CPost l w) := by
  rcases h with h | h
  · exact (rRead_any l w (by omega)).mono fun e w' k => .inl ⟨h, k⟩
  · exact (rRead_long l w hm h).mono fun e w' k => .inr ⟨h, k⟩
theorem BPost.form {l : List UInt8} {w w' : World} {e : Ending} (h : BPost l w e w') : ∃ s' p' n' zs z, ∃ c : Int, e = .returned (.tuple #[.agg #[.bool s', .slice p' n' n'], .int .i64 c]) ∧ (c = 0 ∨ c = 8) ∧ NI w.heap.size w' s' p' n' zs z ∧ n' ≤ 400 ∧ Below w.heap.size w w' ∧ Hid ((65536 < l.length ∧ c = 8 ∧ z = 0) ∨ (l.length ≤ 400 ∧ ((∃ t d, IsNum l t d ∧ c = 0 ∧ z = (if t then - dv (bz d) else dv (bz d))) ∨ ((∀ t d, ¬ IsNum l t d) ∧ c = 8 ∧ z = 0)))) := by
  have nz : ∀ w', NI w.heap.size w' false none 0 [] 0 := fun w' => ⟨rfl, Rd.nil, u32_nil, rfl, fun _ => rfl, fun _ => rfl, rfl, from_none⟩
  rcases h with ⟨hl, ⟨s, d, s', p', n', zs, h1, h2, h3, h4, h5⟩ | ⟨h1, h2, h3⟩⟩ | ⟨hl, h2, h3⟩
  · exact ⟨s', p', n', zs, _, 0, h2, .inl rfl, h3, by omega, h5, .inr ⟨hl, .inl ⟨s, d, h1, rfl, rfl⟩⟩⟩
  · exact ⟨false, none, 0, [], 0, 8, h2, .inr rfl, nz _, Nat.zero_le _, h3, .inr ⟨hl, .inr ⟨h1, rfl, rfl⟩⟩⟩
  · exact ⟨false, none, 0, [], 0, 8, h2, .inr rfl, nz _, Nat.zero_le _, h3, .inl ⟨hl, rfl, rfl⟩⟩
theorem CPost.form {l : List UInt8} {w w' : World} {e : Ending} (h : CPost l w e w') {c z : Int} (hc : (65536 < l.length ∧ c = 8 ∧ z = 0) ∨ (l.length ≤ 400 ∧ ((∃ t d, IsNum l t d ∧ c = 0 ∧ z = (if t then - dv (bz d) else dv (bz d))) ∨ ((∀ t d, ¬ IsNum l t d) ∧ c = 8 ∧ z = 0)))) :
    ∃ s' p' n' ds, e = .returned (.tuple #[.agg #[.bool s', .slice p' n' n'], .int .i64 c]) ∧ RN w' s' p' n' ds ∧ rval s' ds = z ∧ n' ≤ 400 ∧ Below w.heap.size w w' := by
  have nz : ∀ w', RN w' false none 0 [] := fun w' => ⟨rfl, Rd.nil, u16_nil, rfl, fun _ => rfl, by decide⟩
  rcases h with ⟨hl, ⟨s, d, s', p', n', ds, h1, h2, h3, h4, h5, h6, h7⟩ | ⟨h1, h2, h3⟩⟩ | ⟨hl, h2, h3⟩
  · rcases hc with ⟨k, _⟩ | ⟨_, ⟨t, d', k1, rfl, rfl⟩ | ⟨k1, _⟩⟩
    · omega
    · obtain ⟨rfl, rfl⟩ := isNum_one h1 k1
      exact ⟨s', p', n', ds, h2, h3, h4, by omega, h7⟩
    · exact absurd h1 (k1 _ _)
  · rcases hc with ⟨k, _⟩ | ⟨_, ⟨t, d', k1, rfl, rfl⟩ | ⟨k1, rfl, rfl⟩⟩
    · omega
    · exact absurd k1 (h1 _ _)
    · exact ⟨false, none, 0, [], h2, nz _, rfl, Nat.zero_le _, h3⟩
  · rcases hc with ⟨k, rfl, rfl⟩ | ⟨k, _⟩
    · exact ⟨false, none, 0, [], h2, nz _, rfl, Nat.zero_le _, h3⟩
    · omega

set_option maxRecDepth 100000 in
set_option maxHeartbeats 8000000 in
theorem IntText_walk (s : Bool) (p : Option Addr) (n nc : Nat) (xs : List Int) (l : List UInt8) (w : World) (hl : xs.length = n) (hnc : n ≤ nc) (hb : nc ≤ maxLen) (hX : Rd w p .u32 xs) (hU : U32 xs) (hp : p = none → nc = 0) (hlm : l.length ≤ maxLen) :
    Calls Tryd.prog 5 #[.agg #[.bool s, .slice p n nc], .string ⟨l.toArray⟩] w fun e w' => e = .returned (.bool true) ∧ Below w.heap.size w w' := by
  have hlm' := hlm
  unfold maxLen at hlm'
  go_enter Tryd.func5, Tryd.ntmps5
  go_wp2_with fail
  have hB0 : Bx (w.alloc (.cells #[.bool s, .slice p n nc] 24)) w.heap.size (.bool s) (.slice p n nc) := Bx.new _ _ _ rfl
  have hbw : Below w.heap.size w (w.alloc (.cells #[.bool s, .slice p n nc] 24)) := (Below.refl _ _).alloc (Nat.le_refl _) _
  have hz0' : w.heap.size < (w.alloc (.cells #[.bool s, .slice p n nc] 24)).heap.size := by simp
  generalize w.alloc (.cells #[.bool s, .slice p n nc] 24) = W0 at *
  refine (begun_any _).mono ?_
  rintro e w1 ⟨rfl, hb1⟩
  have hB1 := hB0.later hb1
  have hbw1 := bnext hbw (Nat.le_refl _) hb1
  have hs1 : w.heap.size < w1.heap.size := Nat.lt_of_lt_of_le hz0' hb1.size
  clear hB0 hbw hz0' hb1
  have k0 := hB1.c0
  have k1 := hB1.c1
  go_wp2_with fail
  refine (Cut_any s p n nc xs _ hl hnc hb (hX.below hbw1) hU hp).mono ?_
  rintro e w6 ⟨p', n', nc', rfl, hA, hn24, hF, hb6⟩
  have hBa6 := hB1.later hb6
  have hbw6 := bnext hbw1 (Nat.le_refl _) hb6
  have c0 := hBa6.c0
  have c1 := hBa6.c1
  have f0 := hBa6.f0
  have f1 := hBa6.f1
  clear k0 k1 hB1 hbw1
  have hA7 := hA.set2 hF (g := w.heap.size) (by omega) (.bool s) (.slice p' n' nc')
  have hB7 : Bx ((w6.setCell ⟨w.heap.size, 0, none⟩ (.bool s)).setCell ⟨w.heap.size, 1, none⟩ (.slice p' n' nc')) w.heap.size (.bool s) (.slice p' n' nc') := Bx_set hBa6
  have hbw7 : Below w.heap.size w ((w6.setCell ⟨w.heap.size, 0, none⟩ (.bool s)).setCell ⟨w.heap.size, 1, none⟩ (.slice p' n' nc')) := bset2 hbw6 (Nat.le_refl _) _ _
  have j0 := hB7.c0
  have j1 := hB7.c1
  clear hA hF hb6 hBa6 hbw6 hs1
  go_wp2_with fail
  clear c0 c1 f0 f1
  generalize ((w6.setCell ⟨w.heap.size, 0, none⟩ (.bool s)).setCell ⟨w.heap.size, 1, none⟩ (.slice p' n' nc')) = W7 at *
  refine (Text_any s p' n' nc' (xs.take 24) _ hA7 (by omega)).mono ?_
  rintro e w8 ⟨tl, rfl, hT, hb8⟩
  have hUx := hA7.u
  have hVl : val (xs.take 24) < pw 24 := by
    have h1 := val_lt hUx
    have h2 : pw (xs.take 24).length ≤ pw 24 := pw_mono (by simp; omega)
    omega
  have htl := hT.len hVl
  obtain ⟨ts, td, hN1, hN2⟩ := hT.num
  have HN : Hid (IsNum tl ts td ∧ (if ts then - dv (bz td) else dv (bz td)) = ival s (xs.take 24)) := ⟨hN1, hN2⟩
  have HT : Hid (Tx s (val (xs.take 24)) tl) := hT
  have HU : Hid (U32 (xs.take 24)) := hUx
  have hB8 := hB7.later hb8
  have hA8 := hA7.below hb8
  have hbw8 := bnext hbw7 (Nat.le_refl _) hb8
  clear j0 j1 hB7 hA7 hbw7 hb8 hT hN1 hN2 hVl hUx
  go_wp2_with fail
  refine (Read_any tl _ (by omega)).mono ?_
  intro e w9 hrd
  obtain ⟨s9, p9, n9, z9, rfl, hN9, hn9, hb9⟩ : ∃ s' p' n' zs, e = .returned (.tuple #[.agg #[.bool s', .slice p' n' n'], .int .i64 0]) ∧ NI w8.heap.size w9 s' p' n' zs (ival s (xs.take 24)) ∧ n' ≤ tl.length ∧ Below w8.heap.size w8 w9 := by
    rcases hrd with ⟨s0, d0, s', p', n', zs, h1, h2, h3, h4, h5⟩ | ⟨h1, h2, h3⟩
    · obtain ⟨rfl, rfl⟩ := isNum_one h1 HN.out.1
      rw [HN.out.2] at h3
      exact ⟨s', p', n', zs, h2, h3, h4, h5⟩
    · exact absurd HN.out.1 (h1 _ _)
  have hB9 := hB8.later hb9
  have hA9 := hA8.below hb9
  have hbw9 := bnext hbw8 (Nat.le_refl _) hb9
  clear hrd hB8 hA8 hbw8 hb9
  have arms : Hid ((l.length ≤ 400) ∨ (400 < l.length ∧ l.length ≤ 65536) ∨ 65536 < l.length) := by show _ ∨ _; omega
  go_upto_region 5 with fail
  have hBb : Bx (w9.alloc (.cells #[.bool s9, .slice p9 n9 n9] 24)) w9.heap.size (.bool s9) (.slice p9 n9 n9) := Bx.new _ _ _ rfl
  have hal : Below w9.heap.size w9 (w9.alloc (.cells #[.bool s9, .slice p9 n9 n9] 24)) := bel_al (Below.refl _ _)
  have hB10 := hB9.later hal
  have hA10 := hA9.below hal
  have hN10 := (hN9.below hal).mono (Nat.zero_le _)
  have hbw10 := bnext hbw9 (Nat.le_refl _) hal
  generalize (w9.alloc (.cells #[.bool s9, .slice p9 n9 n9] 24)) = W10 at *
  generalize w9.heap.size = gb at *
  clear hB9 hA9 hN9 hbw9 hal
  rcases arms.out with h | ⟨h, h'⟩ | h
  · have hI : ¬ (400 : Int) < (l.length : Int) := by omega
    have hL : Hid (l.length ≤ 400 ∨ 65536 < l.length) := .inl h
    have hLm : Hid (l.length ≤ maxLen) := hlm
    clear h arms
    go_wp2_with fail
    refine (Read_both l _ hL.out hLm.out).mono ?_
    intro e w11 hq
    obtain ⟨s11, p11, n11, z11, zz, cc, rfl, hcc, hN11, hn11, hb11, HC⟩ := hq.form
    clear hq
    have hcI : Hid (cc = 0 ∨ cc = 8) := hcc
    have hc0 : -9223372036854775808 ≤ cc := by omega
    have hc1 : cc ≤ 9223372036854775807 := by omega
    clear hcc
    have hB11 := hB10.later hb11
    have hBb11 := hBb.later hb11
    have hA11 := hA10.below hb11
    have hNb11 := hN10.below hb11
    have hbw11 := bnext hbw10 (Nat.le_refl _) hb11
    clear hB10 hBb hA10 hN10 hbw10 hb11
    go_wp2_with fail
    have hBc : Bx (w11.alloc (.cells #[.bool s11, .slice p11 n11 n11] 24)) w11.heap.size (.bool s11) (.slice p11 n11 n11) := Bx.new _ _ _ rfl
    have hal : Below w11.heap.size w11 (w11.alloc (.cells #[.bool s11, .slice p11 n11 n11] 24)) := bel_al (Below.refl _ _)
    have hB12 := hB11.later hal
    have hBb12 := hBb11.later hal
    have hA12 := hA11.below hal
    have hNb12 := hNb11.below hal
    have hNc12 := (hN11.below hal).mono (Nat.zero_le _)
    have hbw12 := bnext hbw11 (Nat.le_refl _) hal
    generalize (w11.alloc (.cells #[.bool s11, .slice p11 n11 n11] 24)) = W12 at *
    generalize w11.heap.size = gc at *
    clear hB11 hBb11 hA11 hNb11 hN11 hbw11 hal
    refine (rRead_both l _ hL.out hLm.out).mono ?_
    intro e w13 hq
    obtain ⟨s13, p13, n13, d13, rfl, hR13, hv13, hn13, hb13⟩ := hq.form HC.out
    clear hq
    have HV13 : Hid (rval s13 d13 = zz) := hv13
    clear hv13
    have hB13 := hB12.later hb13
    have hBb13 := hBb12.later hb13
    have hBc13 := hBc.later hb13
    have hA13 := hA12.below hb13
    have hNb13 := hNb12.below hb13
    have hNc13 := hNc12.below hb13
    have hbw13 := bnext hbw12 (Nat.le_refl _) hb13
    clear hB12 hBb12 hBc hA12 hNb12 hNc12 hbw12 hb13
    have hBx14 : Bx (w13.alloc (.cells #[.bool s13, .slice p13 n13 n13] 29)) w13.heap.size (.bool s13) (.slice p13 n13 n13) := Bx.new _ _ _ rfl
    have hal : Below w13.heap.size w13 (w13.alloc (.cells #[.bool s13, .slice p13 n13 n13] 29)) := bel_al (Below.refl _ _)
    have hB14 := hB13.later hal
    have hBb14 := hBb13.later hal
    have hBc14 := hBc13.later hal
    have hA14 := hA13.below hal
    have hNb14 := hNb13.below hal
    have hNc14 := hNc13.below hal
    have hR14 := hR13.below hal
    have hbw14 := bnext hbw13 (Nat.le_refl _) hal
    clear hB13 hBb13 hBc13 hA13 hNb13 hNc13 hR13 hbw13 hal
    go_wp2_with fail
    generalize (w13.alloc (.cells #[.bool s13, .slice p13 n13 n13] 29)) = W14 at *
    generalize w13.heap.size = gd at *
    have k0 := hBb14.c0
    have k1 := hBb14.c1
    have k2 := hB14.c0
    have k3 := hB14.c1
    go_wp2_with fail
    go_region_held3 (fun w' => w'.cell? ⟨gb, 0, none⟩ = some (.bool s9) ∧ w'.cell? ⟨gb, 1, none⟩ = some (.slice p9 n9 n9) ∧ w'.cell? ⟨w.heap.size, 0, none⟩ = some (.bool s) ∧ w'.cell? ⟨w.heap.size, 1, none⟩ = some (.slice p' n' nc')) (first | exact ⟨by assumption, by assumption, by assumption, by assumption⟩ | exact keepc4 (by assumption) (by assumption))
      (first
        | (go_at_call 8; refine (From_ans s p' n' nc' (xs.take 24) _ hA14.drew).mono ?_; rintro e w15 ⟨s15, p15, n15, d15, rfl, hR15, hv15, hn15, hb15⟩; have HV15 : Hid (rval s15 d15 = ival s (xs.take 24)) := hv15; clear hv15)
        | (go_at_call 10; have h1 := hNb14.below (undrew hb15); refine (rIs_rn h1 (by omega) hR15 (by omega) HV15.out).mono ?_; rintro e w16 ⟨rfl, hb16⟩))
    have hb17 := bnext' (undrew hb15) hb16
    have hB16 := hB14.later hb17
    have hBc16 := hBc14.later hb17
    have hBx16 := hBx14.later hb17
    have hA16 := hA14.below hb17
    have hNc16 := hNc14.below hb17
    have hR16 := hR14.below hb17
    have hbw16 := bnext hbw14 (Nat.le_refl _) hb17
    clear k0 k1 k2 k3 hB14 hBb14 hBc14 hBx14 hA14 hNb14 hNc14 hR14 hbw14 hb15 hb16 hb17 h1 hR15 HV15 hn15
    have k0 := hBc16.c0
    have k1 := hBc16.c1
    have k2 := hBx16.c0
    have k3 := hBx16.c1
    go_wp2_with fail
    refine (rIs_rn hNc16 (by omega) hR16 (by omega) HV13.out).mono ?_
    rintro e w17 ⟨rfl, hb17⟩
    have hB17 := hB16.later hb17
    have hA17 := hA16.below hb17
    have hbw17 := bnext hbw16 (Nat.le_refl _) hb17
    clear k0 k1 k2 k3 hB16 hBc16 hBx16 hA16 hNc16 hR16 hbw16 hb17
    have k0 := hB17.c0
    have k1 := hB17.c1
    go_wp2_with fail
    refine (From_ans s p' n' nc' (xs.take 24) _ hA17).mono ?_
    rintro e w18 ⟨s18, p18, n18, d18, rfl, hR18, hv18, hn18, hb18⟩
    obtain ⟨hv18a, hv18b⟩ := sign_same HU.out hR18.u hv18
    have HS18 : Hid (vd d18 = val (xs.take 24) ∧ (0 < val (xs.take 24) → s = s18)) := ⟨hv18a, hv18b⟩
    clear hv18 hv18a hv18b
    have hbw18 := bnext hbw17 (Nat.le_refl _) hb18
    clear k0 k1 hB17 hA17 hbw17 hb18
    go_wp2_with fail
    refine (rText_any s18 p18 n18 d18 _ hR18 (by omega)).mono ?_
    rintro e w19 ⟨tl', rfl, hT', hb19⟩
    have htt : tl = tl' := by
      rw [HS18.out.1] at hT'
      exact HT.out.one hT' HS18.out.2
    have hbw19 := bnext hbw18 (Nat.le_refl _) hb19
    clear hT' hbw18 hb19 HS18 hR18 HT HN HC
    subst htt
    go_wp2
    go_ret
    exact ⟨rfl, hbw19⟩
  · have hI : (400 : Int) < (l.length : Int) := by omega
    have hI2 : (l.length : Int) ≤ 65536 := by omega
    have hx := extract_400 l
    have hL : Hid ((l.take 400).length ≤ 400 ∨ 65536 < (l.take 400).length) := .inl (by simp; omega)
    have hLm : Hid ((l.take 400).length ≤ maxLen) := by show _ ≤ _; simp; omega
    clear h h' arms
    go_wp2_with fail
    refine (Read_both (l.take 400) _ hL.out hLm.out).mono ?_
    intro e w11 hq
    obtain ⟨s11, p11, n11, z11, zz, cc, rfl, hcc, hN11, hn11, hb11, HC⟩ := hq.form
    clear hq
    have hcI : Hid (cc = 0 ∨ cc = 8) := hcc
    have hc0 : -9223372036854775808 ≤ cc := by omega
    have hc1 : cc ≤ 9223372036854775807 := by omega
    clear hcc
    have hB11 := hB10.later hb11
    have hBb11 := hBb.later hb11
    have hA11 := hA10.below hb11
    have hNb11 := hN10.below hb11
    have hbw11 := bnext hbw10 (Nat.le_refl _) hb11
    clear hB10 hBb hA10 hN10 hbw10 hb11
    go_wp2_with fail
    have hBc : Bx (w11.alloc (.cells #[.bool s11, .slice p11 n11 n11] 24)) w11.heap.size (.bool s11) (.slice p11 n11 n11) := Bx.new _ _ _ rfl
    have hal : Below w11.heap.size w11 (w11.alloc (.cells #[.bool s11, .slice p11 n11 n11] 24)) := bel_al (Below.refl _ _)
    have hB12 := hB11.later hal
    have hBb12 := hBb11.later hal
    have hA12 := hA11.below hal
    have hNb12 := hNb11.below hal
    have hNc12 := (hN11.below hal).mono (Nat.zero_le _)
    have hbw12 := bnext hbw11 (Nat.le_refl _) hal
    generalize (w11.alloc (.cells #[.bool s11, .slice p11 n11 n11] 24)) = W12 at *
    generalize w11.heap.size = gc at *
    clear hB11 hBb11 hA11 hNb11 hN11 hbw11 hal
    refine (rRead_both (l.take 400) _ hL.out hLm.out).mono ?_
    intro e w13 hq
    obtain ⟨s13, p13, n13, d13, rfl, hR13, hv13, hn13, hb13⟩ := hq.form HC.out
    clear hq
    have HV13 : Hid (rval s13 d13 = zz) := hv13
    clear hv13
    have hB13 := hB12.later hb13
    have hBb13 := hBb12.later hb13
    have hBc13 := hBc.later hb13
    have hA13 := hA12.below hb13
    have hNb13 := hNb12.below hb13
    have hNc13 := hNc12.below hb13
    have hbw13 := bnext hbw12 (Nat.le_refl _) hb13
    clear hB12 hBb12 hBc hA12 hNb12 hNc12 hbw12 hb13
    have hBx14 : Bx (w13.alloc (.cells #[.bool s13, .slice p13 n13 n13] 29)) w13.heap.size (.bool s13) (.slice p13 n13 n13) := Bx.new _ _ _ rfl
    have hal : Below w13.heap.size w13 (w13.alloc (.cells #[.bool s13, .slice p13 n13 n13] 29)) := bel_al (Below.refl _ _)
    have hB14 := hB13.later hal
    have hBb14 := hBb13.later hal
    have hBc14 := hBc13.later hal
    have hA14 := hA13.below hal
    have hNb14 := hNb13.below hal
    have hNc14 := hNc13.below hal
    have hR14 := hR13.below hal
    have hbw14 := bnext hbw13 (Nat.le_refl _) hal
    clear hB13 hBb13 hBc13 hA13 hNb13 hNc13 hR13 hbw13 hal
    go_wp2_with fail
    generalize (w13.alloc (.cells #[.bool s13, .slice p13 n13 n13] 29)) = W14 at *
    generalize w13.heap.size = gd at *
    have k0 := hBb14.c0
    have k1 := hBb14.c1
    have k2 := hB14.c0
    have k3 := hB14.c1
    go_wp2_with fail
    go_region_held3 (fun w' => w'.cell? ⟨gb, 0, none⟩ = some (.bool s9) ∧ w'.cell? ⟨gb, 1, none⟩ = some (.slice p9 n9 n9) ∧ w'.cell? ⟨w.heap.size, 0, none⟩ = some (.bool s) ∧ w'.cell? ⟨w.heap.size, 1, none⟩ = some (.slice p' n' nc')) (first | exact ⟨by assumption, by assumption, by assumption, by assumption⟩ | exact keepc4 (by assumption) (by assumption))
      (first
        | (go_at_call 8; refine (From_ans s p' n' nc' (xs.take 24) _ hA14.drew).mono ?_; rintro e w15 ⟨s15, p15, n15, d15, rfl, hR15, hv15, hn15, hb15⟩; have HV15 : Hid (rval s15 d15 = ival s (xs.take 24)) := hv15; clear hv15)
        | (go_at_call 10; have h1 := hNb14.below (undrew hb15); refine (rIs_rn h1 (by omega) hR15 (by omega) HV15.out).mono ?_; rintro e w16 ⟨rfl, hb16⟩))
    have hb17 := bnext' (undrew hb15) hb16
    have hB16 := hB14.later hb17
    have hBc16 := hBc14.later hb17
    have hBx16 := hBx14.later hb17
    have hA16 := hA14.below hb17
    have hNc16 := hNc14.below hb17
    have hR16 := hR14.below hb17
    have hbw16 := bnext hbw14 (Nat.le_refl _) hb17
    clear k0 k1 k2 k3 hB14 hBb14 hBc14 hBx14 hA14 hNb14 hNc14 hR14 hbw14 hb15 hb16 hb17 h1 hR15 HV15 hn15
    have k0 := hBc16.c0
    have k1 := hBc16.c1
    have k2 := hBx16.c0
    have k3 := hBx16.c1
    go_wp2_with fail
    refine (rIs_rn hNc16 (by omega) hR16 (by omega) HV13.out).mono ?_
    rintro e w17 ⟨rfl, hb17⟩
    have hB17 := hB16.later hb17
    have hA17 := hA16.below hb17
    have hbw17 := bnext hbw16 (Nat.le_refl _) hb17
    clear k0 k1 k2 k3 hB16 hBc16 hBx16 hA16 hNc16 hR16 hbw16 hb17
    have k0 := hB17.c0
    have k1 := hB17.c1
    go_wp2_with fail
    refine (From_ans s p' n' nc' (xs.take 24) _ hA17).mono ?_
    rintro e w18 ⟨s18, p18, n18, d18, rfl, hR18, hv18, hn18, hb18⟩
    obtain ⟨hv18a, hv18b⟩ := sign_same HU.out hR18.u hv18
    have HS18 : Hid (vd d18 = val (xs.take 24) ∧ (0 < val (xs.take 24) → s = s18)) := ⟨hv18a, hv18b⟩
    clear hv18 hv18a hv18b
    have hbw18 := bnext hbw17 (Nat.le_refl _) hb18
    clear k0 k1 hB17 hA17 hbw17 hb18
    go_wp2_with fail
    refine (rText_any s18 p18 n18 d18 _ hR18 (by omega)).mono ?_
    rintro e w19 ⟨tl', rfl, hT', hb19⟩
    have htt : tl = tl' := by
      rw [HS18.out.1] at hT'
      exact HT.out.one hT' HS18.out.2
    have hbw19 := bnext hbw18 (Nat.le_refl _) hb19
    clear hT' hbw18 hb19 HS18 hR18 HT HN HC
    subst htt
    go_wp2
    go_ret
    exact ⟨rfl, hbw19⟩
  · have hI : (400 : Int) < (l.length : Int) := by omega
    have hI2 : ¬ (l.length : Int) ≤ 65536 := by omega
    have hL : Hid (l.length ≤ 400 ∨ 65536 < l.length) := .inr h
    have hLm : Hid (l.length ≤ maxLen) := hlm
    clear h arms
    go_wp2_with fail
    refine (Read_both l _ hL.out hLm.out).mono ?_
    intro e w11 hq
    obtain ⟨s11, p11, n11, z11, zz, cc, rfl, hcc, hN11, hn11, hb11, HC⟩ := hq.form
    clear hq
    have hcI : Hid (cc = 0 ∨ cc = 8) := hcc
    have hc0 : -9223372036854775808 ≤ cc := by omega
    have hc1 : cc ≤ 9223372036854775807 := by omega
    clear hcc
    have hB11 := hB10.later hb11
    have hBb11 := hBb.later hb11
    have hA11 := hA10.below hb11
    have hNb11 := hN10.below hb11
    have hbw11 := bnext hbw10 (Nat.le_refl _) hb11
    clear hB10 hBb hA10 hN10 hbw10 hb11
    go_wp2_with fail
    have hBc : Bx (w11.alloc (.cells #[.bool s11, .slice p11 n11 n11] 24)) w11.heap.size (.bool s11) (.slice p11 n11 n11) := Bx.new _ _ _ rfl
    have hal : Below w11.heap.size w11 (w11.alloc (.cells #[.bool s11, .slice p11 n11 n11] 24)) := bel_al (Below.refl _ _)
    have hB12 := hB11.later hal
    have hBb12 := hBb11.later hal
    have hA12 := hA11.below hal
    have hNb12 := hNb11.below hal
    have hNc12 := (hN11.below hal).mono (Nat.zero_le _)
    have hbw12 := bnext hbw11 (Nat.le_refl _) hal
    generalize (w11.alloc (.cells #[.bool s11, .slice p11 n11 n11] 24)) = W12 at *
    generalize w11.heap.size = gc at *
    clear hB11 hBb11 hA11 hNb11 hN11 hbw11 hal
    refine (rRead_both l _ hL.out hLm.out).mono ?_
    intro e w13 hq
    obtain ⟨s13, p13, n13, d13, rfl, hR13, hv13, hn13, hb13⟩ := hq.form HC.out
    clear hq
    have HV13 : Hid (rval s13 d13 = zz) := hv13
    clear hv13
    have hB13 := hB12.later hb13
    have hBb13 := hBb12.later hb13
    have hBc13 := hBc.later hb13
    have hA13 := hA12.below hb13
    have hNb13 := hNb12.below hb13
    have hNc13 := hNc12.below hb13
    have hbw13 := bnext hbw12 (Nat.le_refl _) hb13
    clear hB12 hBb12 hBc hA12 hNb12 hNc12 hbw12 hb13
    have hBx14 : Bx (w13.alloc (.cells #[.bool s13, .slice p13 n13 n13] 29)) w13.heap.size (.bool s13) (.slice p13 n13 n13) := Bx.new _ _ _ rfl
    have hal : Below w13.heap.size w13 (w13.alloc (.cells #[.bool s13, .slice p13 n13 n13] 29)) := bel_al (Below.refl _ _)
    have hB14 := hB13.later hal
    have hBb14 := hBb13.later hal
    have hBc14 := hBc13.later hal
    have hA14 := hA13.below hal
    have hNb14 := hNb13.below hal
    have hNc14 := hNc13.below hal
    have hR14 := hR13.below hal
    have hbw14 := bnext hbw13 (Nat.le_refl _) hal
    clear hB13 hBb13 hBc13 hA13 hNb13 hNc13 hR13 hbw13 hal
    go_wp2_with fail
    generalize (w13.alloc (.cells #[.bool s13, .slice p13 n13 n13] 29)) = W14 at *
    generalize w13.heap.size = gd at *
    have k0 := hBb14.c0
    have k1 := hBb14.c1
    have k2 := hB14.c0
    have k3 := hB14.c1
    go_wp2_with fail
    go_region_held3 (fun w' => w'.cell? ⟨gb, 0, none⟩ = some (.bool s9) ∧ w'.cell? ⟨gb, 1, none⟩ = some (.slice p9 n9 n9) ∧ w'.cell? ⟨w.heap.size, 0, none⟩ = some (.bool s) ∧ w'.cell? ⟨w.heap.size, 1, none⟩ = some (.slice p' n' nc')) (first | exact ⟨by assumption, by assumption, by assumption, by assumption⟩ | exact keepc4 (by assumption) (by assumption))
      (first
        | (go_at_call 8; refine (From_ans s p' n' nc' (xs.take 24) _ hA14.drew).mono ?_; rintro e w15 ⟨s15, p15, n15, d15, rfl, hR15, hv15, hn15, hb15⟩; have HV15 : Hid (rval s15 d15 = ival s (xs.take 24)) := hv15; clear hv15)
        | (go_at_call 10; have h1 := hNb14.below (undrew hb15); refine (rIs_rn h1 (by omega) hR15 (by omega) HV15.out).mono ?_; rintro e w16 ⟨rfl, hb16⟩))
    have hb17 := bnext' (undrew hb15) hb16
    have hB16 := hB14.later hb17
    have hBc16 := hBc14.later hb17
    have hBx16 := hBx14.later hb17
    have hA16 := hA14.below hb17
    have hNc16 := hNc14.below hb17
    have hR16 := hR14.below hb17
    have hbw16 := bnext hbw14 (Nat.le_refl _) hb17
    clear k0 k1 k2 k3 hB14 hBb14 hBc14 hBx14 hA14 hNb14 hNc14 hR14 hbw14 hb15 hb16 hb17 h1 hR15 HV15 hn15
    have k0 := hBc16.c0
    have k1 := hBc16.c1
    have k2 := hBx16.c0
    have k3 := hBx16.c1
    go_wp2_with fail
    refine (rIs_rn hNc16 (by omega) hR16 (by omega) HV13.out).mono ?_
    rintro e w17 ⟨rfl, hb17⟩
    have hB17 := hB16.later hb17
    have hA17 := hA16.below hb17
    have hbw17 := bnext hbw16 (Nat.le_refl _) hb17
    clear k0 k1 k2 k3 hB16 hBc16 hBx16 hA16 hNc16 hR16 hbw16 hb17
    have k0 := hB17.c0
    have k1 := hB17.c1
    go_wp2_with fail
    refine (From_ans s p' n' nc' (xs.take 24) _ hA17).mono ?_
    rintro e w18 ⟨s18, p18, n18, d18, rfl, hR18, hv18, hn18, hb18⟩
    obtain ⟨hv18a, hv18b⟩ := sign_same HU.out hR18.u hv18
    have HS18 : Hid (vd d18 = val (xs.take 24) ∧ (0 < val (xs.take 24) → s = s18)) := ⟨hv18a, hv18b⟩
    clear hv18 hv18a hv18b
    have hbw18 := bnext hbw17 (Nat.le_refl _) hb18
    clear k0 k1 hB17 hA17 hbw17 hb18
    go_wp2_with fail
    refine (rText_any s18 p18 n18 d18 _ hR18 (by omega)).mono ?_
    rintro e w19 ⟨tl', rfl, hT', hb19⟩
    have htt : tl = tl' := by
      rw [HS18.out.1] at hT'
      exact HT.out.one hT' HS18.out.2
    have hbw19 := bnext hbw18 (Nat.le_refl _) hb19
    clear hT' hbw18 hb19 HS18 hR18 HT HN HC
    subst htt
    go_wp2
    go_ret
    exact ⟨rfl, hbw19⟩
end Go.Proofs.YtgdbhgpabehcfaaDoor
