/-
  ashlarref2.Read.
-/
import Derived.Test.YtongkalfdgleaaaGreatDoorXd
import Derived.Test.YtongkalfdgleaaaGreatDoorRsYgYjXf
namespace Go.Proofs.YtongkalfdgleaaaGreatDoor
open Go.RowKit
set_option linter.unusedVariables false
set_option linter.unusedSimpArgs false

def RrV (l : List UInt8) (w : World) (e : Ending) (w' : World) : Prop :=
  (∃ z s p n, Said1 l (some z) ∧ e = .returned (.tuple #[.agg #[.bool s, .slice p n n], .int .i64 0]) ∧ RV w' (2 * 78) z s p n ∧ Go.Proofs.YtongkalfdgleaaaGreatDoor.From w.heap.size p ∧ Below w.heap.size w w') ∨
  (Said1 l none ∧ e = .returned (.tuple #[.agg #[.bool false, .slice none 0 0], .int .i64 8]) ∧ Below w.heap.size w w')
theorem rRead_v (l : List UInt8) (w : World) (hl : l.length ≤ 700) : Calls Tryz.prog 65 #[.string ⟨l.toArray⟩] w (RrV l w) := by
  refine (rRead_any l w (by omega)).mono ?_
  rintro e w' (⟨s, d, s', p', n', ds, h1, h2, h3, h4, h5, h6, h7⟩ | ⟨h1, h2, h3⟩)
  · have k : RV w' l.length (if s then - dv (bz d) else dv (bz d)) s' p' n' := ⟨ds, h3, h4, h5⟩
    exact .inl ⟨_, s', p', n', .inl ⟨s, d, h1, rfl⟩, h2, k.tight (num_bd h1 hl), h6, h7⟩
  · exact .inr ⟨.inr ⟨h1, rfl⟩, h2, h3⟩
/-- What Read answers. -/
def RmPost (l : List UInt8) (w : World) (e : Ending) (w' : World) : Prop :=
  Below w.heap.size w w' ∧ ((∃ r s p n t q m, l = rtx r ∧ e = .returned (.tuple #[.agg #[.bool s, .slice p n n, .bool t, .slice q m m], .int .i64 0]) ∧ MQ w' 78 s p n t q m r) ∨
    ((∀ r, l ≠ rtx r) ∧ ∃ s p n t q m, e = .returned (.tuple #[.agg #[.bool s, .slice p n n, .bool t, .slice q m m], .int .i64 8]) ∧ MQ w' 78 s p n t q m 0))
/-- A text that is refused. -/
def RyPost (w : World) (e : Ending) (w' : World) : Prop :=
  Below w.heap.size w w' ∧ ∃ s p n t q m, e = .returned (.tuple #[.agg #[.bool s, .slice p n n, .bool t, .slice q m m], .int .i64 8]) ∧ MQ w' 78 s p n t q m 0
theorem end_ry {w W w1 : World} {g : Nat} {s t : Bool} {p q : Option Addr} {n m : Nat} {u v x y : Value} (hw : Below w.heap.size w W) (hg : w.heap.size ≤ g) (hg' : g < W.heap.size) (hb : Below W.heap.size W w1)
    (h : MQ w1 2 s p n t q m ((0 : Int) : Rat)) (hp : Go.Proofs.YtongkalfdgleaaaGreatDoor.From W.heap.size p) (hq : Go.Proofs.YtongkalfdgleaaaGreatDoor.From W.heap.size q) :
    RyPost w (.returned (.tuple #[.agg #[.bool s, .slice p n n, .bool t, .slice q m m], .int .i64 8])) ((((w1.setCell ⟨g, 0, none⟩ u).setCell ⟨g, 1, none⟩ v).setCell ⟨g, 2, none⟩ x).setCell ⟨g, 3, none⟩ y) :=
  ⟨bset4 (bnext' hw hb) hg _ _ _ _, s, p, n, t, q, m, rfl, ⟨(h.num.up (by decide)).set4 (fun _ => off_from hp hg') _ _ _ _, (h.den.up (by decide)).set4 (fun _ => off_from hq hg') _ _ _ _⟩⟩
theorem said_some {l : List UInt8} {z : Int} (h : Said1 l (some z)) : l = itx z := by
  rcases h with ⟨s, d, h1, h2⟩ | ⟨-, h2⟩
  · rw [Option.some.inj h2]; exact canon h1
  · cases h2
theorem ext_all (l : List UInt8) : (⟨l.toArray⟩ : ByteArray).extract 0 l.length = ⟨l.toArray⟩ := by
  rw [ByteArray.extract_mk]; simp
theorem slash_den {l a b : List UInt8} {r : Rat} (h : l = a ++ 47 :: b) (hr : l = rtx r) : ¬ r.den = 1 := fun e => by
  have hm : (47 : UInt8) ∈ l := by rw [h]; simp
  rw [hr, rtx_whole e] at hm
  exact itx_slash _ hm
theorem broken_none {l a b : List UInt8} (h : Broken l a b) (ha : Said1 a none) {r : Rat} (hr : l = rtx r) : False := by
  obtain ⟨v, hv⟩ : ∃ v, Said1 b v := by
    rcases Classical.em (∃ s d, IsNum b s d) with ⟨s, d, k⟩ | k
    · exact ⟨_, .inl ⟨s, d, k, rfl⟩⟩
    · exact ⟨none, .inr ⟨fun s d e => k ⟨s, d, e⟩, rfl⟩⟩
  exact absurd (h.rtx hr ha hv).1 (by simp)
theorem int_rtx (z : Int) : rtx (z : Rat) = itx z := rtx_whole rfl
/-- A quotient in lowest terms, as it was written. -/
theorem part_rtx {l a b : List UInt8} {z1 z2 : Int} (h : l = a ++ 47 :: b) (ha : Said1 a (some z1)) (hb : Said1 b (some z2)) (hz : 0 < z2) (hd : ¬ (Rat.divInt z1 z2).den = 1) (he : ((Rat.divInt z1 z2).den : Int) = z2) : l = rtx (Rat.divInt z1 z2) := by
  have hn : (Rat.divInt z1 z2).num = z1 := by
    have h1 : Rat.divInt (Rat.divInt z1 z2).num ((Rat.divInt z1 z2).den : Int) = Rat.divInt z1 z2 := Rat.num_divInt_den _
    rw [he] at h1
    have h2 := (Rat.divInt_eq_divInt_iff (by omega) (by omega)).1 h1
    exact Int.eq_of_mul_eq_mul_right (by omega) h2
  rw [rtx_part hd, hn, he, h, said_some ha, said_some hb]
theorem same_rtx {l a b : List UInt8} {z1 z2 : Int} {r : Rat} (h : Broken l a b) (ha : Said1 a (some z1)) (hb : Said1 b (some z2)) (hr : l = rtx r) : Rat.divInt z1 z2 = r ∧ z2 = (r.den : Int) := by
  obtain ⟨h1, h2⟩ := h.rtx hr ha hb
  have e1 := Option.some.inj h1
  have e2 := Option.some.inj h2
  subst e1 e2
  exact ⟨Rat.num_divInt_den _, rfl⟩
theorem no_slash {l : List UInt8} (h : ∀ j, j < l.length → gx (bz l) j ≠ 47) : (47 : UInt8) ∉ l := by
  intro hm
  obtain ⟨j, hj, he⟩ := List.mem_iff_getElem.1 hm
  refine h j hj ?_
  have hj' : j < (bz l).length := by rw [length_bz]; exact hj
  rw [gx_mem _ _ hj']
  simp [bz, he]
theorem cut_at {l : List UInt8} {k : Nat} (hk : k < l.length) (h : gx (bz l) k = 47) (hb : ∀ j, j < k → gx (bz l) j ≠ 47) : ∃ a b, l = a ++ 47 :: b ∧ (47 : UInt8) ∉ a ∧ a.length = k := by
  have hk' : k < (bz l).length := by rw [length_bz]; exact hk
  have h3 : l[k] = 47 := by
    rw [gx_mem _ _ hk'] at h
    simp [bz] at h
    have h' : l[k].toNat = 47 := by omega
    exact UInt8.toNat_inj.1 h'
  have h4 := List.take_append_drop k l
  rw [List.drop_eq_getElem_cons hk, h3] at h4
  have h5 : (l.take k).length = k := by rw [List.length_take_of_le (by omega)]
  refine ⟨l.take k, l.drop (k + 1), h4.symm, no_slash fun j hj => ?_, h5⟩
  rw [h5] at hj
  have h6 : bz (l.take k) = (bz l).take k := by simp [bz, List.map_take]
  rw [h6, gx_take _ _ _ hj]
  exact hb j hj
set_option maxHeartbeats 2000000 in
set_option maxRecDepth 100000 in
/-- ashlarref2.Read: texts that are too long. -/
theorem rqRead_long (l : List UInt8) (w : World) (hl : l.length ≤ maxLen) (h : 65536 < l.length) :
    Calls Tryz.prog 36 #[.string ⟨l.toArray⟩] w (RyPost w) := by
  have hlm := hl
  unfold maxLen at hlm
  have hI : (65536 : Int) < (l.length : Int) := by omega
  go_enter Tryz.func36, Tryz.ntmps36
  go_wp2_with fail
  have hR0 : Bq (w.alloc (.cells #[.bool false, .slice none 0 0, .bool false, .slice none 0 0] 33)) w.heap.size (.bool false) (.slice none 0 0) (.bool false) (.slice none 0 0) := Bq.new _ _ _ _ _ rfl
  have hW0 : Below w.heap.size w (w.alloc (.cells #[.bool false, .slice none 0 0, .bool false, .slice none 0 0] 33)) := (Below.refl _ _).alloc (Nat.le_refl _) _
  generalize w.alloc (.cells #[.bool false, .slice none 0 0, .bool false, .slice none 0 0] 33) = W0 at *
  refine (rOf_q 0 _ (by decide) (by decide)).mono ?_
  rintro e w1 ⟨s9, p9, n9, t9, q9, m9, rfl, hM9, hF9, hF9', hb9⟩
  obtain ⟨r0, r1, r2, r3, f0, f1, f2, f3⟩ := hR0.later hb9
  go_wp2
  refine bodyPost_ret (v := .tuple #[.agg #[.bool s9, .slice p9 n9 n9, .bool t9, .slice q9 m9 m9], .int .i64 8]) (by simp [results, Tryz.results36, go_sem, r0, r1, r2, r3]) rfl ?_
  exact end_ry hW0 (Nat.le_refl _) hR0.lt hb9 hM9 hF9 hF9'
set_option maxHeartbeats 4000000 in
set_option maxRecDepth 100000 in
/-- ashlarref2.Read. -/
theorem rqRead_q (l : List UInt8) (w : World) (hl : l.length ≤ 700) :
    Calls Tryz.prog 36 #[.string ⟨l.toArray⟩] w (RmPost l w) := by
  have hI : (l.length : Int) ≤ 65536 := by omega
  go_enter Tryz.func36, Tryz.ntmps36
  go_wp2_with fail
  have hR0 : Bq (w.alloc (.cells #[.bool false, .slice none 0 0, .bool false, .slice none 0 0] 33)) w.heap.size (.bool false) (.slice none 0 0) (.bool false) (.slice none 0 0) := Bq.new _ _ _ _ _ rfl
  have hW0 : Below w.heap.size w (w.alloc (.cells #[.bool false, .slice none 0 0, .bool false, .slice none 0 0] 33)) := (Below.refl _ _).alloc (Nat.le_refl _) _
  generalize w.alloc (.cells #[.bool false, .slice none 0 0, .bool false, .slice none 0 0] 33) = W0 at *
  go_loop [4] (fun iv => ∃ k : Nat, k ≤ l.length ∧ iv = .int .i64 k ∧ Hid (∀ j, j < k → gx (bz l) j ≠ 47)) (fun iv => (l.length - intOf iv).toNat)
  case atStart => exact ⟨0, Nat.zero_le _, by go_num, fun j hj => by omega⟩
  case round =>
    obtain ⟨k, hk, rfl, H⟩ := hrel
    by_cases hlt : k < l.length
    · have hg := gx_bz l k hlt (by rw [size_bl]; exact hlt)
      by_cases h1 : gx (bz l) k = 47
      · have hab : Hid (∃ a b, l = a ++ 47 :: b ∧ (47 : UInt8) ∉ a ∧ a.length = k) := cut_at hlt h1 H.out
        obtain ⟨a, b, hab1, hab2, rfl⟩ := hab.out
        have hab' : Hid (l = a ++ 47 :: b ∧ (47 : UInt8) ∉ a) := ⟨hab1, hab2⟩
        have e0 : (gx (bz l) a.length != 47) = false := by simpa using h1
        have e1 : (gx (bz l) a.length == 47) = true := by simpa using h1
        clear hab hab1 hab2 H h1
        have HB : Hid (Broken l a b) := Broken.at hab'.out.1 hab'.out.2
        have hlen : l.length = a.length + (b.length + 1) := by rw [hab'.out.1]; simp
        have x1 : (⟨l.toArray⟩ : ByteArray).extract 0 a.length = ⟨a.toArray⟩ := by rw [hab'.out.1]; exact ext_left a b
        have x2 : (⟨l.toArray⟩ : ByteArray).extract (a.length + 1) l.length = ⟨b.toArray⟩ := by rw [hlen, hab'.out.1]; exact ext_right a b
        have la : a.length ≤ 700 := by omega
        have lb : b.length ≤ 700 := by omega
        have c2 : ((a.length : Int) == (l.length : Int)) = false := by rw [beq_eq_false_iff_ne]; omega
        have c3 : (a.length : Int) + 1 ≤ (l.length : Int) := by omega
        have c4 : ((a.length : Int) + 1).toNat = a.length + 1 := by omega
        have wr : IntKind.i64.wrap ((a.length : Int) + 1) = (a.length : Int) + 1 := by rw [IntKind.wrap_i64]; omega
        clear hlen
        go_wp2_with fail
        refine (rRead_v a _ la).mono ?_
        rintro e w1 (⟨z1, s1, p1, n1, hs1, rfl, hr1, hF1, hb1⟩ | ⟨hs1, rfl, hb1⟩)
        · have H1 : Hid (Said1 a (some z1)) := hs1
          have hal := bel_al (o := .cells #[.bool s1, .slice p1 n1 n1] 31) hb1
          have hW1 := bnext' hW0 hal
          have hR1 := hR0.later hal
          have hX1 : Bx (w1.alloc (.cells #[.bool s1, .slice p1 n1 n1] 31)) w1.heap.size (.bool s1) (.slice p1 n1 n1) := Bx.new _ _ _ rfl
          have hr1' := hr1.alloc (.cells #[.bool s1, .slice p1 n1 n1] 31)
          clear hs1 hal hW0 hR0 hr1 hb1 x1
          go_wp2_with fail
          generalize w1.alloc (.cells #[.bool s1, .slice p1 n1 n1] 31) = W1 at *
          generalize w1.heap.size = g1 at *
          refine (rRead_v b _ lb).mono ?_
          rintro e w2 (⟨z2, s2, p2, n2, hs2, rfl, hr2, hF2, hb2⟩ | ⟨hs2, rfl, hb2⟩)
          · have H2 : Hid (Said1 b (some z2)) := hs2
            have hal := bel_al (o := .cells #[.bool s2, .slice p2 n2 n2] 31) hb2
            have hW2 := bnext' hW1 hal
            have hR2 := hR1.later hal
            have hX2 := hX1.later hal
            have hY2 : Bx (w2.alloc (.cells #[.bool s2, .slice p2 n2 n2] 31)) w2.heap.size (.bool s2) (.slice p2 n2 n2) := Bx.new _ _ _ rfl
            have hr1a := hr1'.below hal
            have hr2' := hr2.alloc (.cells #[.bool s2, .slice p2 n2 n2] 31)
            clear hs2 hal hW1 hR1 hX1 hr1' hr2 hb2 x2 c2 c3 c4 wr e0 e1 hg hlt hk hI hl
            have j0 := hY2.c0
            have j1 := hY2.c1
            go_wp2_with fail
            generalize w2.alloc (.cells #[.bool s2, .slice p2 n2 n2] 31) = W2 at *
            generalize w2.heap.size = g2 at *
            have hsg := rSign_v hr2'
            have hcs : Hid ((0 < z2 ∧ isgn z2 = 1) ∨ (z2 ≤ 0 ∧ (isgn z2 = 0 ∨ isgn z2 = -1))) := by
              rcases Int.lt_trichotomy z2 0 with h | h | h
              · exact .inr ⟨by omega, .inr (isgn_neg h)⟩
              · exact .inr ⟨by omega, .inl (isgn_zero h)⟩
              · exact .inl ⟨h, isgn_pos h⟩
            rcases hcs.out with ⟨hz, hi⟩ | ⟨hz, hi⟩
            · rw [hi] at hsg
              have HZ : Hid (0 < z2) := hz
              clear hcs hz hi
              refine hsg.mono ?_
              rintro e w3 ⟨rfl, hb3⟩
              have hW3 := bnext' hW2 hb3
              have hR3 := hR2.later hb3
              have hX3 := hX2.later hb3
              have hY3 := hY2.later hb3
              have hr1b := hr1a.below hb3
              have hr2b := hr2'.below hb3
              clear hsg j0 j1 hW2 hR2 hX2 hY2 hr1a hr2' hb3
              have i0 := hX3.c0
              have i1 := hX3.c1
              have j0 := hY3.c0
              have j1 := hY3.c1
              go_wp2_with fail
              refine (Make_v (K := 78) hr1b hr2b (by decide) (by decide) (parse_sz (by have := hr1b.bd; rwa [pd_two] at this) (by have := hr2b.bd; rwa [pd_two] at this))).mono ?_
              rintro e w4 ⟨s5, p5, n5, t5, q5, m5, rfl, hM5, hF5, hF5', hb4⟩
              have hal := bel_al (o := .cells #[.bool s5, .slice p5 n5 n5, .bool t5, .slice q5 m5 m5] 33) hb4
              have hW4 := bnext' hW3 hal
              have hR4 := hR3.later hal
              have hY4 := hY3.later hal
              have hA4 : Bq (w4.alloc (.cells #[.bool s5, .slice p5 n5 n5, .bool t5, .slice q5 m5 m5] 33)) w4.heap.size (.bool s5) (.slice p5 n5 n5) (.bool t5) (.slice q5 m5 m5) := Bq.new _ _ _ _ _ rfl
              have hM6 := hM5.alloc (.cells #[.bool s5, .slice p5 n5 n5, .bool t5, .slice q5 m5 m5] 33)
              have hr2c := hr2b.below hal
              have sR3 := hR3.lt
              clear i0 i1 j0 j1 hal hW3 hR3 hX3 hY3 hr1b hr2b hM5 hb4
              have a0 := hA4.c0
              have a1 := hA4.c1
              have a2 := hA4.c2
              have a3 := hA4.c3
              go_wp2_with fail
              generalize w4.alloc (.cells #[.bool s5, .slice p5 n5 n5, .bool t5, .slice q5 m5 m5] 33) = W4 at *
              generalize w4.heap.size = g4 at *
              generalize hr : Rat.divInt z1 z2 = r at *
              have HRR := (show Hid _ from hr)
              clear hr
              have hwh := rwhole_q hM6
              have hc1 : Hid (r.den = 1 ∨ ¬ r.den = 1) := Classical.em _
              rcases hc1.out with hd | hd
              · rw [decide_eq_true hd] at hwh
                have HD : Hid (r.den = 1) := hd
                clear hd hc1
                refine hwh.mono ?_
                rintro e w5 ⟨rfl, hb5⟩
                have hW5 := bnext' hW4 hb5
                have hR5 := hR4.later hb5
                clear hwh a0 a1 a2 a3
                go_wp2_with fail
                refine (rOf_q 0 _ (by decide) (by decide)).mono ?_
                rintro e w9 ⟨s9, p9, n9, t9, q9, m9, rfl, hM9, hF9, hF9', hb9⟩
                obtain ⟨r0, r1, r2, r3, f0, f1, f2, f3⟩ := hR5.later hb9
                go_wp2
                refine bodyPost_ret (v := .tuple #[.agg #[.bool s9, .slice p9 n9 n9, .bool t9, .slice q9 m9 m9], .int .i64 8]) (by simp [results, Tryz.results36, go_sem, r0, r1, r2, r3]) rfl ?_
                obtain ⟨k1, k2⟩ := end_ry hW5 (Nat.le_refl _) hR5.lt hb9 hM9 hF9 hF9' (u := .bool s9) (v := .slice p9 n9 n9) (x := .bool t9) (y := .slice q9 m9 m9)
                exact ⟨k1, .inr ⟨fun r0 hr => slash_den hab'.out.1 hr (by rw [← (same_rtx HB.out H1.out H2.out hr).1, HRR.out]; exact HD.out), k2⟩⟩
              · rw [decide_eq_false hd] at hwh
                have HD : Hid (¬ r.den = 1) := hd
                clear hd hc1
                refine hwh.mono ?_
                rintro e w5 ⟨rfl, hb5⟩
                have hW5 := bnext' hW4 hb5
                have hR5 := hR4.later hb5
                have hA5 := hA4.later hb5
                have hY5 := hY4.later hb5
                have hM7 := hM6.below hb5
                have hr2d := hr2c.below hb5
                clear hwh a0 a1 a2 a3 hW4 hR4 hA4 hY4 hM6 hr2c hb5
                have a2 := hA5.c2
                have a3 := hA5.c3
                have j0 := hY5.c0
                have j1 := hY5.c1
                go_wp2_with fail
                have hcm := rCmp_v hM7.den hr2d
                have hc2 : Hid (((r.den : Int) = z2 ∧ icmp (r.den : Int) z2 = 0) ∨ (¬ (r.den : Int) = z2 ∧ (icmp (r.den : Int) z2 = -1 ∨ icmp (r.den : Int) z2 = 1))) := by
                  rcases Int.lt_trichotomy (r.den : Int) z2 with h | h | h
                  · exact .inr ⟨by omega, .inl (icmp_lt h)⟩
                  · exact .inl ⟨h, by rw [h, icmp_eq]⟩
                  · exact .inr ⟨by omega, .inr (icmp_gt h)⟩
                rcases hc2.out with ⟨hq, hi⟩ | ⟨hq, hi⟩
                · rw [hi] at hcm
                  have HQ : Hid ((r.den : Int) = z2) := hq
                  clear hc2 hq hi
                  refine hcm.mono ?_
                  rintro e w6 ⟨rfl, hb6⟩
                  have hW6 := bnext' hW5 hb6
                  have hM8 := hM7.below hb6
                  clear hcm a2 a3 j0 j1
                  obtain ⟨a0, a1, a2, a3, -, -, -, -⟩ := hA5.later hb6
                  obtain ⟨r0, r1, r2, r3, f0, f1, f2, f3⟩ := hR5.later hb6
                  go_wp2
                  refine bodyPost_ret (v := .tuple #[.agg #[.bool s5, .slice p5 n5 n5, .bool t5, .slice q5 m5 m5], .int .i64 0]) (by simp [results, Tryz.results36, go_sem, r0, r1, r2, r3]) rfl ⟨bset4 hW6 (Nat.le_refl _) _ _ _ _, .inl ⟨r, s5, p5, n5, t5, q5, m5, ?_, rfl, ?_, ?_⟩⟩
                  · have h1 := part_rtx hab'.out.1 H1.out H2.out HZ.out (by rw [HRR.out]; exact HD.out) (by rw [HRR.out]; exact HQ.out)
                    rwa [HRR.out] at h1
                  · exact hM8.num.set4 (fun _ => off_from hF5 sR3) _ _ _ _
                  · exact hM8.den.set4 (fun _ => off_from hF5' sR3) _ _ _ _
                · have HQ : Hid (¬ (r.den : Int) = z2) := hq
                  clear hc2 hq
                  rcases hi with hi | hi
                  all_goals
                    rw [hi] at hcm
                    refine hcm.mono ?_
                    rintro e w6 ⟨rfl, hb6⟩
                    have hW6 := bnext' hW5 hb6
                    have hR6 := hR5.later hb6
                    clear hcm a2 a3 j0 j1 hi
                    go_wp2_with fail
                    refine (rOf_q 0 _ (by decide) (by decide)).mono ?_
                    rintro e w9 ⟨s9, p9, n9, t9, q9, m9, rfl, hM9, hF9, hF9', hb9⟩
                    obtain ⟨r0, r1, r2, r3, f0, f1, f2, f3⟩ := hR6.later hb9
                    go_wp2
                    refine bodyPost_ret (v := .tuple #[.agg #[.bool s9, .slice p9 n9 n9, .bool t9, .slice q9 m9 m9], .int .i64 8]) (by simp [results, Tryz.results36, go_sem, r0, r1, r2, r3]) rfl ?_
                    obtain ⟨k1, k2⟩ := end_ry hW6 (Nat.le_refl _) hR6.lt hb9 hM9 hF9 hF9' (u := .bool s9) (v := .slice p9 n9 n9) (x := .bool t9) (y := .slice q9 m9 m9)
                    exact ⟨k1, .inr ⟨fun r0 hr => by obtain ⟨h1, h2⟩ := same_rtx HB.out H1.out H2.out hr; rw [HRR.out] at h1; exact HQ.out (by rw [h1, h2]), k2⟩⟩
            · clear hcs
              have HZ : Hid (z2 ≤ 0) := hz
              clear hz
              rcases hi with hi | hi
              all_goals
                rw [hi] at hsg
                refine hsg.mono ?_
                rintro e w3 ⟨rfl, hb3⟩
                have hW3 := bnext' hW2 hb3
                have hR3 := hR2.later hb3
                clear hsg j0 j1 hi
                go_wp2_with fail
                refine (rOf_q 0 _ (by decide) (by decide)).mono ?_
                rintro e w9 ⟨s9, p9, n9, t9, q9, m9, rfl, hM9, hF9, hF9', hb9⟩
                obtain ⟨r0, r1, r2, r3, f0, f1, f2, f3⟩ := hR3.later hb9
                go_wp2
                refine bodyPost_ret (v := .tuple #[.agg #[.bool s9, .slice p9 n9 n9, .bool t9, .slice q9 m9 m9], .int .i64 8]) (by simp [results, Tryz.results36, go_sem, r0, r1, r2, r3]) rfl ?_
                obtain ⟨k1, k2⟩ := end_ry hW3 (Nat.le_refl _) hR3.lt hb9 hM9 hF9 hF9' (u := .bool s9) (v := .slice p9 n9 n9) (x := .bool t9) (y := .slice q9 m9 m9)
                exact ⟨k1, .inr ⟨fun r0 hr => by have h1 := (same_rtx HB.out H1.out H2.out hr).2; have h2 := r0.den_nz; have h3 := HZ.out; omega, k2⟩⟩
          · have H2 : Hid (Said1 b none) := hs2
            have hal := bel_al (o := .cells #[.bool false, .slice none 0 0] 31) hb2
            have hW2 := bnext' hW1 hal
            have hR2 := hR1.later hal
            clear hs2 hal hW1 hR1 hb2
            go_wp2_with fail
            refine (rOf_q 0 _ (by decide) (by decide)).mono ?_
            rintro e w9 ⟨s9, p9, n9, t9, q9, m9, rfl, hM9, hF9, hF9', hb9⟩
            obtain ⟨r0, r1, r2, r3, f0, f1, f2, f3⟩ := hR2.later hb9
            go_wp2
            refine bodyPost_ret (v := .tuple #[.agg #[.bool s9, .slice p9 n9 n9, .bool t9, .slice q9 m9 m9], .int .i64 8]) (by simp [results, Tryz.results36, go_sem, r0, r1, r2, r3]) rfl ?_
            obtain ⟨k1, k2⟩ := end_ry hW2 (Nat.le_refl _) hR2.lt hb9 hM9 hF9 hF9' (u := .bool s9) (v := .slice p9 n9 n9) (x := .bool t9) (y := .slice q9 m9 m9)
            exact ⟨k1, .inr ⟨fun r0 hr => absurd (HB.out.rtx hr H1.out H2.out).2 (by simp), k2⟩⟩
        · have H1 : Hid (Said1 a none) := hs1
          have hal := bel_al (o := .cells #[.bool false, .slice none 0 0] 31) hb1
          have hW1 := bnext' hW0 hal
          have hR1 := hR0.later hal
          clear hs1 hal hW0 hR0 hb1
          go_wp2_with fail
          refine (rOf_q 0 _ (by decide) (by decide)).mono ?_
          rintro e w9 ⟨s9, p9, n9, t9, q9, m9, rfl, hM9, hF9, hF9', hb9⟩
          obtain ⟨r0, r1, r2, r3, f0, f1, f2, f3⟩ := hR1.later hb9
          go_wp2
          refine bodyPost_ret (v := .tuple #[.agg #[.bool s9, .slice p9 n9 n9, .bool t9, .slice q9 m9 m9], .int .i64 8]) (by simp [results, Tryz.results36, go_sem, r0, r1, r2, r3]) rfl ?_
          obtain ⟨k1, k2⟩ := end_ry hW1 (Nat.le_refl _) hR1.lt hb9 hM9 hF9 hF9' (u := .bool s9) (v := .slice p9 n9 n9) (x := .bool t9) (y := .slice q9 m9 m9)
          exact ⟨k1, .inr ⟨fun r0 hr => broken_none HB.out H1.out hr, k2⟩⟩
      · have e0 : (gx (bz l) k != 47) = true := by simpa using h1
        have H1 : Hid (gx (bz l) k ≠ 47) := h1
        clear h1
        go_wp2
        refine ⟨⟨k + 1, by omega, by go_num, fun j hj => ?_⟩, by simp [intOf]; omega⟩
        rcases Nat.lt_or_ge j k with h | h
        · exact H.out j h
        · obtain rfl : j = k := by omega
          exact H1.out
    · obtain rfl : k = l.length := by omega
      have HN : Hid ((47 : UInt8) ∉ l) := no_slash H.out
      clear hlt hk H
      have HB : Hid (Broken l l [49]) := Broken.not HN.out
      have x0 := ext_all l
      go_wp2_with fail
      refine (rRead_v l _ hl).mono ?_
      rintro e w1 (⟨z1, s1, p1, n1, hs1, rfl, hr1, hF1, hb1⟩ | ⟨hs1, rfl, hb1⟩)
      · have H1 : Hid (Said1 l (some z1)) := hs1
        have hal := bel_al (o := .cells #[.bool s1, .slice p1 n1 n1] 31) hb1
        have hW1 := bnext' hW0 hal
        have hR1 := hR0.later hal
        have hX1 : Bx (w1.alloc (.cells #[.bool s1, .slice p1 n1 n1] 31)) w1.heap.size (.bool s1) (.slice p1 n1 n1) := Bx.new _ _ _ rfl
        have hr1' := hr1.alloc (.cells #[.bool s1, .slice p1 n1 n1] 31)
        have sR := hR0.lt
        clear hs1 hal hW0 hR0 hr1 hb1 x0
        have k0 := hX1.c0
        have k1 := hX1.c1
        go_wp2_with fail
        generalize w1.alloc (.cells #[.bool s1, .slice p1 n1 n1] 31) = W1 at *
        refine (rInt_q (K := 78) hr1' (by decide)).mono ?_
        rintro e w2 ⟨t2, q2, m2, rfl, hm2, hF2, hb2⟩
        obtain ⟨r0, r1, r2, r3, f0, f1, f2, f3⟩ := hR1.later hb2
        have sR1 := hR1.lt
        clear k0 k1
        go_wp2
        refine bodyPost_ret (v := .tuple #[.agg #[.bool s1, .slice p1 n1 n1, .bool t2, .slice q2 m2 m2], .int .i64 0]) (by simp [results, Tryz.results36, go_sem, r0, r1, r2, r3]) rfl ⟨bset4 (bnext' hW1 hb2) (Nat.le_refl _) _ _ _ _, .inl ⟨(z1 : Rat), s1, p1, n1, t2, q2, m2, ?_, rfl, ?_, ?_⟩⟩
        · rw [int_rtx]; exact said_some H1.out
        · exact hm2.num.set4 (fun _ => off_from hF1 sR) _ _ _ _
        · exact hm2.den.set4 (fun _ => off_from hF2 sR1) _ _ _ _
      · have H1 : Hid (Said1 l none) := hs1
        have hal := bel_al (o := .cells #[.bool false, .slice none 0 0] 31) hb1
        have hW1 := bnext' hW0 hal
        have hR1 := hR0.later hal
        clear hs1 hal hW0 hR0 hb1 x0
        go_wp2_with fail
        refine (rOf_q 0 _ (by decide) (by decide)).mono ?_
        rintro e w9 ⟨s9, p9, n9, t9, q9, m9, rfl, hM9, hF9, hF9', hb9⟩
        obtain ⟨r0, r1, r2, r3, f0, f1, f2, f3⟩ := hR1.later hb9
        go_wp2
        refine bodyPost_ret (v := .tuple #[.agg #[.bool s9, .slice p9 n9 n9, .bool t9, .slice q9 m9 m9], .int .i64 8]) (by simp [results, Tryz.results36, go_sem, r0, r1, r2, r3]) rfl ?_
        obtain ⟨k1, k2⟩ := end_ry hW1 (Nat.le_refl _) hR1.lt hb9 hM9 hF9 hF9' (u := .bool s9) (v := .slice p9 n9 n9) (x := .bool t9) (y := .slice q9 m9 m9)
        exact ⟨k1, .inr ⟨fun r0 hr => absurd (HB.out.rtx hr H1.out said_one).1 (by simp), k2⟩⟩
end Go.Proofs.YtongkalfdgleaaaGreatDoor
