/-
  ashlarlaw8.Cut, few.
-/
import Derived.Test.YtcdfckjlmifjiaaDpOwPnWkWlBx
import Derived.Test.YtcdfckjlmifjiaaBbCvDj
import Derived.Deep.DeepFit
import Derived.Test.YtcdfckjlmifjiaaOaWaWbWcWdWeNi
import Derived.Test.YtcdfckjlmifjiaaUaOfVg
namespace Go.Proofs.Ytcdfckjlmifjiaa
open Go.RowKit
set_option linter.unusedVariables false
set_option linter.unusedSimpArgs false

theorem info_op : (Try.prog.info? 25).map (fun i => (i.zero, i.size, i.bytes)) = some (some (.slice none 0 0), 1, 24) := by kernel_rfl
theorem ez_cut {n E L : Nat} {w w' : World} {q : Option Addr} {m mc : Nat} {fs : List Ent} {zs : List Int} (h : PA w' L q m mc fs zs) (hm : m = min n E) (h1 : Go.Proofs.Ytcdfckjlmifjiaa.From w.heap.size q) (h2 : ∀ j, j < m → 0 < (ge fs j).n → Go.Proofs.Ytcdfckjlmifjiaa.From w.heap.size (ge fs j).p) : EZ L E w' w.heap.size w'.heap.size zs ⟨q, m, mc⟩ := by
  refine ⟨fs, h, by show m ≤ E; omega, fun a ha hn => ⟨h1 a ha, ?_⟩, fun j hj hn a ha => ⟨h2 j hj hn a ha, (lasts_EV L).lt (h.ev j hj) hn a ha⟩⟩
  obtain ⟨b, o, hp, hlt⟩ := h.pl.lt (by rw [h.el]; exact hn)
  simp only at ha
  rw [hp] at ha
  cases ha
  exact hlt
/-- What Cut answers. -/
def CoP (n R E L : Nat) (w : World) (e : Ending) (w' : World) : Prop :=
  ∃ h zss, e = .returned (Hdr.val h) ∧ h.n = min n R ∧ HR R (EZ L E) w' w.heap.size w'.heap.size zss h ∧ Below w.heap.size w w'
set_option maxHeartbeats 4000000 in
set_option maxRecDepth 100000 in
/-- ashlarlaw8.Cut. -/
theorem Cut8_any {w : World} {p : Option Addr} {n nc : Nat} {hs0 : List Hdr} (h : RZ w p n nc hs0) (R E L : Nat) (hR : R ≤ 1000) (hE : E ≤ 1000) (hL : L ≤ 24) :
    Calls Try.prog 6 #[.slice p n nc, .int .i64 R, .int .i64 E, .int .i64 L] w (CoP n (R + 1) E L w) := by
  obtain ⟨i0, hi, hzz⟩ := Option.map_eq_some_iff.1 info_op
  simp only [Prod.mk.injEq] at hzz
  obtain ⟨hz0, hz1, hz2⟩ := hzz
  have HI : Hid (Try.prog.info? 25 = some i0 ∧ i0.zero = some (.slice none 0 0) ∧ i0.size = 1 ∧ i0.bytes = 24) := ⟨hi, hz0, hz1, hz2⟩
  clear hi hz0 hz1 hz2
  have HX : Hid (RZ w p n nc hs0) := h
  have hnm : n ≤ 9223372036854775807 := by have h1 := h.cap; have h2 := h.bnd; unfold maxLen at h2; omega
  clear h
  go_enter Try.func6, Try.ntmps6
  go_wp2_with fail
  go_loopw [9, 10] (fun rv jv wq => ∃ (j : Nat) (rs : List Hdr) (zss : List (List Int)), j ≤ min n (R + 1) ∧ jv = .int .i64 j ∧ Hid (rs.length = j ∧ LH w.heap.size 25 (EZ L E) wq rv rs zss ∧ Below w.heap.size w wq)) (fun _ jv _ => min n (R + 1) - (intOf jv).toNat)
  case atStart => exact ⟨0, [], [], Nat.zero_le _, by go_num, rfl, LH.nil _ _ _ _, Below.refl _ _⟩
  case round =>
    obtain ⟨j, rs, zss, hj, rfl, G⟩ := hrel
    rcases Nat.lt_or_ge j (min n (R + 1)) with hlt1 | hge1
    · obtain ⟨gel, gLH, gB⟩ := G.out
      have hN := HX.out.below gB
      obtain ⟨b1, o1, hp1, hc1⟩ := hN.hl (by rw [hN.el]; omega)
      subst hp1
      have c1 := hc1 j (by rw [hN.el]; omega)
      obtain ⟨es2, hP2⟩ := hN.ev j (by omega)
      generalize gh hs0 j = hd2 at c1 hP2
      obtain ⟨p2, n2, nc2⟩ := hd2
      simp only [Hdr.val] at c1 hP2
      have j1 : (j : Int) < (n : Int) := by omega
      have j2 : (j : Int) ≤ (R : Int) := by omega
      clear gel gLH gB hc1 hN
      go_wp2_with fail
      go_fit (Cut3_any hP2 E L hE hL)
      rintro e w1 ⟨q, m, mc, fs, zs, rfl, hPA, hm, hF1, hF2, hb1⟩
      have HE : Hid (EZ L E w1 wr.heap.size w1.heap.size zs ⟨q, m, mc⟩) := ez_cut hPA hm hF1 hF2
      have hown0 := own_below G.out.2.1.own hb1
      rw [G.out.1] at hown0
      have HO : Hid (w1.ownsRow w.heap.size 25 1 u9 j (rs.map Hdr.val)) := hown0
      have hsz : w.heap.size ≤ w1.heap.size := Nat.le_trans G.out.2.2.size hb1.size
      obtain ⟨hi, hz0, hz1, hz2⟩ := HI.out
      clear hown0 hPA hm hF1 hF2 c1 hP2
      go_wp2_with (refine wpList_append_lies _ rfl _ _ 23 rfl w.heap.size 25 i0 (.slice none 0 0) 1 24 Try.underlying23 hi hz0 hz1 hz2 rfl (by decide) u9 j (rs.map Hdr.val) rfl (HO.out.alloc _) ⟨w1.heap.size, 0, none⟩ 1 1 [.slice q m mc] rfl rfl ?_ (fun x hx => by simp at hx; subst hx; rfl) (by decide) (by unfold maxLen; omega) (by omega) (by simp; omega) _ rfl ?_; exact World.news_of_block (heap_alloc_new w1 _); intro g cap w3 hown3 hgrow3 hat3 hlt3; have hB3 : Below w.heap.size w w3 := ((bnext' G.out.2.2 hb1).alloc hsz _).grown hgrow3 (by simp; omega) (fun q hq => (HO.out.lt q hq).1); have HA : Hid (LH w.heap.size 25 (EZ L E) w3 (.slice (some ⟨g, 0, none⟩) (j + 1) cap) (rs ++ [⟨q, m, mc⟩]) (zss ++ [zs])) := LH.app (lasts_EZ L E) G.out.1 G.out.2.1 hb1 HE.out (Nat.le_refl _) (Nat.le_refl _) G.out.2.2.size hown3 hgrow3 hat3; clear hown3 hgrow3 hat3)
      refine ⟨⟨j + 1, rs ++ [⟨q, m, mc⟩], zss ++ [zs], by omega, by go_num, by have := G.out.1; simp; omega, HA.out, hB3⟩, by simp [intOf]; omega⟩
    · obtain ⟨gel, gLH, gB⟩ := G.out
      obtain ⟨q, cap, hv, hRow⟩ := gLH.row (lasts_EZ L E) (D := R + 1) (by omega)
      subst hv
      rw [gel] at hRow ⊢
      have HR' : Hid (CoP n (R + 1) E L w (.returned (.slice q j cap)) wr) := ⟨⟨q, j, cap⟩, zss, rfl, by show j = _; omega, ⟨rs, hRow⟩, gB⟩
      have hcs : Hid (¬ j < n ∨ (j < n ∧ ¬ j ≤ R)) := by show _ ∨ _; omega
      clear gLH gB hRow G gel
      rcases hcs.out with h1 | ⟨h1, h2⟩
      · have i1 : ¬ (j : Int) < (n : Int) := by omega
        clear h1
        go_wp2
        go_ret
        exact HR'.out
      · have i1 : (j : Int) < (n : Int) := by omega
        have i2 : ¬ (j : Int) ≤ (R : Int) := by omega
        clear h1 h2
        go_wp2
        go_ret
        exact HR'.out
end Go.Proofs.Ytcdfckjlmifjiaa
/-
  limbs.Sign.
-/
namespace Go.Proofs.Ytcdfckjlmifjiaa
open Go.RowKit
set_option linter.unusedVariables false
set_option linter.unusedSimpArgs false

/-- The sign of an integer. -/
def isgn (z : Int) : Int := if z = 0 then 0 else if z < 0 then -1 else 1

theorem isgn_ival_zero {s : Bool} {xs : List Int} (hU : U32 xs) (h : tlen xs = 0) : isgn (ival s xs) = 0 := by
  have := (tlen_zero_iff hU).1 h
  cases s <;> simp [ival, isgn, this]
theorem isgn_ival {s : Bool} {xs : List Int} (hU : U32 xs) (h : tlen xs ≠ 0) : isgn (ival s xs) = if s then -1 else 1 := by
  have h1 : val xs ≠ 0 := fun e => h ((tlen_zero_iff hU).2 e)
  have h2 := val_nonneg hU
  cases s
  · simp only [ival, isgn, Bool.false_eq_true, if_false]; rw [if_neg h1, if_neg (by omega)]
  · simp only [ival, isgn, if_true]; rw [if_neg (by omega), if_pos (by omega)]

set_option maxHeartbeats 400000 in
/-- limbs.Sign. -/
theorem Sign_any (s : Bool) (p : Option Addr) (n nc : Nat) (xs : List Int) (w : World) (hA : AI w p n nc xs) :
    Calls Try.prog 65 #[.agg #[.bool s, .slice p n nc]] w fun e w' => e = .returned (.int .i64 (isgn (ival s xs))) ∧ Below w.heap.size w w' := by
  have tx := tlen_le xs
  by_cases h0 : tlen xs = 0
  · rw [isgn_ival_zero hA.u h0]
    go_enter Try.func65, Try.ntmps65
    go_wp2_with (go_at_call 56; refine (trim_any p n nc xs _ hA.len hA.cap hA.bnd (hA.rd.alloc _)).mono ?_; rintro e w' ⟨rfl, rfl⟩)
    go_ret
    exact ⟨rfl, (Below.refl _ _).alloc (Nat.le_refl _) _⟩
  · rw [isgn_ival hA.u h0]
    have h1 : (((tlen xs : Nat) : Int) == 0) = false := beq_eq_false_iff_ne.2 (by omega)
    cases s
    all_goals
      go_enter Try.func65, Try.ntmps65
      go_wp2_with (go_at_call 56; refine (trim_any p n nc xs _ hA.len hA.cap hA.bnd (hA.rd.alloc _)).mono ?_; rintro e w' ⟨rfl, rfl⟩)
      go_ret
      exact ⟨rfl, (Below.refl _ _).alloc (Nat.le_refl _) _⟩

theorem isgn_cases (z : Int) : (z = 0 ∧ isgn z = 0) ∨ (z < 0 ∧ isgn z = -1) ∨ (0 < z ∧ isgn z = 1) := by
  rcases Int.lt_trichotomy z 0 with h | h | h
  · exact .inr (.inl ⟨h, by rw [isgn, if_neg (by omega), if_pos h]⟩)
  · exact .inl ⟨h, by rw [isgn, if_pos h]⟩
  · exact .inr (.inr ⟨h, by rw [isgn, if_neg (by omega), if_neg (by omega)]⟩)
theorem icmp_isgn {a b : Int} (h : isgn a ≠ isgn b) : icmp (isgn a) (isgn b) = icmp a b := by
  rcases isgn_cases a with ⟨h1, h2⟩ | ⟨h1, h2⟩ | ⟨h1, h2⟩ <;> rcases isgn_cases b with ⟨h3, h4⟩ | ⟨h3, h4⟩ | ⟨h3, h4⟩ <;> rw [h2, h4] at h ⊢ <;>
    first
      | exact absurd rfl h
      | (rw [icmp_lt (by omega), icmp_lt (by omega)])
      | (rw [icmp_gt (by omega), icmp_gt (by omega)])
theorem icmp_same {s t : Bool} {xs ys : List Int} (hX : U32 xs) (hY : U32 ys) (h : isgn (ival s xs) = isgn (ival t ys)) : isgn (ival s xs) * icmp (val xs) (val ys) = icmp (ival s xs) (ival t ys) := by
  have h1 := val_nonneg hX
  have h2 := val_nonneg hY
  rcases isgn_cases (ival s xs) with ⟨a1, a2⟩ | ⟨a1, a2⟩ | ⟨a1, a2⟩ <;> rcases isgn_cases (ival t ys) with ⟨b1, b2⟩ | ⟨b1, b2⟩ | ⟨b1, b2⟩ <;> rw [a2, b2] at h <;> (try (exact absurd h (by decide))) <;> rw [a2]
  · rw [a1, b1, icmp_eq, Int.zero_mul]
  · have e1 : s = true := by cases s <;> simp_all [ival] <;> omega
    have e2 : t = true := by cases t <;> simp_all [ival] <;> omega
    subst e1 e2
    simp only [ival, if_true]
    rcases Int.lt_trichotomy (val xs) (val ys) with g | g | g
    · rw [icmp_lt g, icmp_gt (by omega)]; rfl
    · rw [g, icmp_eq, icmp_eq]; rfl
    · rw [icmp_gt g, icmp_lt (by omega)]; rfl
  · have e1 : s = false := by cases s <;> simp_all [ival] <;> omega
    have e2 : t = false := by cases t <;> simp_all [ival] <;> omega
    subst e1 e2
    simp only [ival, Bool.false_eq_true, if_false, Int.one_mul]
end Go.Proofs.Ytcdfckjlmifjiaa
/-
  How long a number of a value is; numbers off a block; signs.
-/
namespace Go.Proofs.Ytcdfckjlmifjiaa
open Go.RowKit
set_option linter.unusedVariables false
set_option linter.unusedSimpArgs false

theorem NI.le {B : Nat} {w : World} {s : Bool} {p : Option Addr} {n : Nat} {xs : List Int} {z : Int} (h : NI B w s p n xs z) {k : Nat} (hz : (z.natAbs : Int) < pw k) : n ≤ k := by
  have hv : (z.natAbs : Int) = val xs := by
    have := val_nonneg h.u
    rw [← h.v, ival]
    split <;> omega
  rcases Nat.eq_zero_or_pos n with h0 | h0
  · omega
  · have h1 := val_pos_of_top h.u (by rw [h.nrm]; exact h0)
    rw [h.nrm] at h1
    have h2 : n - 1 < k := by
      rcases Nat.lt_or_ge (n - 1) k with h3 | h3
      · exact h3
      · have := pw_mono h3; omega
    omega
theorem AI.lt {w : World} {p : Option Addr} {n nc : Nat} {xs : List Int} (h : AI w p n nc xs) (s : Bool) : ((ival s xs).natAbs : Int) < pw n := by
  have h1 := val_nonneg h.u
  have h2 := val_lt_tlen h.u
  have h3 := pw_mono (tlen_le xs)
  rw [h.len] at h3
  rw [ival]
  split <;> omega
theorem off_from {B g : Nat} {p : Option Addr} (h : Go.Proofs.Ytcdfckjlmifjiaa.From B p) (hg : g < B) : Off g p := fun a ha e => by have := h a ha; omega
theorem AI.off {w : World} {p : Option Addr} {n nc : Nat} {xs : List Int} (h : AI w p n nc xs) {g : Nat} (hg : w.heap.size ≤ g) : 0 < n → Off g p := fun hn => h.rd.off hg (by rw [h.len]; exact hn)
theorem isgn_pos {z : Int} (h : 0 < z) : isgn z = 1 := by unfold isgn; rw [if_neg (by omega), if_neg (by omega)]
theorem isgn_neg {z : Int} (h : z < 0) : isgn z = -1 := by unfold isgn; rw [if_neg (by omega), if_pos h]
theorem isgn_zero {z : Int} (h : z = 0) : isgn z = 0 := by unfold isgn; rw [if_pos h]
end Go.Proofs.Ytcdfckjlmifjiaa
/-
  upoly.trim.
-/
namespace Go.Proofs.Ytcdfckjlmifjiaa
open Go.RowKit
set_option linter.unusedVariables false
set_option linter.unusedSimpArgs false

theorem Sign_ev {w : World} {K : Nat} {z : Int} {e : Ent} (h : EV w K z e) : Calls Try.prog 65 #[.agg #[.bool e.s, .slice e.p e.n e.c]] w fun r w' => r = .returned (.int .i64 (isgn z)) ∧ Below w.heap.size w w' := by
  obtain ⟨xs, h1, rfl, h3⟩ := h
  exact Sign_any e.s e.p e.n e.c xs w h1
set_option maxHeartbeats 1000000 in
/-- upoly.trim. -/
theorem utrim_any (K : Nat) (p : Option Addr) (n nc : Nat) (es : List Ent) (zs : List Int) (w : World) (h : PA w K p n nc es zs) (hn : n ≤ 1000000) :
    Calls Try.prog 58 #[.slice p n nc] w fun e w' => e = .returned (.slice p (tlen zs) (tlen zs)) ∧ Below w.heap.size w w' := by
  have hle := h.el
  go_enter Try.func58, Try.ntmps58
  go_wp2
  go_loopw [3] (fun nv wr => ∃ k : Nat, k ≤ n ∧ nv = .int .i64 k ∧ Hid ((∀ j, k ≤ j → gx zs j = 0) ∧ Below w.heap.size w wr)) (fun nv _ => (intOf nv).toNat)
  case atStart => exact ⟨n, Nat.le_refl _, by go_num, fun j hj => gx_past zs n (by rw [h.zl]; exact Nat.le_refl _) j hj, Below.refl _ _⟩
  case round =>
    obtain ⟨k, hk, rfl, H⟩ := hrel
    rcases Nat.eq_zero_or_pos k with h0 | h0
    · subst h0
      have HT : Hid (tlen zs = 0) := tlen_eq zs 0 (fun j _ => H.out.1 j (Nat.zero_le _)) (.inl rfl)
      go_wp2
      go_ret
      exact ⟨by rw [HT.out]; rfl, H.out.2⟩
    · obtain ⟨i, rfl⟩ : ∃ i, k = i + 1 := ⟨k - 1, by omega⟩
      obtain ⟨H1, H2⟩ := H.out
      have HH : Hid ((∀ j, i + 1 ≤ j → gx zs j = 0) ∧ Below w.heap.size w wr) := ⟨H1, H2⟩
      have hw := h.below H2
      obtain ⟨b, o, hp, hc⟩ := hw.pl (by omega)
      subst hp
      obtain ⟨c0, c1⟩ := hc i (by omega)
      have hv := hw.ev i (by omega)
      have hcap := h.cap
      have hbnd := h.bnd
      unfold maxLen at hbnd
      clear H H1 H2 hc
      go_wp2_with fail
      refine (Sign_ev hv).mono ?_
      rintro e w1 ⟨rfl, hb1⟩
      have hB := bnext' HH.out.2 hb1
      have hcs : Hid (gx zs i = 0 ∨ ¬ gx zs i = 0) := Classical.em _
      rcases hcs.out with hz | hz
      · rw [isgn_zero hz]
        have HZ : Hid (gx zs i = 0) := hz
        clear hz hcs c0 c1 hv
        go_wp2
        go_roundw
        case rel => exact ⟨i, by omega, by go_num, fun j hj => by
          rcases Nat.lt_or_ge i j with h | h
          · exact HH.out.1 j h
          · have : j = i := by omega
            subst this; exact HZ.out, hB⟩
        case measure => simp [intOf]
      · have HT : Hid (tlen zs = i + 1) := tlen_eq zs (i + 1) HH.out.1 (.inr hz)
        have hi : isgn (gx zs i) = 1 ∨ isgn (gx zs i) = -1 := by
          rcases (show 0 < gx zs i ∨ gx zs i < 0 by omega) with h | h
          · exact .inl (isgn_pos h)
          · exact .inr (isgn_neg h)
        clear hz hcs c0 c1 hv
        rcases hi with hi | hi
        all_goals
          rw [hi]
          clear hi
          go_wp2
          go_ret
          exact ⟨by rw [HT.out]; rfl, hB⟩
end Go.Proofs.Ytcdfckjlmifjiaa
