/-
  What the walks of the laws share: reference numbers carried on.
-/
import Derived.Test.YtcdfckjlmifjiaaVbDaCxRb
import Derived.Test.YtcdfckjlmifjiaaReRxRfRhCq
import Derived.Test.YtcdfckjlmifjiaaOn
import Derived.Test.YtcdfckjlmifjiaaAbDnDoAc
import Derived.Deep.DeepFit
import Derived.Test.YtcdfckjlmifjiaaRrRwVaRo
import Derived.Test.YtcdfckjlmifjiaaDpOwPnWkWlBx
import Derived.Test.YtcdfckjlmifjiaaLnWrIbWgUeUfUg
namespace Go.Proofs.Ytcdfckjlmifjiaa
open Go.RowKit
set_option linter.unusedVariables false
set_option linter.unusedSimpArgs false

/-- A reference number with its value. -/
theorem From_ansF (s : Bool) (p : Option Addr) (n nc : Nat) (xs : List Int) (w : World) (hA : AI w p n nc xs) :
    Calls Try.prog 10 #[.agg #[.bool s, .slice p n nc]] w fun e w' => ∃ s' p' n' ds', e = .returned (.agg #[.bool s', .slice p' n' n']) ∧ RN w' s' p' n' ds' ∧ rval s' ds' = ival s xs ∧ n' ≤ 2 * n ∧ Go.Proofs.Ytcdfckjlmifjiaa.From w.heap.size p' ∧ Below w.heap.size w w' := by
  refine (From_any s p n nc xs w hA).mono ?_
  rintro e w' ⟨s', q, nq, rfl, hR, rfl, hF, hb⟩
  refine ⟨_, q, nq, _, rfl, hR, by rw [rval_nsg s (u16_spl hA.u), rval_spl], ?_, hF, hb⟩
  have h1 := hR.nrm
  rw [tlen_tr] at h1
  have h2 := tlen_le (spl xs)
  rw [length_spl] at h2
  have := hA.len
  omega
theorem From_ans (s : Bool) (p : Option Addr) (n nc : Nat) (xs : List Int) (w : World) (hA : AI w p n nc xs) :
    Calls Try.prog 10 #[.agg #[.bool s, .slice p n nc]] w fun e w' => ∃ s' p' n' ds', e = .returned (.agg #[.bool s', .slice p' n' n']) ∧ RN w' s' p' n' ds' ∧ rval s' ds' = ival s xs ∧ n' ≤ 2 * n ∧ Below w.heap.size w w' := by
  refine (From_ansF s p n nc xs w hA).mono ?_
  rintro e w' ⟨s', p', n', ds', h1, h2, h3, h4, h5, h6⟩
  exact ⟨s', p', n', ds', h1, h2, h3, h4, h6⟩
end Go.Proofs.Ytcdfckjlmifjiaa
/-
  ashlarref3.From.
-/
namespace Go.Proofs.Ytcdfckjlmifjiaa
open Go.RowKit
set_option linter.unusedVariables false
set_option linter.unusedSimpArgs false

theorem lasts_RE (N : Nat) : Lasts (fun w z e => RE w N z e) := ⟨fun h hg hne => h.grown hg hne, fun h => h.lt⟩
theorem LG.pr {base : Nat} {w : World} {N : Nat} {v : Value} {es : List Ent} {zs : List Int} (h : LG base 40 (fun w z e => RE w N z e) w v es zs) : ∃ q cap, v = .slice q es.length cap ∧ PR w N q es.length cap es zs ∧ Go.Proofs.Ytcdfckjlmifjiaa.From base q := by
  obtain ⟨q, cap, h1, h2, h3, h4, h5, -⟩ := h.pl
  exact ⟨q, cap, h1, ⟨rfl, h.zl, h2, h3, h4, h.ev⟩, h5⟩
set_option maxHeartbeats 2000000 in
set_option maxRecDepth 100000 in
/-- ashlarref3.From. -/
theorem rpFrom_new {w : World} {K : Nat} {p : Option Addr} {n nc : Nat} {es0 : List Ent} {zs : List Int} (h : PA w K p n nc es0 zs) (hn : n ≤ 100000) (hK : K ≤ 400) :
    Calls Try.prog 9 #[.slice p n nc] w (PrF (tr zs) (2 * K) w) := by
  obtain ⟨i0, hi, hzz⟩ := Option.map_eq_some_iff.1 info_ref
  simp only [Prod.mk.injEq] at hzz
  obtain ⟨hz0, hz1, hz2⟩ := hzz
  have HI : Hid (Try.prog.info? 40 = some i0 ∧ i0.zero = some (.agg #[.bool false, .slice none 0 0]) ∧ i0.size = 2 ∧ i0.bytes = 32) := ⟨hi, hz0, hz1, hz2⟩
  have HX : Hid (PA w K p n nc es0 zs) := h
  clear h hi hz0 hz1 hz2
  go_enter Try.func9, Try.ntmps9
  go_wp2_with fail
  go_loopw [3, 4] (fun qv iv wr => ∃ (k : Nat) (es : List Ent), k ≤ n ∧ iv = .int .i64 k ∧ Hid (es.length = k ∧ LG w.heap.size 40 (fun w z e => RE w (2 * K) z e) wr qv es (zs.take k) ∧ Below w.heap.size w wr ∧ ∀ j, j < k → 0 < (ge es j).n → Go.Proofs.Ytcdfckjlmifjiaa.From w.heap.size (ge es j).p)) (fun _ iv _ => n - (intOf iv).toNat)
  case atStart => exact ⟨0, [], Nat.zero_le _, by go_num, rfl, by rw [List.take_zero]; exact LG.nil _ _ _ _, Below.refl _ _, fun j hj => absurd hj (by omega)⟩
  case round =>
    obtain ⟨k, es, hk, rfl, H⟩ := hrel
    rcases Nat.lt_or_ge k n with hlt | hge
    · obtain ⟨hel, hLR, hB, hfr⟩ := H.out
      have hPA := HX.out.below hB
      obtain ⟨b, o, hp, hc⟩ := hPA.pl (by rw [hPA.el]; omega)
      subst hp
      obtain ⟨c0, c1⟩ := hc k (by rw [hPA.el]; omega)
      obtain ⟨xs, hA, hv, hle⟩ := hPA.ev k hlt
      have hzl := hPA.zl
      clear hel hLR hB hc hPA hfr
      go_wp2_with fail
      refine (From_ansF (ge es0 k).s (ge es0 k).p (ge es0 k).n (ge es0 k).c xs _ hA).mono ?_
      rintro e w1 ⟨s1, p1, n1, d1, rfl, hR1, hv1, hn1, hF1, hb1⟩
      have HE : Hid (RE w1 (2 * K) (gx zs k) ⟨s1, p1, n1, n1⟩) := ⟨⟨d1, hR1, by rw [hv1, hv], by show n1 ≤ _; omega⟩, rfl⟩
      clear c0 c1 hR1 hv1 hA hv
      obtain ⟨hi, hz0, hz1, hz2⟩ := HI.out
      have hown0 := own_below H.out.2.1.own hb1
      rw [H.out.1] at hown0
      have HO : Hid (w1.ownsRow w.heap.size 40 2 u3 k (fl es)) := hown0
      have hsz : w.heap.size ≤ w1.heap.size := Nat.le_trans H.out.2.2.1.size hb1.size
      clear hown0
      go_wp2_with (refine wpList_append_lies _ rfl _ _ 36 rfl w.heap.size 40 i0 (.agg #[.bool false, .slice none 0 0]) 2 32 Try.underlying36 hi hz0 hz1 hz2 rfl (by decide) u3 k (fl es) rfl (HO.out.alloc _) ⟨w1.heap.size, 0, none⟩ 1 1 [.bool s1, .slice p1 n1 n1] rfl rfl ?_ (fun x hx => by simp at hx; rcases hx with rfl | rfl <;> rfl) (by decide) (by unfold maxLen; omega) (by omega) (by simp; omega) _ rfl ?_; exact World.news_of_block (heap_alloc_new w1 _); intro g cap w3 hown3 hgrow3 hat3 hlt3; have hB3 : Below w.heap.size w w3 := ((bnext' H.out.2.2.1 hb1).alloc hsz _).grown hgrow3 (by simp; omega) (fun q hq => (HO.out.lt q hq).1); have HA : Hid (LG w.heap.size 40 (fun w z e => RE w (2 * K) z e) w3 (.slice (some ⟨g, 0, none⟩) (k + 1) cap) (es ++ [⟨s1, p1, n1, n1⟩]) (zs.take k ++ [gx zs k])) := lg_app (lasts_RE _) H.out.1 H.out.2.1 hb1 HE.out hF1 hown3 hgrow3 hat3; clear hown3 hgrow3 hat3)
      refine ⟨⟨k + 1, es ++ [⟨s1, p1, n1, n1⟩], by omega, by go_num, by have := H.out.1; simp; omega, by rw [take_snocg zs k (by omega)]; exact HA.out, hB3, fun j hj h0 => ?_⟩, by simp [intOf]; omega⟩
      have hel := H.out.1
      rcases Nat.lt_or_ge j k with h | h
      · rw [ge_append_left _ _ _ (by omega)] at h0 ⊢
        exact H.out.2.2.2 j h h0
      · obtain rfl : j = es.length := by omega
        rw [ge_snoc]
        exact fun a ha => Nat.le_trans H.out.2.2.1.size (hF1 a ha)
    · obtain rfl : k = n := by omega
      obtain ⟨hel, hLR, hB, hfr⟩ := H.out
      have hzl := HX.out.zl
      rw [List.take_of_length_le (by omega)] at hLR
      obtain ⟨q, cap, hv, hPR, hF⟩ := hLR.pr
      subst hv
      rw [hel] at hPR ⊢
      have HB : Hid (Below w.heap.size w wr) := hB
      have HF : Hid (∀ j, j < k → 0 < (ge es j).n → Go.Proofs.Ytcdfckjlmifjiaa.From w.heap.size (ge es j).p) := hfr
      clear H hLR hB hge hk hfr
      go_wp2_with fail
      refine (rTrim_any (2 * K) q k cap es zs _ hPR (by omega)).mono ?_
      rintro e w1 ⟨rfl, hb1⟩
      have HP : Hid (PR wr (2 * K) q k cap es zs) := hPR
      clear hPR
      go_wp2
      go_ret
      have htl := tlen_le zs
      have hcap := HP.out.cap
      have hT := (HP.out.below hb1).take (tlen zs) (tlen zs) (by omega) (Nat.le_refl _) (by omega)
      refine ⟨q, tlen zs, es.take (tlen zs), rfl, hT, hF, tlen_tr zs, fun j hj h0 => ?_, bnext' HB.out hb1⟩
      rw [ge_take _ _ _ hj] at h0 ⊢
      exact HF.out j (by omega) h0
theorem rpFrom_any {w : World} {K : Nat} {p : Option Addr} {n nc : Nat} {es0 : List Ent} {zs : List Int} (h : PA w K p n nc es0 zs) (hn : n ≤ 100000) (hK : K ≤ 400) :
    Calls Try.prog 9 #[.slice p n nc] w (PrP (tr zs) (2 * K) w) := by
  refine (rpFrom_new h hn hK).mono ?_
  rintro e w' ⟨q, m, es, h1, h2, h3, h4, -, h5⟩
  exact ⟨q, m, es, h1, h2, h3, h4, h5⟩
end Go.Proofs.Ytcdfckjlmifjiaa
/-
  A polynomial of the reference in a row of them (out of Oq).
-/
namespace Go.Proofs.Ytcdfckjlmifjiaa
open Go.RowKit
set_option linter.unusedVariables false
set_option linter.unusedSimpArgs false

theorem info_refP : (Try.prog.info? 36).map (fun i => (i.zero, i.size, i.bytes)) = some (some (.slice none 0 0), 1, 24) := by kernel_rfl
/-- A polynomial of the reference among them. -/
def EY (N D : Nat) (w : World) (B T : Nat) (zs : List Int) (h : Hdr) : Prop :=
  ∃ fs, PR w N h.p h.n h.c fs zs ∧ h.c = h.n ∧ tlen zs = h.n ∧ h.n ≤ D ∧ (∀ a, h.p = some a → 0 < h.n → B ≤ a.block ∧ a.block < T) ∧ ∀ j, j < h.n → 0 < (ge fs j).n → ∀ a, (ge fs j).p = some a → B ≤ a.block ∧ a.block < T
theorem lasts_EY (N D : Nat) : LastsH (EY N D) := ⟨fun {w w' B T z h row} he hT hg hr => by
    obtain ⟨fs, k, e1, e2, h1, h2, h3⟩ := he
    refine ⟨fs, ⟨k.el, k.zl, k.cap, k.bnd, fun hx => (k.pl.same fun a ha hlt => hg.block a.block hlt fun e => ?_) hx, fun j hj => (lasts_RE N).grown (k.ev j hj) hg fun hn a ha e => ?_⟩, e1, e2, h1, h2, h3⟩
    · have h4 := h2 a ha (by rw [← k.el]; exact hx)
      have h5 := hr a.block e.symm
      omega
    · have h4 := h3 j hj hn a ha
      have h5 := hr a.block e.symm
      omega, fun {w B T B' T' z h} he hB hT => by
    obtain ⟨fs, k, e1, e2, h1, h2, h3⟩ := he
    exact ⟨fs, k, e1, e2, h1, fun a ha hn => by have := h2 a ha hn; omega, fun j hj hn a ha => by have := h3 j hj hn a ha; omega⟩⟩
theorem ey_of_from {N D : Nat} {w w' : World} {q : Option Addr} {m : Nat} {fs : List Ent} {zs : List Int} (h : PR w' N q m m fs zs) (h1 : Go.Proofs.Ytcdfckjlmifjiaa.From w.heap.size q) (ht : tlen zs = m) (h2 : ∀ j, j < m → 0 < (ge fs j).n → Go.Proofs.Ytcdfckjlmifjiaa.From w.heap.size (ge fs j).p) (hm : m ≤ D) : EY N D w' w.heap.size w'.heap.size zs ⟨q, m, m⟩ := by
  refine ⟨fs, h, rfl, ht, hm, fun a ha hn => ⟨h1 a ha, ?_⟩, fun j hj hn a ha => ⟨h2 j hj hn a ha, (lasts_RE N).lt (h.ev j hj) hn a ha⟩⟩
  obtain ⟨b, o, hp, hlt⟩ := h.pl.lt (by rw [h.el]; exact hn)
  simp only at ha
  rw [hp] at ha
  cases ha
  exact hlt
theorem take_map_snoc {α β : Type} [Inhabited α] (f : α → β) (l : List α) (j : Nat) (h : j < l.length) : (l.take (j + 1)).map f = (l.take j).map f ++ [f (gt l j)] := by
  rw [List.take_succ_eq_append_getElem h, List.map_append]
  simp [gt, h]
end Go.Proofs.Ytcdfckjlmifjiaa
/-
  The reference's operators: Trim, At, From.
-/
namespace Go.Proofs.Ytcdfckjlmifjiaa
open Go.RowKit
set_option linter.unusedVariables false
set_option linter.unusedSimpArgs false

theorem ey_nil (N E : Nat) (w : World) (B T : Nat) : EY N E w B T [] ⟨none, 0, 0⟩ :=
  ⟨[], ⟨rfl, rfl, Nat.le_refl _, Nat.zero_le _, PL.nil, fun j hj => absurd hj (Nat.not_lt_zero j)⟩, rfl, rfl, Nat.zero_le _, nofun, fun j hj => absurd hj (Nat.not_lt_zero j)⟩
set_option maxHeartbeats 2000000 in
set_option maxRecDepth 100000 in
/-- ashlarref8.Trim. -/
theorem rTrim8_any {w : World} {B T N E D : Nat} {zss : List (List Int)} {h : Hdr} (H : HR D (EY N E) w B T zss h) (hT : T ≤ w.heap.size) (hD : D ≤ 1000000) (hE : E ≤ 1000000) :
    Calls Try.prog 26 #[.slice h.p h.n h.c] w fun e w' => e = .returned (.slice h.p (olen zss) (olen zss)) ∧ Below w.heap.size w w' := by
  obtain ⟨hs, k⟩ := H
  have HX : Hid (HRow D (EY N E) w B T zss h hs ∧ T ≤ w.heap.size) := ⟨k, hT⟩
  have hn : h.n ≤ D := k.few
  have hcap : h.n ≤ h.c := k.cap
  have hbnd : h.c ≤ maxLen := k.bnd
  have hpn : h.p = none → h.c = 0 := k.pn
  have HL : Hid (zss.length = h.n) := k.tl
  obtain ⟨p, n, nc⟩ := h
  simp only at hn hcap hbnd hpn HL ⊢
  have hbnd' := hbnd
  unfold maxLen at hbnd'
  clear k hT
  go_enter Try.func26, Try.ntmps26
  go_wp2
  go_loopw [3] (fun nv wr => ∃ k : Nat, k ≤ n ∧ nv = .int .i64 k ∧ Hid ((∀ j, k ≤ j → tlen (gt zss j) = 0) ∧ Below w.heap.size w wr)) (fun nv _ => (intOf nv).toNat)
  case atStart => exact ⟨n, Nat.le_refl _, by go_num, fun j hj => by rw [gt_over0 _ _ (by have := HL.out; omega)]; rfl, Below.refl _ _⟩
  case round =>
    obtain ⟨k, hk, rfl, H⟩ := hrel
    rcases Nat.eq_zero_or_pos k with h0 | h0
    · subst h0
      have HT : Hid (olen zss = 0) := olen_eq zss 0 (fun j _ => H.out.1 j (Nat.zero_le _)) (.inl rfl)
      rcases p with _ | a
      · obtain rfl := hpn rfl
        go_wp2
        go_ret
        exact ⟨by rw [HT.out]; rfl, H.out.2⟩
      · go_wp2
        go_ret
        exact ⟨by rw [HT.out]; rfl, H.out.2⟩
    · obtain ⟨i, rfl⟩ : ∃ i, k = i + 1 := ⟨k - 1, by omega⟩
      obtain ⟨H1, H2⟩ := H.out
      have HH : Hid ((∀ j, i + 1 ≤ j → tlen (gt zss j) = 0) ∧ Below w.heap.size w wr) := ⟨H1, H2⟩
      obtain ⟨b, o, hp, hc⟩ := HX.out.1.hl (by rw [HX.out.1.el]; show 0 < n; omega)
      simp only at hp
      subst hp
      have c0 := hc i (by rw [HX.out.1.el]; show i < n; omega)
      have c1 : wr.cell? ⟨b, o + i, none⟩ = some (gh hs i).val := by rw [H2.cell (block_lt_of_cell c0)]; exact c0
      have hE2 : Hid (tlen (gt zss i) = (gh hs i).n) := by obtain ⟨fs, -, -, h2, -⟩ := HX.out.1.ev i (by show i < n; omega); exact h2
      generalize gh hs i = hd at c1 hE2
      obtain ⟨p2, n2, nc2⟩ := hd
      simp only [Hdr.val] at c1 hE2
      have v1 : wrap64 ((i : Int) + 1 - 1) = (i : Int) := by unfold wrap64; omega
      have hlt : (i : Int) < (n : Int) := by omega
      clear H H1 H2 hc c0
      rcases Nat.eq_zero_or_pos n2 with hz | hz
      · subst hz
        go_wp2
        go_roundw
        case rel => exact ⟨i, by omega, by go_num, fun j hj => by
          rcases Nat.lt_or_ge i j with h | h
          · exact HH.out.1 j h
          · have : j = i := by omega
            subst this; exact hE2.out, HH.out.2⟩
        case measure => simp [intOf]
      · have HT : Hid (olen zss = i + 1) := olen_eq zss (i + 1) HH.out.1 (.inr (by show ¬ tlen (gt zss i) = 0; rw [hE2.out]; omega))
        have d1 : ((n2 : Int) == 0) = false := by rw [beq_eq_false_iff_ne]; omega
        have d2 : ¬ (n2 : Int) = 0 := by omega
        go_wp2
        go_ret
        exact ⟨by rw [HT.out]; rfl, HH.out.2⟩
/-- An operator of the reference that is answered. -/
def OrP (D : Nat) (l : List (List Int)) (N E : Nat) (w : World) (e : Ending) (w' : World) : Prop :=
  ∃ p, e = .returned (.slice p (olen l) (olen l)) ∧ HR D (EY N E) w' w.heap.size w'.heap.size (otr l) ⟨p, olen l, olen l⟩ ∧ Below w.heap.size w w'
/-- A list that has grown, trimmed. -/
theorem trim_end {w wr w1 : World} {D N E : Nat} {q : Option Addr} {cap : Nat} {hs : List Hdr} {l : List (List Int)} (h : HRow D (EY N E) wr w.heap.size wr.heap.size l ⟨q, hs.length, cap⟩ hs) (hb : Below w.heap.size w wr) (hb1 : Below wr.heap.size wr w1) :
    OrP D l N E w (.returned (.slice q (olen l) (olen l))) w1 := by
  have hol := olen_le l
  have htl := h.tl
  refine ⟨q, rfl, ?_, bnext' hb hb1⟩
  have h1 := h.cut (olen l) (by simp only at htl ⊢; omega)
  have h2 : HR D (EY N E) wr w.heap.size wr.heap.size (otr l) ⟨q, olen l, olen l⟩ := ⟨_, h1⟩
  exact (lasts_HR (lasts_EY N E)).wide ((lasts_HR (lasts_EY N E)).below h2 (Nat.le_refl _) hb1) (Nat.le_refl _) hb1.size
end Go.Proofs.Ytcdfckjlmifjiaa
/-
  Small rules on the reference's numbers in a list.
-/
namespace Go.Proofs.Ytcdfckjlmifjiaa
open Go.RowKit
set_option linter.unusedVariables false
set_option linter.unusedSimpArgs false

theorem rval_abs (s : Bool) {ds : List Int} (h : U16 ds) : vd ds = ((rval s ds).natAbs : Int) := by
  have := vd_nonneg h
  unfold rval
  split <;> omega
theorem RE.set2 {w : World} {N : Nat} {z : Int} {e : Ent} {g o : Nat} {u v : Value} (h : RE w N z e) (ho : 0 < e.n → Off g e.p) : RE ((w.setCell ⟨g, o, none⟩ u).setCell ⟨g, o + 1, none⟩ v) N z e := by
  obtain ⟨⟨ds, h1, h2⟩, h4⟩ := h
  refine ⟨⟨ds, ⟨h1.len, fun hx => ?_, h1.u, h1.nrm, h1.sg, h1.sml⟩, h2⟩, h4⟩
  have := ho (by rw [h1.len] at hx; exact hx)
  exact ((h1.rd.set_other ⟨g, o, none⟩ u this).set_other ⟨g, o + 1, none⟩ v this) hx
theorem RN.fit {w : World} {s : Bool} {p : Option Addr} {n N : Nat} {ds : List Int} (h : RN w s p n ds) (hz : ((rval s ds).natAbs : Int) < pd N) : n ≤ N := by
  have a := vd_nonneg h.u
  have e : ((rval s ds).natAbs : Int) = vd ds := by unfold rval; split <;> omega
  rw [e] at hz
  rcases Nat.lt_or_ge N n with hk | hk
  · have b := vd_pos_of_top h.u (by rw [h.nrm]; omega)
    rw [h.nrm] at b
    have c := pd_mono (show N ≤ n - 1 by omega)
    omega
  · exact hk
theorem RE_al {w : World} {N : Nat} {z : Int} {e : Ent} {o : Obj} (h : RE w N z e) : RE (w.alloc o) N z e := h.below ((Below.refl _ _).alloc (Nat.le_refl _) o)
theorem re_st {w : World} {N : Nat} {z : Int} {e : Ent} {a : Addr} {v : Value} (h : RE w N z e) (ho : 0 < e.n → Off a.block e.p) : RE (w.setCell a v) N z e := by
  obtain ⟨⟨ds, h1, h2⟩, h4⟩ := h
  exact ⟨⟨ds, ⟨h1.len, fun hx => (h1.rd.set_other a v (ho (by rw [h1.len] at hx; exact hx))) hx, h1.u, h1.nrm, h1.sg, h1.sml⟩, h2⟩, h4⟩
theorem RE_st2 {w : World} {N U : Nat} {z : Int} {e : Ent} {a : Addr} {v : Value} (hU : 0 < e.n → ∀ x, e.p = some x → x.block < U) (ha : U ≤ a.block) (h : RE w N z e) : RE (w.setCell a v) N z e := re_st h fun h0 b hb e' => by have := hU h0 b hb; omega
theorem RE_st3 {w : World} {N F : Nat} {z : Int} {e : Ent} {a : Addr} {v : Value} (hF : Go.Proofs.Ytcdfckjlmifjiaa.From F e.p) (ha : a.block < F) (h : RE w N z e) : RE (w.setCell a v) N z e := re_st h fun h0 b hb e' => by have := hF b hb; omega
theorem unFr {w : World} {p : Option Addr} (h : Go.Proofs.Ytcdfckjlmifjiaa.From w.drew.heap.size p) : Go.Proofs.Ytcdfckjlmifjiaa.From w.heap.size p := h
theorem keep4R {w w' : World} {a c i j k l : Nat} {u v x y : Value} (h : w.cell? ⟨a, i, none⟩ = some u ∧ w.cell? ⟨a, j, none⟩ = some v ∧ w.cell? ⟨c, k, none⟩ = some x ∧ w.cell? ⟨c, l, none⟩ = some y) (hb : Below w.heap.size w w') : w'.cell? ⟨a, i, none⟩ = some u ∧ w'.cell? ⟨a, j, none⟩ = some v ∧ w'.cell? ⟨c, k, none⟩ = some x ∧ w'.cell? ⟨c, l, none⟩ = some y :=
  ⟨cell_later hb h.1, cell_later hb h.2.1, cell_later hb h.2.2.1, cell_later hb h.2.2.2⟩
theorem Bx.kept {w w' : World} {r : Nat} {a b : Value} {row : Option Nat} (h : Bx w r a b) (hg : w.grownBy w' row) (hne : some r ≠ row) : Bx w' r a b := by
  have e : w'.heap[r]? = w.heap[r]? := hg.block r (block_lt_of_cell h.c0) hne
  exact ⟨(World.cell?_of_block (a := ⟨r, 0, none⟩) e).trans h.c0, (World.cell?_of_block (a := ⟨r, 1, none⟩) e).trans h.c1, (World.frozen?_of_block (a := ⟨r, 0, none⟩) e).trans h.f0, (World.frozen?_of_block (a := ⟨r, 1, none⟩) e).trans h.f1⟩
theorem tr_of_tlen {zs : List Int} (h : tlen zs = zs.length) : tr zs = zs := by rw [tr, h, List.take_length]
theorem sign_re {w : World} {N : Nat} {z : Int} {e : Ent} (h : RE w N z e) (hz : z ≠ 0) : e.s = decide (z < 0) := by
  obtain ⟨⟨ds, h1, h2, h3⟩, h4⟩ := h
  have := vd_nonneg h1.u
  cases hs : e.s <;> rw [hs, rval] at h2 <;> simp at h2 <;> simp <;> omega
end Go.Proofs.Ytcdfckjlmifjiaa
/-
  limbs.Mod.
-/
namespace Go.Proofs.Ytcdfckjlmifjiaa
open Go.RowKit
set_option linter.unusedVariables false
set_option linter.unusedSimpArgs false

end Go.Proofs.Ytcdfckjlmifjiaa
/-
  upoly: residues: of, times, minus, power, inverse.
-/
namespace Go.Proofs.Ytcdfckjlmifjiaa
open Go.RowKit
set_option linter.unusedVariables false
set_option linter.unusedSimpArgs false

theorem pow_emod (x m : Int) : ∀ j : Nat, (x % m) ^ j % m = x ^ j % m
  | 0 => by simp
  | j + 1 => by rw [Int.pow_succ, Int.pow_succ, Int.mul_emod, pow_emod x m j, Int.emod_emod, ← Int.mul_emod]
theorem mul_bdp {a b m : Int} (a0 : 0 ≤ a) (b0 : 0 ≤ b) (a1 : a < m) (b1 : b < m) (hm : m ≤ 2147483647) : 0 ≤ a * b ∧ a * b ≤ 2147483647 * 2147483647 :=
  ⟨Int.mul_nonneg a0 b0, Int.mul_le_mul (by omega) (by omega) b0 (by decide)⟩
end Go.Proofs.Ytcdfckjlmifjiaa
/-
  upoly: lists of residues: trimResidues, residues, scaled.
-/
namespace Go.Proofs.Ytcdfckjlmifjiaa
open Go.RowKit
set_option linter.unusedVariables false
set_option linter.unusedSimpArgs false

theorem info_u64 : (Try.prog.info? 86).map (fun i => (i.zero, i.size, i.bytes)) = some (some (.int .u64 0), 1, 8) := by kernel_rfl
theorem gx_map0 (f : Int → Int) (h0 : f 0 = 0) (xs : List Int) (j : Nat) : gx (xs.map f) j = f (gx xs j) := by
  unfold gx
  rw [List.getD_eq_getElem?_getD, List.getD_eq_getElem?_getD, List.getElem?_map]
  cases h : xs[j]? with
  | none => simp [h0]
  | some v => simp
/-- A list of n, of which k entries are laid. -/
def part (xs : List Int) (n k : Nat) : List Int := xs.take k ++ zeros (n - k)
theorem length_part (xs : List Int) (n k : Nat) (h : xs.length = n) (hk : k ≤ n) : (part xs n k).length = n := by simp [part, zeros]; omega
theorem part_zero (xs : List Int) (n : Nat) : part xs n 0 = zeros n := by simp [part]
theorem part_all (xs : List Int) (n : Nat) (h : xs.length = n) : part xs n n = xs := by simp [part, zeros, List.take_of_length_le, h]
theorem part_set (xs : List Int) (n k : Nat) (h : xs.length = n) (hk : k < n) : (part xs n k).set k (gx xs k) = part xs n (k + 1) := by
  have e : n - k = (n - (k + 1)) + 1 := by omega
  have hl : (xs.take k).length = k := by simp; omega
  unfold part
  rw [e, List.set_append_right _ _ (by omega), hl, Nat.sub_self]
  unfold zeros
  rw [List.replicate_succ, List.set_cons_zero, gx_mem xs k (by omega), ← List.take_append_getElem (show k < xs.length by omega)]
  simp only [List.append_assoc, List.singleton_append]
end Go.Proofs.Ytcdfckjlmifjiaa
