/-
  Operators that are answered; ore.convert, Norm.
-/
import Derived.Test.YtcdfckjlmifjiaaGreatAbBnUjBoAhEkOaOcOd
import Derived.Test.YtcdfckjlmifjiaaGreatFlDxAxDnDo
import Derived.Deep.DeepFit
import Derived.Test.YtcdfckjlmifjiaaGreatRoUcVbDaVcDuOi
import Derived.Test.YtcdfckjlmifjiaaGreatCxRbCyRvCzTeZa
import Derived.Test.YtcdfckjlmifjiaaGreatDyAwOn
import Derived.Test.YtcdfckjlmifjiaaGreatRwNjUbVaVg
import Derived.Test.YtcdfckjlmifjiaaGreatUdLnWrIbWgUeUfUg
import Derived.Test.YtcdfckjlmifjiaaGreatCuZjRzCwYhFe
import Derived.Test.YtcdfckjlmifjiaaGreatWiWjWvZeZfLhLjZgZhWnWoWpBgBfZiZnZpRtRqYi
namespace Go.Proofs.YtcdfckjlmifjiaaGreat
open Go.RowKit
set_option linter.unusedVariables false
set_option linter.unusedSimpArgs false

theorem ez_of_pn {B : Nat} {w : World} {K E : Nat} {p : Option Addr} {n : Nat} {es : List Ent} {zs : List Int} (h : PN B w K p n es zs) (hK : K ≤ 1000) (hn : n ≤ E) (hE : E ≤ 1000000) : EZ K E w B w.heap.size zs ⟨p, n, n⟩ := by
  refine ⟨es, h.pa hK (by omega), hn, fun a ha h0 => ⟨h.fr a ha, ?_⟩, fun j hj h0 a ha => ⟨?_, (lasts_EV K).lt ((h.ev j hj).ev hK) h0 a ha⟩⟩
  · obtain ⟨b, o, hp, hlt⟩ := h.pl.lt (by rw [h.el]; exact h0)
    simp only at ha
    rw [hp] at ha
    cases ha
    exact hlt
  · obtain ⟨xs, k, -⟩ := h.ev j hj
    exact k.fr a ha
/-- An operator that is answered: its entries are normal, its memory lies from B on. -/
structure NO (B : Nat) (w : World) (K E : Nat) (l : List (List Int)) (p : Option Addr) (n : Nat) (hs : List Hdr) : Prop where
  el : hs.length = n
  tl : l.length = n
  hl : HL w p hs
  fr : Go.Proofs.YtcdfckjlmifjiaaGreat.From B p
  ev : ∀ j, j < n → (gh hs j).c = (gh hs j).n ∧ (gh hs j).n ≤ E ∧ ∃ es, PN B w K (gh hs j).p (gh hs j).n es (gt l j)
theorem NO.below {B : Nat} {w w' : World} {K E : Nat} {l : List (List Int)} {p : Option Addr} {n : Nat} {hs : List Hdr} (h : NO B w K E l p n hs) (hb : Below w.heap.size w w') : NO B w' K E l p n hs :=
  ⟨h.el, h.tl, h.hl.below hb, h.fr, fun j hj => let ⟨a, b, es, c⟩ := h.ev j hj; ⟨a, b, es, c.below hb⟩⟩
theorem NO.cut {B : Nat} {w : World} {K E : Nat} {l : List (List Int)} {p : Option Addr} {n m : Nat} {hs : List Hdr} (h : NO B w K E l p n hs) (hm : m ≤ n) : NO B w K E (l.take m) p m (hs.take m) := by
  refine ⟨by have := h.el; simp; omega, by have := h.tl; simp; omega, fun hp => ?_, h.fr, fun j hj => ?_⟩
  · have hl : 0 < m ∧ 0 < hs.length := by simp at hp; omega
    obtain ⟨b, o, hb, hc⟩ := h.hl hl.2
    refine ⟨b, o, hb, fun j hj => ?_⟩
    have hj' : j < m ∧ j < hs.length := by simp at hj; omega
    rw [gh_take _ _ _ hj'.1]
    exact hc j hj'.2
  · rw [gh_take _ _ _ hj, gt_take _ _ _ hj]
    exact h.ev j (by omega)
theorem NO.hr {B : Nat} {w : World} {K E : Nat} {l : List (List Int)} {p : Option Addr} {n : Nat} {hs : List Hdr} (h : NO B w K E l p n hs) (hK : K ≤ 1000) (hE : E ≤ 1000000) (hn : n ≤ 1000000) : HR n (EZ K E) w B w.heap.size l ⟨p, n, n⟩ := by
  refine ⟨hs, h.el, h.tl, Nat.le_refl _, by show n ≤ maxLen; unfold maxLen; omega, fun e => ?_, Nat.le_refl _, h.hl, fun a ha h0 => ⟨h.fr a ha, ?_⟩, fun j hj => ?_⟩
  · rcases Nat.eq_zero_or_pos n with h0 | h0
    · exact h0
    · obtain ⟨b, o, hb, -⟩ := h.hl (by rw [h.el]; exact h0)
      simp only at e
      rw [hb] at e
      cases e
  · obtain ⟨b, o, hb, hc⟩ := h.hl (by rw [h.el]; exact h0)
    simp only at ha
    rw [hb] at ha
    cases ha
    exact block_lt_of_cell (hc 0 (by rw [h.el]; exact h0))
  · obtain ⟨a, b, es, c⟩ := h.ev j hj
    have h1 := ez_of_pn c hK b hE
    have e : (⟨(gh hs j).p, (gh hs j).n, (gh hs j).n⟩ : Hdr) = gh hs j := by
      generalize gh hs j = x at a
      obtain ⟨x1, x2, x3⟩ := x
      simp only at a
      rw [a]
    rw [e] at h1
    exact h1
/-- Without zeros at the end. -/
def otr (l : List (List Int)) : List (List Int) := l.take (olen l)
/-- The first of an answer's entries are there. -/
def CB (F : Nat → List Int) (K E g n i : Nat) (w wr : World) : Prop :=
  ∃ hs : List Hdr, HB wr g hs ∧ hs.length = n ∧ (∀ r, r < i → (gh hs r).c = (gh hs r).n ∧ (gh hs r).n ≤ E ∧ ∃ es, PN (g + 1) wr K (gh hs r).p (gh hs r).n es (F r)) ∧ Below w.heap.size w wr ∧ w.heap.size ≤ g
theorem CB.step {F : Nat → List Int} {K E g n i : Nat} {w wr v3 : World} {p3 : Option Addr} {n3 : Nat} {es3 : List Ent} (h : CB F K E g n i w wr) (hi : i < n) (hv : Below wr.heap.size wr v3) (hN : PN (g + 1) v3 K p3 n3 es3 (F i)) (hE : n3 ≤ E) : CB F K E g n (i + 1) w (v3.setCell ⟨g, i, none⟩ (.slice p3 n3 n3)) := by
  obtain ⟨hs, h1, h2, h3, h4, h5⟩ := h
  refine ⟨hs.set i ⟨p3, n3, n3⟩, (h1.below hv h1.lt).set i ⟨p3, n3, n3⟩, by simp [h2], fun r hr => ?_, (h4.trans (hv.mono h4.size)).setCell (p := ⟨g, i, none⟩) h5 _, h5⟩
  rw [gh_set _ _ _ _ (by omega)]
  by_cases e : r = i
  · subst e
    rw [if_pos rfl]
    exact ⟨rfl, hE, es3, hN.put (Nat.lt_succ_self g) _⟩
  · rw [if_neg e]
    obtain ⟨a, b, es, c⟩ := h3 r (by omega)
    exact ⟨a, b, es, (c.below hv).put (Nat.lt_succ_self g) _⟩
theorem CB.no {F : Nat → List Int} {K E g n : Nat} {w wr : World} (h : CB F K E g n n w wr) : ∃ hs, NO g wr K E ((List.range n).map F) (some ⟨g, 0, none⟩) n hs := by
  obtain ⟨hs, h1, h2, h3, h4, h5⟩ := h
  refine ⟨hs, h2, by simp, fun hp => ⟨g, 0, rfl, fun j hj => by rw [Nat.zero_add]; exact h1.cell j hj⟩, fun a ha => by cases ha; exact Nat.le_refl _, fun j hj => ?_⟩
  obtain ⟨a, b, es, c⟩ := h3 j hj
  refine ⟨a, b, es, ?_⟩
  have e : gt ((List.range n).map F) j = F j := by simp [gt, hj]
  rw [e]
  exact c.mono (Nat.le_succ g)
theorem NO.mono {B B' : Nat} {w : World} {K E : Nat} {l : List (List Int)} {p : Option Addr} {n : Nat} {hs : List Hdr} (h : NO B w K E l p n hs) (hB : B' ≤ B) : NO B' w K E l p n hs :=
  ⟨h.el, h.tl, h.hl, fun a ha => Nat.le_trans hB (h.fr a ha), fun j hj => let ⟨a, b, es, c⟩ := h.ev j hj; ⟨a, b, es, c.mono hB⟩⟩
end Go.Proofs.YtcdfckjlmifjiaaGreat
/-
  ashlarref3.From.
-/
namespace Go.Proofs.YtcdfckjlmifjiaaGreat
open Go.RowKit
set_option linter.unusedVariables false
set_option linter.unusedSimpArgs false

theorem lasts_RE (N : Nat) : Lasts (fun w z e => RE w N z e) := ⟨fun h hg hne => h.grown hg hne, fun h => h.lt⟩
theorem LG.pr {base : Nat} {w : World} {N : Nat} {v : Value} {es : List Ent} {zs : List Int} (h : LG base 62 (fun w z e => RE w N z e) w v es zs) : ∃ q cap, v = .slice q es.length cap ∧ PR w N q es.length cap es zs ∧ Go.Proofs.YtcdfckjlmifjiaaGreat.From base q := by
  obtain ⟨q, cap, h1, h2, h3, h4, h5, -⟩ := h.pl
  exact ⟨q, cap, h1, ⟨rfl, h.zl, h2, h3, h4, h.ev⟩, h5⟩
set_option maxHeartbeats 2000000 in
set_option maxRecDepth 100000 in
/-- ashlarref3.From. -/
theorem rpFrom_new {w : World} {K : Nat} {p : Option Addr} {n nc : Nat} {es0 : List Ent} {zs : List Int} (h : PA w K p n nc es0 zs) (hn : n ≤ 100000) (hK : K ≤ 400) :
    Calls Tryz.prog 24 #[.slice p n nc] w (PrF (tr zs) (2 * K) w) := by
  obtain ⟨i0, hi, hzz⟩ := Option.map_eq_some_iff.1 info_ref
  simp only [Prod.mk.injEq] at hzz
  obtain ⟨hz0, hz1, hz2⟩ := hzz
  have HI : Hid (Tryz.prog.info? 62 = some i0 ∧ i0.zero = some (.agg #[.bool false, .slice none 0 0]) ∧ i0.size = 2 ∧ i0.bytes = 32) := ⟨hi, hz0, hz1, hz2⟩
  have HX : Hid (PA w K p n nc es0 zs) := h
  clear h hi hz0 hz1 hz2
  go_enter Tryz.func24, Tryz.ntmps24
  go_wp2_with fail
  go_loopw [3, 4] (fun qv iv wr => ∃ (k : Nat) (es : List Ent), k ≤ n ∧ iv = .int .i64 k ∧ Hid (es.length = k ∧ LG w.heap.size 62 (fun w z e => RE w (2 * K) z e) wr qv es (zs.take k) ∧ Below w.heap.size w wr ∧ ∀ j, j < k → 0 < (ge es j).n → Go.Proofs.YtcdfckjlmifjiaaGreat.From w.heap.size (ge es j).p)) (fun _ iv _ => n - (intOf iv).toNat)
  case atStart => exact ⟨0, [], Nat.zero_le _, by go_num, rfl, by rw [List.take_zero]; exact LG.nil _ _ _ _, Below.refl _ _, fun j hj => absurd hj (by omega)⟩
  case round =>
    obtain ⟨k, es, hk, rfl, H⟩ := hrel
    rcases Nat.lt_or_ge k n with hlt | hge
    · obtain ⟨hel, hLR, hB, hfr⟩ := H.out
      have hPA := HX.out.below hB
      obtain ⟨b, o, hp, hc⟩ := hPA.pl (by rw [hPA.el]; omega)
      subst hp
      obtain ⟨c0, c1⟩ := hc k (by rw [hPA.el]; omega)
      obtain ⟨xs, hA, hv, hle⟩ := hPA.ev k hlt
      have hzl := hPA.zl
      clear hel hLR hB hc hPA hfr
      go_wp2_with fail
      refine (From_ansF (ge es0 k).s (ge es0 k).p (ge es0 k).n (ge es0 k).c xs _ hA).mono ?_
      rintro e w1 ⟨s1, p1, n1, d1, rfl, hR1, hv1, hn1, hF1, hb1⟩
      have HE : Hid (RE w1 (2 * K) (gx zs k) ⟨s1, p1, n1, n1⟩) := ⟨⟨d1, hR1, by rw [hv1, hv], by show n1 ≤ _; omega⟩, rfl⟩
      clear c0 c1 hR1 hv1 hA hv
      obtain ⟨hi, hz0, hz1, hz2⟩ := HI.out
      have hown0 := own_below H.out.2.1.own hb1
      rw [H.out.1] at hown0
      have HO : Hid (w1.ownsRow w.heap.size 62 2 u3 k (fl es)) := hown0
      have hsz : w.heap.size ≤ w1.heap.size := Nat.le_trans H.out.2.2.1.size hb1.size
      clear hown0
      go_wp2_with (refine wpList_append_lies _ rfl _ _ 42 rfl w.heap.size 62 i0 (.agg #[.bool false, .slice none 0 0]) 2 32 Tryz.underlying42 hi hz0 hz1 hz2 rfl (by decide) u3 k (fl es) rfl (HO.out.alloc _) ⟨w1.heap.size, 0, none⟩ 1 1 [.bool s1, .slice p1 n1 n1] rfl rfl ?_ (fun x hx => by simp at hx; rcases hx with rfl | rfl <;> rfl) (by decide) (by unfold maxLen; omega) (by omega) (by simp; omega) _ rfl ?_; exact World.news_of_block (heap_alloc_new w1 _); intro g cap w3 hown3 hgrow3 hat3 hlt3; have hB3 : Below w.heap.size w w3 := ((bnext' H.out.2.2.1 hb1).alloc hsz _).grown hgrow3 (by simp; omega) (fun q hq => (HO.out.lt q hq).1); have HA : Hid (LG w.heap.size 62 (fun w z e => RE w (2 * K) z e) w3 (.slice (some ⟨g, 0, none⟩) (k + 1) cap) (es ++ [⟨s1, p1, n1, n1⟩]) (zs.take k ++ [gx zs k])) := lg_app (lasts_RE _) H.out.1 H.out.2.1 hb1 HE.out hF1 hown3 hgrow3 hat3; clear hown3 hgrow3 hat3)
      refine ⟨⟨k + 1, es ++ [⟨s1, p1, n1, n1⟩], by omega, by go_num, by have := H.out.1; simp; omega, by rw [take_snocg zs k (by omega)]; exact HA.out, hB3, fun j hj h0 => ?_⟩, by simp [intOf]; omega⟩
      have hel := H.out.1
      rcases Nat.lt_or_ge j k with h | h
      · rw [ge_append_left _ _ _ (by omega)] at h0 ⊢
        exact H.out.2.2.2 j h h0
      · obtain rfl : j = es.length := by omega
        rw [ge_snoc]
        exact fun a ha => Nat.le_trans H.out.2.2.1.size (hF1 a ha)
    · obtain rfl : k = n := by omega
      obtain ⟨hel, hLR, hB, hfr⟩ := H.out
      have hzl := HX.out.zl
      rw [List.take_of_length_le (by omega)] at hLR
      obtain ⟨q, cap, hv, hPR, hF⟩ := hLR.pr
      subst hv
      rw [hel] at hPR ⊢
      have HB : Hid (Below w.heap.size w wr) := hB
      have HF : Hid (∀ j, j < k → 0 < (ge es j).n → Go.Proofs.YtcdfckjlmifjiaaGreat.From w.heap.size (ge es j).p) := hfr
      clear H hLR hB hge hk hfr
      go_wp2_with fail
      refine (rTrim_any (2 * K) q k cap es zs _ hPR (by omega)).mono ?_
      rintro e w1 ⟨rfl, hb1⟩
      have HP : Hid (PR wr (2 * K) q k cap es zs) := hPR
      clear hPR
      go_wp2
      go_ret
      have htl := tlen_le zs
      have hcap := HP.out.cap
      have hT := (HP.out.below hb1).take (tlen zs) (tlen zs) (by omega) (Nat.le_refl _) (by omega)
      refine ⟨q, tlen zs, es.take (tlen zs), rfl, hT, hF, tlen_tr zs, fun j hj h0 => ?_, bnext' HB.out hb1⟩
      rw [ge_take _ _ _ hj] at h0 ⊢
      exact HF.out j (by omega) h0
end Go.Proofs.YtcdfckjlmifjiaaGreat
/-
  A polynomial of the reference in a row of them (out of Oq).
-/
namespace Go.Proofs.YtcdfckjlmifjiaaGreat
open Go.RowKit
set_option linter.unusedVariables false
set_option linter.unusedSimpArgs false

theorem info_refP : (Tryz.prog.info? 42).map (fun i => (i.zero, i.size, i.bytes)) = some (some (.slice none 0 0), 1, 24) := by kernel_rfl
/-- A polynomial of the reference among them. -/
def EY (N D : Nat) (w : World) (B T : Nat) (zs : List Int) (h : Hdr) : Prop :=
  ∃ fs, PR w N h.p h.n h.c fs zs ∧ h.c = h.n ∧ tlen zs = h.n ∧ h.n ≤ D ∧ (∀ a, h.p = some a → 0 < h.n → B ≤ a.block ∧ a.block < T) ∧ ∀ j, j < h.n → 0 < (ge fs j).n → ∀ a, (ge fs j).p = some a → B ≤ a.block ∧ a.block < T
theorem lasts_EY (N D : Nat) : LastsH (EY N D) := ⟨fun {w w' B T z h row} he hT hg hr => by
    obtain ⟨fs, k, e1, e2, h1, h2, h3⟩ := he
    refine ⟨fs, ⟨k.el, k.zl, k.cap, k.bnd, fun hx => (k.pl.same fun a ha hlt => hg.block a.block hlt fun e => ?_) hx, fun j hj => (lasts_RE N).grown (k.ev j hj) hg fun hn a ha e => ?_⟩, e1, e2, h1, h2, h3⟩
    · have h4 := h2 a ha (by rw [← k.el]; exact hx)
      have h5 := hr a.block e.symm
      omega
    · have h4 := h3 j hj hn a ha
      have h5 := hr a.block e.symm
      omega, fun {w B T B' T' z h} he hB hT => by
    obtain ⟨fs, k, e1, e2, h1, h2, h3⟩ := he
    exact ⟨fs, k, e1, e2, h1, fun a ha hn => by have := h2 a ha hn; omega, fun j hj hn a ha => by have := h3 j hj hn a ha; omega⟩⟩
theorem ey_of_from {N D : Nat} {w w' : World} {q : Option Addr} {m : Nat} {fs : List Ent} {zs : List Int} (h : PR w' N q m m fs zs) (h1 : Go.Proofs.YtcdfckjlmifjiaaGreat.From w.heap.size q) (ht : tlen zs = m) (h2 : ∀ j, j < m → 0 < (ge fs j).n → Go.Proofs.YtcdfckjlmifjiaaGreat.From w.heap.size (ge fs j).p) (hm : m ≤ D) : EY N D w' w.heap.size w'.heap.size zs ⟨q, m, m⟩ := by
  refine ⟨fs, h, rfl, ht, hm, fun a ha hn => ⟨h1 a ha, ?_⟩, fun j hj hn a ha => ⟨h2 j hj hn a ha, (lasts_RE N).lt (h.ev j hj) hn a ha⟩⟩
  obtain ⟨b, o, hp, hlt⟩ := h.pl.lt (by rw [h.el]; exact hn)
  simp only at ha
  rw [hp] at ha
  cases ha
  exact hlt
theorem take_map_snoc {α β : Type} [Inhabited α] (f : α → β) (l : List α) (j : Nat) (h : j < l.length) : (l.take (j + 1)).map f = (l.take j).map f ++ [f (gt l j)] := by
  rw [List.take_succ_eq_append_getElem h, List.map_append]
  simp [gt, h]
end Go.Proofs.YtcdfckjlmifjiaaGreat
/-
  The reference's operators: Trim, At, From.
-/
namespace Go.Proofs.YtcdfckjlmifjiaaGreat
open Go.RowKit
set_option linter.unusedVariables false
set_option linter.unusedSimpArgs false

set_option maxHeartbeats 2000000 in
set_option maxRecDepth 100000 in
/-- ashlarref8.Trim. -/
theorem rTrim8_any {w : World} {B T N E D : Nat} {zss : List (List Int)} {h : Hdr} (H : HR D (EY N E) w B T zss h) (hT : T ≤ w.heap.size) (hD : D ≤ 1000000) (hE : E ≤ 1000000) :
    Calls Tryz.prog 25 #[.slice h.p h.n h.c] w fun e w' => e = .returned (.slice h.p (olen zss) (olen zss)) ∧ Below w.heap.size w w' := by
  obtain ⟨hs, k⟩ := H
  have HX : Hid (HRow D (EY N E) w B T zss h hs ∧ T ≤ w.heap.size) := ⟨k, hT⟩
  have hn : h.n ≤ D := k.few
  have hcap : h.n ≤ h.c := k.cap
  have hbnd : h.c ≤ maxLen := k.bnd
  have hpn : h.p = none → h.c = 0 := k.pn
  have HL : Hid (zss.length = h.n) := k.tl
  obtain ⟨p, n, nc⟩ := h
  simp only at hn hcap hbnd hpn HL ⊢
  have hbnd' := hbnd
  unfold maxLen at hbnd'
  clear k hT
  go_enter Tryz.func25, Tryz.ntmps25
  go_wp2
  go_loopw [3] (fun nv wr => ∃ k : Nat, k ≤ n ∧ nv = .int .i64 k ∧ Hid ((∀ j, k ≤ j → tlen (gt zss j) = 0) ∧ Below w.heap.size w wr)) (fun nv _ => (intOf nv).toNat)
  case atStart => exact ⟨n, Nat.le_refl _, by go_num, fun j hj => by rw [gt_over0 _ _ (by have := HL.out; omega)]; rfl, Below.refl _ _⟩
  case round =>
    obtain ⟨k, hk, rfl, H⟩ := hrel
    rcases Nat.eq_zero_or_pos k with h0 | h0
    · subst h0
      have HT : Hid (olen zss = 0) := olen_eq zss 0 (fun j _ => H.out.1 j (Nat.zero_le _)) (.inl rfl)
      rcases p with _ | a
      · obtain rfl := hpn rfl
        go_wp2
        go_ret
        exact ⟨by rw [HT.out]; rfl, H.out.2⟩
      · go_wp2
        go_ret
        exact ⟨by rw [HT.out]; rfl, H.out.2⟩
    · obtain ⟨i, rfl⟩ : ∃ i, k = i + 1 := ⟨k - 1, by omega⟩
      obtain ⟨H1, H2⟩ := H.out
      have HH : Hid ((∀ j, i + 1 ≤ j → tlen (gt zss j) = 0) ∧ Below w.heap.size w wr) := ⟨H1, H2⟩
      obtain ⟨b, o, hp, hc⟩ := HX.out.1.hl (by rw [HX.out.1.el]; show 0 < n; omega)
      simp only at hp
      subst hp
      have c0 := hc i (by rw [HX.out.1.el]; show i < n; omega)
      have c1 : wr.cell? ⟨b, o + i, none⟩ = some (gh hs i).val := by rw [H2.cell (block_lt_of_cell c0)]; exact c0
      have hE2 : Hid (tlen (gt zss i) = (gh hs i).n) := by obtain ⟨fs, -, -, h2, -⟩ := HX.out.1.ev i (by show i < n; omega); exact h2
      generalize gh hs i = hd at c1 hE2
      obtain ⟨p2, n2, nc2⟩ := hd
      simp only [Hdr.val] at c1 hE2
      have v1 : wrap64 ((i : Int) + 1 - 1) = (i : Int) := by unfold wrap64; omega
      have hlt : (i : Int) < (n : Int) := by omega
      clear H H1 H2 hc c0
      rcases Nat.eq_zero_or_pos n2 with hz | hz
      · subst hz
        go_wp2
        go_roundw
        case rel => exact ⟨i, by omega, by go_num, fun j hj => by
          rcases Nat.lt_or_ge i j with h | h
          · exact HH.out.1 j h
          · have : j = i := by omega
            subst this; exact hE2.out, HH.out.2⟩
        case measure => simp [intOf]
      · have HT : Hid (olen zss = i + 1) := olen_eq zss (i + 1) HH.out.1 (.inr (by show ¬ tlen (gt zss i) = 0; rw [hE2.out]; omega))
        have d1 : ((n2 : Int) == 0) = false := by rw [beq_eq_false_iff_ne]; omega
        have d2 : ¬ (n2 : Int) = 0 := by omega
        go_wp2
        go_ret
        exact ⟨by rw [HT.out]; rfl, HH.out.2⟩
/-- An operator of the reference that is answered. -/
def OrP (D : Nat) (l : List (List Int)) (N E : Nat) (w : World) (e : Ending) (w' : World) : Prop :=
  ∃ p, e = .returned (.slice p (olen l) (olen l)) ∧ HR D (EY N E) w' w.heap.size w'.heap.size (otr l) ⟨p, olen l, olen l⟩ ∧ Below w.heap.size w w'
/-- A list that has grown, trimmed. -/
theorem trim_end {w wr w1 : World} {D N E : Nat} {q : Option Addr} {cap : Nat} {hs : List Hdr} {l : List (List Int)} (h : HRow D (EY N E) wr w.heap.size wr.heap.size l ⟨q, hs.length, cap⟩ hs) (hb : Below w.heap.size w wr) (hb1 : Below wr.heap.size wr w1) :
    OrP D l N E w (.returned (.slice q (olen l) (olen l))) w1 := by
  have hol := olen_le l
  have htl := h.tl
  refine ⟨q, rfl, ?_, bnext' hb hb1⟩
  have h1 := h.cut (olen l) (by simp only at htl ⊢; omega)
  have h2 : HR D (EY N E) wr w.heap.size wr.heap.size (otr l) ⟨q, olen l, olen l⟩ := ⟨_, h1⟩
  exact (lasts_HR (lasts_EY N E)).wide ((lasts_HR (lasts_EY N E)).below h2 (Nat.le_refl _) hb1) (Nat.le_refl _) hb1.size
end Go.Proofs.YtcdfckjlmifjiaaGreat
/-
  ashlarref8.Order (out of Aj).
-/
namespace Go.Proofs.YtcdfckjlmifjiaaGreat
open Go.RowKit
set_option linter.unusedVariables false
set_option linter.unusedSimpArgs false

set_option maxHeartbeats 2000000 in
/-- ashlarref8.Order. -/
theorem rOrder8_any (w : World) (p : Option Addr) (n nc : Nat) (hn : n ≤ 1000000) :
    Calls Tryz.prog 57 #[.slice p n nc] w fun e w' => e = .returned (.int .i64 ((n : Int) - 1)) ∧ w' = w := by
  have v1 : IntKind.i64.wrap ((n : Int) - 1) = (n : Int) - 1 := by rw [IntKind.wrap_i64]; omega
  go_enter Tryz.func57, Tryz.ntmps57
  go_wp2
  go_ret
  exact ⟨by simp [go_sem, v1], rfl⟩
end Go.Proofs.YtcdfckjlmifjiaaGreat
/-
  ashlarref3.Deg.
-/
namespace Go.Proofs.YtcdfckjlmifjiaaGreat
open Go.RowKit
set_option linter.unusedVariables false
set_option linter.unusedSimpArgs false

set_option maxHeartbeats 2000000 in
set_option maxRecDepth 100000 in
/-- ashlarref3.Deg. -/
theorem rpDeg_any (p : Option Addr) (n nc : Nat) (w : World) (hn : n ≤ 1000000) :
    Calls Tryz.prog 79 #[.slice p n nc] w fun r w' => r = .returned (.int .i64 ((n : Int) - 1)) ∧ Below w.heap.size w w' := by
  have v1 : IntKind.i64.wrap ((n : Int) - 1) = (n : Int) - 1 := by rw [IntKind.wrap_i64]; omega
  go_enter Tryz.func79, Tryz.ntmps79
  go_wp2
  go_ret
  exact ⟨rfl, Below.refl _ _⟩
end Go.Proofs.YtcdfckjlmifjiaaGreat
/-
  ashlarref3.Is of an answer that is right.
-/
namespace Go.Proofs.YtcdfckjlmifjiaaGreat
open Go.RowKit
set_option linter.unusedVariables false
set_option linter.unusedSimpArgs false

theorem NV.drew {B : Nat} {w : World} {K : Nat} {z : Int} {e : Ent} (h : NV B w K z e) : NV B w.drew K z e := by
  obtain ⟨xs, h1, h2⟩ := h
  exact ⟨xs, h1.drew, h2⟩
end Go.Proofs.YtcdfckjlmifjiaaGreat
/-
  ashlarref3.Deg, Bits.
-/
namespace Go.Proofs.YtcdfckjlmifjiaaGreat
open Go.RowKit
set_option linter.unusedVariables false
set_option linter.unusedSimpArgs false

theorem rBits_w {w : World} {N : Nat} {x : Int} {s : Bool} {p : Option Addr} {n : Nat} (h : RV w N x s p n) (hN : N ≤ 1000) :
    Calls Tryz.prog 31 #[.agg #[.bool s, .slice p n n]] w fun e w' => ∃ b : Nat, e = .returned (.int .i64 (b : Int)) ∧ b ≤ 16 * N ∧ Hid (IB b (x.natAbs : Int)) ∧ Below w.heap.size w w' := by
  have hbd := h.bd
  obtain ⟨ds, h1, rfl, h3⟩ := h
  have a := vd_nonneg h1.u
  have e : ((rval s ds).natAbs : Int) = vd ds := by unfold rval; split <;> omega
  rw [e] at hbd ⊢
  refine (rBits_any s p n n ds w h1.len (by omega) h1.nrm h1.rd h1.u).mono ?_
  rintro e w' ⟨b, g1, g2, g3⟩
  refine ⟨b, g1, ?_, g2, g3⟩
  have hp : pd N = 2 ^ (16 * N) := by rw [pd, show (65536 : Int) = 2 ^ 16 from rfl, ← Int.pow_mul]
  rcases Nat.lt_or_ge (16 * N) b with hb | hb
  · rcases g2.out.2.2 with k | k
    · omega
    · have := p2_mono (show 16 * N ≤ b - 1 by omega)
      omega
  · exact hb
theorem rBits_e {w : World} {N : Nat} {z : Int} {e : Ent} (h : RE w N z e) (hN : N ≤ 1000) :
    Calls Tryz.prog 31 #[.agg #[.bool e.s, .slice e.p e.n e.c]] w fun r w' => r = .returned (.int .i64 (zb z)) ∧ zb z ≤ 16 * N ∧ Below w.heap.size w w' := by
  obtain ⟨h1, h2⟩ := h
  rw [h2]
  refine (rBits_w h1 hN).mono ?_
  rintro r w' ⟨b, rfl, hl, hI, hb⟩
  have e2 := hI.out.uniq (zb_ib z)
  subst e2
  exact ⟨rfl, hl, hb⟩
set_option maxHeartbeats 2000000 in
set_option maxRecDepth 100000 in
/-- ashlarref3.Bits. -/
theorem rpBits_any {w : World} {N : Nat} {q : Option Addr} {n nc : Nat} {fs : List Ent} {zs : List Int} (k : PR w N q n nc fs zs) (hN : N ≤ 1000) (hn : n ≤ 1000000) :
    Calls Tryz.prog 80 #[.slice q n nc] w fun r w' => r = .returned (.int .i64 (pb zs)) ∧ Below w.heap.size w w' := by
  have hfl := k.el
  have hzl := k.zl
  go_enter Tryz.func80, Tryz.ntmps80
  go_wp2_with fail
  go_loopw [3, 4, 5] (fun mv kv cv wr => ∃ j : Nat, j ≤ n ∧ kv = .int .i64 j ∧ mv = .int .i64 (pb (zs.take j)) ∧ Hid (pb (zs.take j) ≤ 16 * N ∧ Below w.heap.size w wr)) (fun _ kv _ _ => n - (intOf kv).toNat)
  case atStart => exact ⟨0, Nat.zero_le _, by go_num, by simp [pb], by simp [pb], Below.refl _ _⟩
  case round =>
    obtain ⟨j, hj, rfl, rfl, H⟩ := hrel
    rcases Nat.lt_or_ge j n with hlt | hge
    · have hh := k.below H.out.2
      have hv := hh.ev j hlt
      obtain ⟨b, o, hp, hc⟩ := hh.pl (by omega)
      subst hp
      obtain ⟨c0, c1⟩ := hc j (by omega)
      have HT : Hid (pb (zs.take (j + 1)) = max (pb (zs.take j)) (zb (gx zs j))) := pb_take zs j (by omega)
      clear hc hh
      go_wp2_with fail
      refine (rBits_e hv hN).mono ?_
      rintro e w1 ⟨rfl, hz, hb1⟩
      have hB := bnext' H.out.2 hb1
      clear c0 c1 hv hb1
      by_cases hgt : (pb (zs.take j) : Int) < (zb (gx zs j) : Int)
      · have e1 : pb (zs.take (j + 1)) = zb (gx zs j) := by rw [HT.out]; omega
        have HE : Hid (pb (zs.take (j + 1)) = zb (gx zs j)) := e1
        clear e1
        go_wp2
        go_roundw
        case rel => exact ⟨j + 1, by omega, by go_num, by rw [HE.out], by rw [HE.out]; exact hz, hB⟩
        case measure => simp [intOf]; omega
      · have e1 : pb (zs.take (j + 1)) = pb (zs.take j) := by rw [HT.out]; omega
        have HE : Hid (pb (zs.take (j + 1)) = pb (zs.take j)) := e1
        clear e1
        go_wp2
        go_roundw
        case rel => exact ⟨j + 1, by omega, by go_num, by rw [HE.out], by rw [HE.out]; exact H.out.1, hB⟩
        case measure => simp [intOf]; omega
    · obtain rfl : j = n := by omega
      have HT : Hid (zs.take j = zs) := List.take_of_length_le (by omega)
      clear hge
      go_wp2
      go_ret
      obtain ⟨h1, h2⟩ := H.out
      exact ⟨by rw [HT.out]; rfl, h2⟩
end Go.Proofs.YtcdfckjlmifjiaaGreat
/-
  ashlarref8.Degree, Bits (out of Ak).
-/
namespace Go.Proofs.YtcdfckjlmifjiaaGreat
open Go.RowKit
set_option linter.unusedVariables false
set_option linter.unusedSimpArgs false

set_option maxHeartbeats 2000000 in
set_option maxRecDepth 100000 in
/-- ashlarref8.Degree. -/
theorem rDegree8_any {w : World} {B T N E D : Nat} {l : List (List Int)} {h : Hdr} (H : HR D (EY N E) w B T l h) (hT : T ≤ w.heap.size) (hD : D ≤ 1000000) (hE : E ≤ 1000000) :
    Calls Tryz.prog 58 #[.slice h.p h.n h.c] w fun e w' => e = .returned (.int .i64 (odeg l)) ∧ Below w.heap.size w w' := by
  obtain ⟨hs, k⟩ := H
  have HX : Hid (HRow D (EY N E) w B T l h hs ∧ T ≤ w.heap.size) := ⟨k, hT⟩
  have hn : h.n ≤ D := k.few
  have HL : Hid (l.length = h.n) := k.tl
  obtain ⟨p, n, nc⟩ := h
  simp only at hn HL ⊢
  clear k hT
  go_enter Tryz.func58, Tryz.ntmps58
  go_wp2_with fail
  go_loopw [3, 4] (fun mv kv wr => ∃ i : Nat, i ≤ n ∧ mv = .int .i64 (odeg (l.take i)) ∧ kv = .int .i64 i ∧ Hid (Below w.heap.size w wr)) (fun _ kv _ => n - (intOf kv).toNat)
  case atStart => exact ⟨0, Nat.zero_le _, by simp [odeg], by go_num, Below.refl _ _⟩
  case round =>
    obtain ⟨i, hi, rfl, rfl, G⟩ := hrel
    rcases Nat.lt_or_ge i n with hlt | hge
    · have g4 := G.out
      obtain ⟨b, o, hp, hc⟩ := HX.out.1.hl (by rw [HX.out.1.el]; show 0 < n; omega)
      simp only at hp
      subst hp
      have c0 := hc i (by rw [HX.out.1.el]; exact hlt)
      have c1 : wr.cell? ⟨b, o + i, none⟩ = some (gh hs i).val := cell_later' g4 c0
      obtain ⟨es2, -, -, ht2, hd3, -⟩ := HX.out.1.ev i hlt
      have HT : Hid (odeg (l.take (i + 1)) = max (odeg (l.take i)) (((gh hs i).n : Int) - 1)) := by rw [← ht2]; exact odeg_take l i (by have := HL.out; omega)
      generalize gh hs i = hd at c1 hd3 HT
      obtain ⟨p2, n2, nc2⟩ := hd
      simp only [Hdr.val] at c1 hd3 HT
      have i1 : (i : Int) < (n : Int) := by omega
      have hcall := fun w' => rpDeg_any p2 n2 nc2 w' (by omega)
      obtain ⟨M, hM⟩ : ∃ M, odeg (l.take (i + 1)) = M := ⟨_, rfl⟩
      have HEQ := (show Hid _ from hM)
      rw [hM] at HT
      obtain ⟨t, ht⟩ : ∃ t, (n2 : Int) - 1 = t := ⟨_, rfl⟩
      rw [ht] at HT
      simp only [ht] at hcall
      generalize odeg (l.take i) = d at *
      clear hc c0 g4 hM ht ht2
      go_wp2_with fail
      go_fit (hcall _)
      rintro e w1 ⟨rfl, hb1⟩
      have HB1 : Hid (Below w.heap.size w w1) := bnext' G.out hb1
      clear c1 hcall hb1
      by_cases hdt : d < t
      · obtain rfl : t = M := by have := HT.out; omega
        go_wp2
        go_roundw
        case rel => exact ⟨i + 1, by omega, by rw [HEQ.out], by go_num, HB1.out⟩
        case measure => simp [intOf]; omega
      · obtain rfl : d = M := by have := HT.out; omega
        go_wp2
        go_roundw
        case rel => exact ⟨i + 1, by omega, by rw [HEQ.out], by go_num, HB1.out⟩
        case measure => simp [intOf]; omega
    · obtain rfl : i = n := by omega
      have i1 : ¬ (i : Int) < (i : Int) := by omega
      have HZ : Hid (l.take i = l) := List.take_of_length_le (by have := HL.out; omega)
      go_wp2
      go_ret
      exact ⟨by rw [HZ.out]; rfl, G.out⟩
set_option maxHeartbeats 2000000 in
set_option maxRecDepth 100000 in
/-- ashlarref8.Bits. -/
theorem rBits8_any {w : World} {B T N E D : Nat} {l : List (List Int)} {h : Hdr} (H : HR D (EY N E) w B T l h) (hT : T ≤ w.heap.size) (hD : D ≤ 1000000) (hE : E ≤ 1000000) (hN : N ≤ 1000) :
    Calls Tryz.prog 59 #[.slice h.p h.n h.c] w fun e w' => e = .returned (.int .i64 (obit l)) ∧ Below w.heap.size w w' := by
  obtain ⟨hs, k⟩ := H
  have HX : Hid (HRow D (EY N E) w B T l h hs ∧ T ≤ w.heap.size) := ⟨k, hT⟩
  have hn : h.n ≤ D := k.few
  have HL : Hid (l.length = h.n) := k.tl
  obtain ⟨p, n, nc⟩ := h
  simp only at hn HL ⊢
  clear k hT
  go_enter Tryz.func59, Tryz.ntmps59
  go_wp2_with fail
  go_loopw [3, 4] (fun mv kv wr => ∃ i : Nat, i ≤ n ∧ mv = .int .i64 (obit (l.take i)) ∧ kv = .int .i64 i ∧ Hid (Below w.heap.size w wr)) (fun _ kv _ => n - (intOf kv).toNat)
  case atStart => exact ⟨0, Nat.zero_le _, by simp [obit], by go_num, Below.refl _ _⟩
  case round =>
    obtain ⟨i, hi, rfl, rfl, G⟩ := hrel
    rcases Nat.lt_or_ge i n with hlt | hge
    · have g4 := G.out
      obtain ⟨b, o, hp, hc⟩ := HX.out.1.hl (by rw [HX.out.1.el]; show 0 < n; omega)
      simp only at hp
      subst hp
      have c0 := hc i (by rw [HX.out.1.el]; exact hlt)
      have c1 : wr.cell? ⟨b, o + i, none⟩ = some (gh hs i).val := cell_later' g4 c0
      have hE2 := (lasts_EY N E).below (HX.out.1.ev i hlt) HX.out.2 g4
      have HT : Hid (obit (l.take (i + 1)) = max (obit (l.take i)) (pb (gt l i))) := obit_take l i (by have := HL.out; omega)
      generalize gh hs i = hd at c1 hE2
      obtain ⟨p2, n2, nc2⟩ := hd
      obtain ⟨es2, hP2, -, -, hd3, -⟩ := hE2
      simp only [Hdr.val] at c1 hd3 hP2
      have i1 : (i : Int) < (n : Int) := by omega
      have hcall := rpBits_any hP2 hN (by omega)
      obtain ⟨M, hM⟩ : ∃ M, obit (l.take (i + 1)) = M := ⟨_, rfl⟩
      have HEQ := (show Hid _ from hM)
      rw [hM] at HT
      generalize pb (gt l i) = t at *
      generalize obit (l.take i) = d at *
      clear hc c0 g4 hM hP2
      go_wp2_with fail
      go_fit hcall
      rintro e w1 ⟨rfl, hb1⟩
      have HB1 : Hid (Below w.heap.size w w1) := bnext' G.out hb1
      clear c1 hcall hb1
      by_cases hdt : d < t
      · obtain rfl : t = M := by have := HT.out; omega
        have i5 : (d : Int) < (t : Int) := by omega
        go_wp2
        go_roundw
        case rel => exact ⟨i + 1, by omega, by rw [HEQ.out], by go_num, HB1.out⟩
        case measure => simp [intOf]; omega
      · obtain rfl : d = M := by have := HT.out; omega
        have i5 : ¬ (d : Int) < (t : Int) := by omega
        go_wp2
        go_roundw
        case rel => exact ⟨i + 1, by omega, by rw [HEQ.out], by go_num, HB1.out⟩
        case measure => simp [intOf]; omega
    · obtain rfl : i = n := by omega
      have i1 : ¬ (i : Int) < (i : Int) := by omega
      have HZ : Hid (l.take i = l) := List.take_of_length_le (by have := HL.out; omega)
      go_wp2
      go_ret
      exact ⟨by rw [HZ.out]; rfl, G.out⟩
end Go.Proofs.YtcdfckjlmifjiaaGreat
