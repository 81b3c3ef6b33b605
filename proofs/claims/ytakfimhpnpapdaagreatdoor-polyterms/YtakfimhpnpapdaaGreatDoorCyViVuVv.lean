/-
  What the walks of the laws share: reference numbers carried on.
-/
import Derived.Test.YtakfimhpnpapdaaGreatDoorVbDaCxRb
import Derived.Test.YtakfimhpnpapdaaGreatDoorRhCqRrRwVa
import Derived.Test.YtakfimhpnpapdaaGreatDoorWlBxBbCvNj
namespace Go.Proofs.YtakfimhpnpapdaaGreatDoor
open Go.RowKit
set_option linter.unusedVariables false
set_option linter.unusedSimpArgs false

/-- A reference number with its value. -/
theorem From_ansF (s : Bool) (p : Option Addr) (n nc : Nat) (xs : List Int) (w : World) (hA : AI w p n nc xs) :
    Calls Tryz.prog 35 #[.agg #[.bool s, .slice p n nc]] w fun e w' => ∃ s' p' n' ds', e = .returned (.agg #[.bool s', .slice p' n' n']) ∧ RN w' s' p' n' ds' ∧ rval s' ds' = ival s xs ∧ n' ≤ 2 * n ∧ Go.Proofs.YtakfimhpnpapdaaGreatDoor.From w.heap.size p' ∧ Below w.heap.size w w' := by
  refine (From_any s p n nc xs w hA).mono ?_
  rintro e w' ⟨s', q, nq, rfl, hR, rfl, hF, hb⟩
  refine ⟨_, q, nq, _, rfl, hR, by rw [rval_nsg s (u16_spl hA.u), rval_spl], ?_, hF, hb⟩
  have h1 := hR.nrm
  rw [tlen_tr] at h1
  have h2 := tlen_le (spl xs)
  rw [length_spl] at h2
  have := hA.len
  omega
theorem From_ans (s : Bool) (p : Option Addr) (n nc : Nat) (xs : List Int) (w : World) (hA : AI w p n nc xs) :
    Calls Tryz.prog 35 #[.agg #[.bool s, .slice p n nc]] w fun e w' => ∃ s' p' n' ds', e = .returned (.agg #[.bool s', .slice p' n' n']) ∧ RN w' s' p' n' ds' ∧ rval s' ds' = ival s xs ∧ n' ≤ 2 * n ∧ Below w.heap.size w w' := by
  refine (From_ansF s p n nc xs w hA).mono ?_
  rintro e w' ⟨s', p', n', ds', h1, h2, h3, h4, h5, h6⟩
  exact ⟨s', p', n', ds', h1, h2, h3, h4, h6⟩
end Go.Proofs.YtakfimhpnpapdaaGreatDoor
/-
  ashlarref3.From.
-/
namespace Go.Proofs.YtakfimhpnpapdaaGreatDoor
open Go.RowKit
set_option linter.unusedVariables false
set_option linter.unusedSimpArgs false

theorem lasts_RE (N : Nat) : Lasts (fun w z e => RE w N z e) := ⟨fun h hg hne => h.grown hg hne, fun h => h.lt⟩
theorem LG.pr {base : Nat} {w : World} {N : Nat} {v : Value} {es : List Ent} {zs : List Int} (h : LG base 46 (fun w z e => RE w N z e) w v es zs) : ∃ q cap, v = .slice q es.length cap ∧ PR w N q es.length cap es zs ∧ Go.Proofs.YtakfimhpnpapdaaGreatDoor.From base q := by
  obtain ⟨q, cap, h1, h2, h3, h4, h5, -⟩ := h.pl
  exact ⟨q, cap, h1, ⟨rfl, h.zl, h2, h3, h4, h.ev⟩, h5⟩
theorem lg_app {base : Nat} {t : TypeId} {E : World → Int → Ent → Prop} (L : Lasts E) {wr w1 w3 : World} {v : Value} {es : List Ent} {zs : List Int} {z : Int} {s : Bool} {p : Option Addr} {n c k : Nat} {o : Obj} {g cap : Nat} (hk : es.length = k) (h : LG base t E wr v es zs) (hb1 : Below wr.heap.size wr w1) (hE : E w1 z ⟨s, p, n, c⟩) (hF : Go.Proofs.YtakfimhpnpapdaaGreatDoor.From wr.heap.size p)
    (hown : w3.ownsRow base t 2 (.slice (some ⟨g, 0, none⟩) (k + 1) cap) (k + 1) (fl es ++ [.bool s, .slice p n c])) (hgrow : (w1.alloc o).grownBy w3 v.ownBlock) (hat : v.ownBlock = some g ∨ g = (w1.alloc o).heap.size) :
    LG base t E w3 (.slice (some ⟨g, 0, none⟩) (k + 1) cap) (es ++ [⟨s, p, n, c⟩]) (zs ++ [z]) :=
  LG.app L hk h hb1 hE (fun _ a ha => .inr (hF a ha)) hown hgrow hat
set_option maxHeartbeats 2000000 in
set_option maxRecDepth 100000 in
/-- ashlarref3.From. -/
theorem rpFrom_any {w : World} {K : Nat} {p : Option Addr} {n nc : Nat} {es0 : List Ent} {zs : List Int} (h : PA w K p n nc es0 zs) (hn : n ≤ 100000) (hK : K ≤ 400) :
    Calls Tryz.prog 11 #[.slice p n nc] w (PrP (tr zs) (2 * K) w) := by
  obtain ⟨i0, hi, hzz⟩ := Option.map_eq_some_iff.1 info_ref
  simp only [Prod.mk.injEq] at hzz
  obtain ⟨hz0, hz1, hz2⟩ := hzz
  have HI : Hid (Tryz.prog.info? 46 = some i0 ∧ i0.zero = some (.agg #[.bool false, .slice none 0 0]) ∧ i0.size = 2 ∧ i0.bytes = 32) := ⟨hi, hz0, hz1, hz2⟩
  have HX : Hid (PA w K p n nc es0 zs) := h
  clear h hi hz0 hz1 hz2
  go_enter Tryz.func11, Tryz.ntmps11
  go_wp2_with fail
  go_loopw [3, 4] (fun qv iv wr => ∃ (k : Nat) (es : List Ent), k ≤ n ∧ iv = .int .i64 k ∧ Hid (es.length = k ∧ LG w.heap.size 46 (fun w z e => RE w (2 * K) z e) wr qv es (zs.take k) ∧ Below w.heap.size w wr)) (fun _ iv _ => n - (intOf iv).toNat)
  case atStart => exact ⟨0, [], Nat.zero_le _, by go_num, rfl, by rw [List.take_zero]; exact LG.nil _ _ _ _, Below.refl _ _⟩
  case round =>
    obtain ⟨k, es, hk, rfl, H⟩ := hrel
    rcases Nat.lt_or_ge k n with hlt | hge
    · obtain ⟨hel, hLR, hB⟩ := H.out
      have hPA := HX.out.below hB
      obtain ⟨b, o, hp, hc⟩ := hPA.pl (by rw [hPA.el]; omega)
      subst hp
      obtain ⟨c0, c1⟩ := hc k (by rw [hPA.el]; omega)
      obtain ⟨xs, hA, hv, hle⟩ := hPA.ev k hlt
      have hzl := hPA.zl
      clear hel hLR hB hc hPA
      go_wp2_with fail
      refine (From_ansF (ge es0 k).s (ge es0 k).p (ge es0 k).n (ge es0 k).c xs _ hA).mono ?_
      rintro e w1 ⟨s1, p1, n1, d1, rfl, hR1, hv1, hn1, hF1, hb1⟩
      have HE : Hid (RE w1 (2 * K) (gx zs k) ⟨s1, p1, n1, n1⟩) := ⟨⟨d1, hR1, by rw [hv1, hv], by show n1 ≤ _; omega⟩, rfl⟩
      clear c0 c1 hR1 hv1 hA hv
      obtain ⟨hi, hz0, hz1, hz2⟩ := HI.out
      have hown0 := own_below H.out.2.1.own hb1
      rw [H.out.1] at hown0
      have HO : Hid (w1.ownsRow w.heap.size 46 2 u3 k (fl es)) := hown0
      have hsz : w.heap.size ≤ w1.heap.size := Nat.le_trans H.out.2.2.size hb1.size
      clear hown0
      go_wp2_with (refine wpList_append_lies _ rfl _ _ 33 rfl w.heap.size 46 i0 (.agg #[.bool false, .slice none 0 0]) 2 32 Tryz.underlying33 hi hz0 hz1 hz2 rfl (by decide) u3 k (fl es) rfl (HO.out.alloc _) ⟨w1.heap.size, 0, none⟩ 1 1 [.bool s1, .slice p1 n1 n1] rfl rfl ?_ (fun x hx => by simp at hx; rcases hx with rfl | rfl <;> rfl) (by decide) (by unfold maxLen; omega) (by omega) (by simp; omega) _ rfl ?_; exact World.news_of_block (heap_alloc_new w1 _); intro g cap w3 hown3 hgrow3 hat3 hlt3; have hB3 : Below w.heap.size w w3 := ((bnext' H.out.2.2 hb1).alloc hsz _).grown hgrow3 (by simp; omega) (fun q hq => (HO.out.lt q hq).1); have HA : Hid (LG w.heap.size 46 (fun w z e => RE w (2 * K) z e) w3 (.slice (some ⟨g, 0, none⟩) (k + 1) cap) (es ++ [⟨s1, p1, n1, n1⟩]) (zs.take k ++ [gx zs k])) := lg_app (lasts_RE _) H.out.1 H.out.2.1 hb1 HE.out hF1 hown3 hgrow3 hat3; clear hown3 hgrow3 hat3)
      refine ⟨⟨k + 1, es ++ [⟨s1, p1, n1, n1⟩], by omega, by go_num, by have := H.out.1; simp; omega, by rw [take_snocg zs k (by omega)]; exact HA.out, hB3⟩, by simp [intOf]; omega⟩
    · obtain rfl : k = n := by omega
      obtain ⟨hel, hLR, hB⟩ := H.out
      have hzl := HX.out.zl
      rw [List.take_of_length_le (by omega)] at hLR
      obtain ⟨q, cap, hv, hPR, hF⟩ := hLR.pr
      subst hv
      rw [hel] at hPR ⊢
      have HB : Hid (Below w.heap.size w wr) := hB
      clear H hLR hB hge hk
      go_wp2_with fail
      refine (rTrim_any (2 * K) q k cap es zs _ hPR (by omega)).mono ?_
      rintro e w1 ⟨rfl, hb1⟩
      have HP : Hid (PR wr (2 * K) q k cap es zs) := hPR
      clear hPR
      go_wp2
      go_ret
      have htl := tlen_le zs
      have hcap := HP.out.cap
      have hT := (HP.out.below hb1).take (tlen zs) (tlen zs) (by omega) (Nat.le_refl _) (by omega)
      exact ⟨q, tlen zs, es.take (tlen zs), rfl, hT, hF, tlen_tr zs, bnext' HB.out hb1⟩
end Go.Proofs.YtakfimhpnpapdaaGreatDoor
/-
  Small rules on the reference's numbers in a list.
-/
namespace Go.Proofs.YtakfimhpnpapdaaGreatDoor
open Go.RowKit
set_option linter.unusedVariables false
set_option linter.unusedSimpArgs false

theorem rval_abs (s : Bool) {ds : List Int} (h : U16 ds) : vd ds = ((rval s ds).natAbs : Int) := by
  have := vd_nonneg h
  unfold rval
  split <;> omega
theorem RE.set2 {w : World} {N : Nat} {z : Int} {e : Ent} {g o : Nat} {u v : Value} (h : RE w N z e) (ho : 0 < e.n → Off g e.p) : RE ((w.setCell ⟨g, o, none⟩ u).setCell ⟨g, o + 1, none⟩ v) N z e := by
  obtain ⟨⟨ds, h1, h2⟩, h4⟩ := h
  refine ⟨⟨ds, ⟨h1.len, fun hx => ?_, h1.u, h1.nrm, h1.sg, h1.sml⟩, h2⟩, h4⟩
  have := ho (by rw [h1.len] at hx; exact hx)
  exact ((h1.rd.set_other ⟨g, o, none⟩ u this).set_other ⟨g, o + 1, none⟩ v this) hx
theorem RN.fit {w : World} {s : Bool} {p : Option Addr} {n N : Nat} {ds : List Int} (h : RN w s p n ds) (hz : ((rval s ds).natAbs : Int) < pd N) : n ≤ N := by
  have a := vd_nonneg h.u
  have e : ((rval s ds).natAbs : Int) = vd ds := by unfold rval; split <;> omega
  rw [e] at hz
  rcases Nat.lt_or_ge N n with hk | hk
  · have b := vd_pos_of_top h.u (by rw [h.nrm]; omega)
    rw [h.nrm] at b
    have c := pd_mono (show N ≤ n - 1 by omega)
    omega
  · exact hk
theorem RE_al {w : World} {N : Nat} {z : Int} {e : Ent} {o : Obj} (h : RE w N z e) : RE (w.alloc o) N z e := h.below ((Below.refl _ _).alloc (Nat.le_refl _) o)
theorem re_st {w : World} {N : Nat} {z : Int} {e : Ent} {a : Addr} {v : Value} (h : RE w N z e) (ho : 0 < e.n → Off a.block e.p) : RE (w.setCell a v) N z e := by
  obtain ⟨⟨ds, h1, h2⟩, h4⟩ := h
  exact ⟨⟨ds, ⟨h1.len, fun hx => (h1.rd.set_other a v (ho (by rw [h1.len] at hx; exact hx))) hx, h1.u, h1.nrm, h1.sg, h1.sml⟩, h2⟩, h4⟩
theorem RE_st2 {w : World} {N U : Nat} {z : Int} {e : Ent} {a : Addr} {v : Value} (hU : 0 < e.n → ∀ x, e.p = some x → x.block < U) (ha : U ≤ a.block) (h : RE w N z e) : RE (w.setCell a v) N z e := re_st h fun h0 b hb e' => by have := hU h0 b hb; omega
theorem RE_st3 {w : World} {N F : Nat} {z : Int} {e : Ent} {a : Addr} {v : Value} (hF : Go.Proofs.YtakfimhpnpapdaaGreatDoor.From F e.p) (ha : a.block < F) (h : RE w N z e) : RE (w.setCell a v) N z e := re_st h fun h0 b hb e' => by have := hF b hb; omega
theorem unFr {w : World} {p : Option Addr} (h : Go.Proofs.YtakfimhpnpapdaaGreatDoor.From w.drew.heap.size p) : Go.Proofs.YtakfimhpnpapdaaGreatDoor.From w.heap.size p := h
theorem keep4R {w w' : World} {a c i j k l : Nat} {u v x y : Value} (h : w.cell? ⟨a, i, none⟩ = some u ∧ w.cell? ⟨a, j, none⟩ = some v ∧ w.cell? ⟨c, k, none⟩ = some x ∧ w.cell? ⟨c, l, none⟩ = some y) (hb : Below w.heap.size w w') : w'.cell? ⟨a, i, none⟩ = some u ∧ w'.cell? ⟨a, j, none⟩ = some v ∧ w'.cell? ⟨c, k, none⟩ = some x ∧ w'.cell? ⟨c, l, none⟩ = some y :=
  ⟨cell_later hb h.1, cell_later hb h.2.1, cell_later hb h.2.2.1, cell_later hb h.2.2.2⟩
theorem Bx.kept {w w' : World} {r : Nat} {a b : Value} {row : Option Nat} (h : Bx w r a b) (hg : w.grownBy w' row) (hne : some r ≠ row) : Bx w' r a b := by
  have e : w'.heap[r]? = w.heap[r]? := hg.block r (block_lt_of_cell h.c0) hne
  exact ⟨(World.cell?_of_block (a := ⟨r, 0, none⟩) e).trans h.c0, (World.cell?_of_block (a := ⟨r, 1, none⟩) e).trans h.c1, (World.frozen?_of_block (a := ⟨r, 0, none⟩) e).trans h.f0, (World.frozen?_of_block (a := ⟨r, 1, none⟩) e).trans h.f1⟩
theorem tr_of_tlen {zs : List Int} (h : tlen zs = zs.length) : tr zs = zs := by rw [tr, h, List.take_length]
theorem sign_re {w : World} {N : Nat} {z : Int} {e : Ent} (h : RE w N z e) (hz : z ≠ 0) : e.s = decide (z < 0) := by
  obtain ⟨⟨ds, h1, h2, h3⟩, h4⟩ := h
  have := vd_nonneg h1.u
  cases hs : e.s <;> rw [hs, rval] at h2 <;> simp at h2 <;> simp <;> omega
end Go.Proofs.YtakfimhpnpapdaaGreatDoor
/-
  ashlarref3.At at an entry that is there, Lead of one that is not zero.
-/
namespace Go.Proofs.YtakfimhpnpapdaaGreatDoor
open Go.RowKit
set_option linter.unusedVariables false
set_option linter.unusedSimpArgs false

set_option maxHeartbeats 2000000 in
set_option maxRecDepth 100000 in
/-- ashlarref3.At, at an entry that is there. -/
theorem rpAt_in {w : World} {N : Nat} {p : Option Addr} {n nc : Nat} {es : List Ent} {zs : List Int} (h : PR w N p n nc es zs) (i : Nat) (hi : i < n) (hn : n ≤ 1000000) :
    Calls Tryz.prog 43 #[.slice p n nc, .int .i64 i] w fun r w' => r = .returned (.agg #[.bool (ge es i).s, .slice (ge es i).p (ge es i).n (ge es i).c]) ∧ Below w.heap.size w w' := by
  have hel := h.el
  have hal := bel_al (o := .cells #[.bool false, .slice none 0 0] 46) (Below.refl w.heap.size w)
  have hX : Bx (w.alloc (.cells #[.bool false, .slice none 0 0] 46)) w.heap.size (.bool false) (.slice none 0 0) := Bx.new _ _ _ rfl
  obtain ⟨b, o, hp, hc⟩ := (h.below hal).pl (by omega)
  subst hp
  obtain ⟨c0, c1⟩ := hc i (by omega)
  have i1 : (i : Int) < (n : Int) := by omega
  have i2 : ¬ (i : Int) < 0 := by omega
  have i3 : ¬ (n : Int) ≤ (i : Int) := by omega
  obtain ⟨r0, r1, f0, f1⟩ := id hX
  clear hc h
  go_enter Tryz.func43, Tryz.ntmps43
  go_upto_region 1 with fail
  generalize w.alloc (.cells #[.bool false, .slice none 0 0] 46) = W at *
  go_wp2
  refine bodyPost_ret (v := .agg #[.bool (ge es i).s, .slice (ge es i).p (ge es i).n (ge es i).c]) (by simp [results, Tryz.results43, go_sem, r0, r1]) rfl ⟨rfl, ?_⟩
  exact bset2 hal (Nat.le_refl _) _ _
set_option maxHeartbeats 2000000 in
set_option maxRecDepth 100000 in
/-- ashlarref3.Lead of a polynomial that is not zero. -/
theorem rpLead_in {w : World} {N : Nat} {p : Option Addr} {n nc : Nat} {es : List Ent} {zs : List Int} (h : PR w N p n nc es zs) (hn1 : 1 ≤ n) (hn : n ≤ 1000000) :
    Calls Tryz.prog 18 #[.slice p n nc] w fun r w' => r = .returned (.agg #[.bool (ge es (n - 1)).s, .slice (ge es (n - 1)).p (ge es (n - 1)).n (ge es (n - 1)).c]) ∧ Below w.heap.size w w' := by
  obtain ⟨i, hi⟩ : ∃ i, i = n - 1 := ⟨_, rfl⟩
  rw [← hi]
  have hal := bel_al (o := .cells #[.bool false, .slice none 0 0] 46) (Below.refl w.heap.size w)
  have hX : Bx (w.alloc (.cells #[.bool false, .slice none 0 0] 46)) w.heap.size (.bool false) (.slice none 0 0) := Bx.new _ _ _ rfl
  have ha := rpAt_in (h.below hal) i (by omega) hn
  have i1 : (n : Int) - 1 = (i : Int) := by omega
  have i2 : IntKind.i64.wrap (i : Int) = (i : Int) := by rw [IntKind.wrap_i64]; omega
  clear h hi
  go_enter Tryz.func18, Tryz.ntmps18
  go_upto_region 1 with fail
  generalize w.alloc (.cells #[.bool false, .slice none 0 0] 46) = W at *
  go_wp2_with fail
  refine ha.mono ?_
  rintro r w1 ⟨rfl, hb1⟩
  obtain ⟨r0, r1, f0, f1⟩ := hX.later hb1
  clear ha hX
  go_wp2
  refine bodyPost_ret (v := .agg #[.bool (ge es i).s, .slice (ge es i).p (ge es i).n (ge es i).c]) (by simp [results, Tryz.results18, go_sem, r0, r1]) rfl ⟨rfl, ?_⟩
  exact bset2 (bnext' hal hb1) (Nat.le_refl _) _ _
end Go.Proofs.YtakfimhpnpapdaaGreatDoor
