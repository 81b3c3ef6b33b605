/-
  Lists of the reference that grow by append; ashlarref3.Of.
-/
import Derived.Test.YtejnhpjejcpekaaGreatDoorVaVgRo
import Derived.Test.YtejnhpjejcpekaaGreatDoorUbUcUdOwRaWmBe
import Derived.Test.YtejnhpjejcpekaaGreatDoorWhPnWkWlBxBbCvNj
import Derived.Test.YtejnhpjejcpekaaGreatDoorUgUjBsLeUkUiWiWjUlDdReRx
import Derived.Test.YtejnhpjejcpekaaGreatDoorRfRhCqRrRw
import Derived.Test.YtejnhpjejcpekaaGreatDoorWgUeUf
namespace Go.Proofs.YtejnhpjejcpekaaGreatDoor
open Go.RowKit
set_option linter.unusedVariables false
set_option linter.unusedSimpArgs false
set_option maxHeartbeats 8000000
theorem Rd.grown {w w' : World} {p : Option Addr} {k : IntKind} {xs : List Int} {row : Option Nat} (h : Rd w p k xs) (hg : w.grownBy w' row) (hne : 0 < xs.length → ∀ a, p = some a → some a.block ≠ row) : Rd w' p k xs := fun hx => h.kept hg (hne hx) hx
theorem RE.grown {w w' : World} {N : Nat} {z : Int} {e : Ent} {row : Option Nat} (h : RE w N z e) (hg : w.grownBy w' row) (hne : 0 < e.n → ∀ a, e.p = some a → some a.block ≠ row) : RE w' N z e := by
  obtain ⟨⟨ds, h1, h2, h3⟩, h4⟩ := h
  exact ⟨⟨ds, ⟨h1.len, h1.rd.grown hg (by rw [h1.len]; exact hne), h1.u, h1.nrm, h1.sg, h1.sml⟩, h2, h3⟩, h4⟩
theorem RE.lt {w : World} {N : Nat} {z : Int} {e : Ent} (h : RE w N z e) : 0 < e.n → ∀ a, e.p = some a → a.block < w.heap.size := by
  obtain ⟨⟨ds, h1, h2, h3⟩, h4⟩ := h
  exact h1.lt
theorem info_ref : (Tryz.prog.info? 34).map (fun i => (i.zero, i.size, i.bytes)) = some (some (.agg #[.bool false, .slice none 0 0]), 2, 32) := by kernel_rfl
def PrP (zs : List Int) (N : Nat) (w : World) (e : Ending) (w' : World) : Prop :=
  ∃ p n es, e = .returned (.slice p n n) ∧ PR w' N p n n es zs ∧ Go.Proofs.YtejnhpjejcpekaaGreatDoor.From w.heap.size p ∧ tlen zs = n ∧ Below w.heap.size w w'
def PrF (zs : List Int) (N : Nat) (w : World) (e : Ending) (w' : World) : Prop :=
  ∃ p n es, e = .returned (.slice p n n) ∧ PR w' N p n n es zs ∧ Go.Proofs.YtejnhpjejcpekaaGreatDoor.From w.heap.size p ∧ tlen zs = n ∧ (∀ j, j < n → 0 < (ge es j).n → Go.Proofs.YtejnhpjejcpekaaGreatDoor.From w.heap.size (ge es j).p) ∧ Below w.heap.size w w'
theorem PrF.any {zs : List Int} {N : Nat} {w : World} {e : Ending} {w' : World} (h : PrF zs N w e w') : PrP zs N w e w' := by
  obtain ⟨q, m, es, h1, h2, h3, h4, -, h5⟩ := h
  exact ⟨q, m, es, h1, h2, h3, h4, h5⟩
structure Vr (w : World) (g : Nat) (s : Bool) (p : Option Addr) (n nc F : Nat) (xs : List Int) : Prop where
  b : Bx w g (.bool s) (.slice p n nc)
  a : AI w p n nc xs
  f : Go.Proofs.YtejnhpjejcpekaaGreatDoor.From F p
theorem Vr.later {w w' : World} {g : Nat} {s : Bool} {p : Option Addr} {n nc F : Nat} {xs : List Int} (h : Vr w g s p n nc F xs) (hb : Below w.heap.size w w') : Vr w' g s p n nc F xs := ⟨h.b.later hb, h.a.below hb, h.f⟩
def FromPost (s : Bool) (xs : List Int) (w : World) (e : Ending) (w' : World) : Prop :=
  ∃ s' p' n', e = .returned (.agg #[.bool s', .slice p' n' n']) ∧ RN w' s' p' n' (tr (spl xs)) ∧ s' = nsg s (spl xs) ∧ Go.Proofs.YtejnhpjejcpekaaGreatDoor.From w.heap.size p' ∧ Below w.heap.size w w'
set_option maxRecDepth 100000 in
theorem From_any (s : Bool) (p : Option Addr) (n nc : Nat) (xs : List Int) (w : World) (hA : AI w p n nc xs) :
    Calls Tryz.prog 12 #[.agg #[.bool s, .slice p n nc]] w (FromPost s xs w) := by
  obtain ⟨i0, hi, hzz⟩ := Option.map_eq_some_iff.1 info_int
  simp only [Prod.mk.injEq] at hzz
  obtain ⟨hz0, hz1, hz2⟩ := hzz
  have HI : Hid (Tryz.prog.info? 3 = some i0 ∧ i0.zero = some (.int .i64 0) ∧ i0.size = 1 ∧ i0.bytes = 8) := ⟨hi, hz0, hz1, hz2⟩
  clear hi hz0 hz1 hz2
  have hl := hA.len
  have hs := hA.sml
  go_enter Tryz.func12, Tryz.ntmps12
  go_wp2
  have hb1 : Bx ((w.alloc (.cells #[.bool s, .slice p n nc] 26)).alloc (.cells #[.bool false, .slice none 0 0] 34)) w.heap.size (.bool s) (.slice p n nc) := (Bx.new _ _ _ rfl).alloc _
  have hb2 : Bx ((w.alloc (.cells #[.bool s, .slice p n nc] 26)).alloc (.cells #[.bool false, .slice none 0 0] 34)) (w.heap.size + 1) (.bool false) (.slice none 0 0) := Bx.new _ _ _ (World.size_alloc ..).symm
  have hbw : Below w.heap.size w ((w.alloc (.cells #[.bool s, .slice p n nc] 26)).alloc (.cells #[.bool false, .slice none 0 0] 34)) := ((Below.refl _ _).alloc (Nat.le_refl _) _).alloc (by simp) _
  have hsz : ((w.alloc (.cells #[.bool s, .slice p n nc] 26)).alloc (.cells #[.bool false, .slice none 0 0] 34)).heap.size = w.heap.size + 1 + 1 := by simp
  generalize ((w.alloc (.cells #[.bool s, .slice p n nc] 26)).alloc (.cells #[.bool false, .slice none 0 0] 34)) = W at *
  have HS : Hid (W.heap.size = w.heap.size + 1 + 1) := hsz
  clear hsz
  have hAW := hA.below hbw
  go_loopw [3, 4] (fun dv iv wr => ∃ (k : Nat), k ≤ n ∧ iv = .int .i64 k ∧ Hid (wr.ownsRow W.heap.size 3 1 dv (2 * k) ((spl (xs.take k)).map (Value.int .i64)) ∧ Below W.heap.size W wr)) (fun _ iv _ => n - (intOf iv).toNat)
  case atStart => exact ⟨0, Nat.zero_le _, rfl, World.ownsRow_nil _ _ _ _, Below.refl _ _⟩
  case round =>
    obtain ⟨k, hk, rfl, H⟩ := hrel
    have hBr := H.out.2
    have hb1r := hb1.later hBr
    have hb2r := hb2.later hBr
    have k0 := hb1r.c0
    have k1 := hb1r.c1
    by_cases hlt : k < n
    · obtain ⟨b, off, rfl, hcell⟩ := (hAW.rd.below hBr) (by omega)
      have hck := hcell k (by omega)
      obtain ⟨x0, x1⟩ := hA.u k
      have hltI : (k : Int) < (n : Int) := by omega
      have q1 : (gx xs k).tmod 65536 = gx xs k % 65536 := Int.tmod_eq_emod_of_nonneg x0
      have q2 : (gx xs k).tdiv 65536 = gx xs k / 65536 := Int.tdiv_eq_ediv_of_nonneg x0
      have q3 : IntKind.i64.wrap (gx xs k % 65536) = gx xs k % 65536 := by rw [IntKind.wrap_i64]; omega
      have q4 : IntKind.u32.wrap (gx xs k / 65536) = gx xs k / 65536 := by rw [IntKind.wrap_u32']; omega
      have q5 : IntKind.i64.wrap (gx xs k / 65536) = gx xs k / 65536 := by rw [IntKind.wrap_i64]; omega
      have hbl : b < wr.heap.size := block_lt_of_cell hck
      obtain ⟨b', off', hp', hcellW⟩ := hAW.rd (by omega)
      cases hp'
      have hckW := hcellW k (by omega)
      have hwl : w.heap.size < wr.heap.size := by have h1 := HS.out; have h2 := hBr.size; omega
      clear hcell hcellW
      obtain ⟨hi, hz0, hz1, hz2⟩ := HI.out
      have hown := H.out.1
      have HO : Hid (wr.ownsRow W.heap.size 3 1 u3 (2 * k) ((spl (xs.take k)).map (Value.int .i64))) := hown
      clear hown
      go_wp2
      go_region_held3 (fun w' => w'.cell? ⟨w.heap.size, 1, none⟩ = some (.slice (some ⟨b, off, none⟩) n nc) ∧ w'.cell? ⟨b, off + k, none⟩ = some (.int .u32 (gx xs k))) (first | exact ⟨by assumption, by assumption⟩ | (simp [go_sem, *]; done))
        (first
          | (refine step_append_lies _ rfl _ _ 32 rfl W.heap.size 3 i0 (.int .i64 0) 1 8 Tryz.underlying32 hi hz0 hz1 hz2 rfl (by decide) u3 (2 * k) ((spl (xs.take k)).map (Value.int .i64)) rfl (HO.out.alloc _) ⟨wr.heap.size, 0, none⟩ 2 2 [.int .i64 (gx xs k % 65536), .int .i64 (gx xs k / 65536)] rfl rfl ?_ (fun x hx => by simp at hx; rcases hx with rfl | rfl <;> rfl) (by decide) (by unfold maxLen; omega) (by omega) (by have := hBr.size; simp; omega) _ rfl ?_; exact fun j u hu => (World.cell?_drew ..).trans (cell_two_new wr _ _ _ j u hu); intro g cap w3 hown3 hgrow3 hat3 hlt3; have hB3 : Below W.heap.size W w3 := (bel_alw hBr.drew).grown hgrow3 (by have := hBr.size; simp; omega) (fun q hq => (HO.out.lt q hq).1); have e1 := cell_later hB3 hb1.c1; have e2 := cell_later hB3 hckW))
      go_wp2
      refine ⟨⟨k + 1, by omega, by go_num, ?_, hB3⟩, by simp [intOf]; omega⟩
      rw [spl_snoc xs k (by omega), List.map_append, show 2 * (k + 1) = 2 * k + 2 by omega]
      exact hown3
    · have hkn : k = n := by omega
      subst hkn
      have c0 := hb2r.c0
      have c1 := hb2r.c1
      obtain ⟨hown, _⟩ := H.out
      rw [List.take_of_length_le (by omega)] at hown
      have hform : ∃ q cap, u3 = .slice q (2 * k) cap ∧ 2 * k ≤ cap ∧ cap ≤ maxLen ∧ Rd wr q .i64 (spl xs) ∧ Go.Proofs.YtejnhpjejcpekaaGreatDoor.From W.heap.size q := by
        rcases hown.2 with ⟨h1, h2⟩ | ⟨g, cap, cur, h1, hbg, _, h4, h5, _⟩
        · refine ⟨none, 0, by rw [h1, h2], by omega, Nat.zero_le _, ?_, from_none⟩
          have : spl xs = [] := List.eq_nil_of_length_eq_zero (by rw [length_spl]; omega)
          rw [this]; exact Rd.nil
        · subst h1
          exact ⟨_, cap, rfl, h4, h5, rd_owns hown, from_new hbg⟩
      obtain ⟨q, cap, rfl, hq1, hq2, hq3, hq4⟩ := hform
      clear hown
      go_wp2_with fail
      refine (rtrim_any s q (2 * k) cap (spl xs) _ (by rw [length_spl]; omega) hq1 hq2 hq3).mono ?_
      rintro e w4 ⟨rfl, hb4⟩
      obtain ⟨z0, z1, z2, z3⟩ := resbox hb4 hb2r.c0 hb2r.c1 hb2r.f0 hb2r.f1
      go_wp2
      have htl := tlen_le (spl xs)
      rw [length_spl] at htl
      have hsW := HS.out
      refine bodyPost_ret (v := .agg #[.bool (nsg s (spl xs)), .slice q (tlen (spl xs)) (tlen (spl xs))]) (by simp [results, Tryz.results12, go_sem, z0, z1]) rfl ?_
      refine ⟨_, q, tlen (spl xs), rfl, ⟨length_tr _, ?_, u16_tr (u16_spl hA.u), tlen_tr _, fun h => by rw [nsg, if_pos h], by omega⟩, rfl, fun a ha => by have := hq4 a ha; omega, ?_⟩
      · exact ((hq3.tr.below hb4).set_other _ _ (fun a ha => by have := hq4 a ha; simp; omega)).set_other _ _ (fun a ha => by have := hq4 a ha; simp; omega)
      · exact (((hbw.trans (hBr.mono hbw.size)).trans (hb4.mono (by have := hBr.size; have := hbw.size; omega))).setCell (by simp) _).setCell (by simp) _
theorem From_ansF (s : Bool) (p : Option Addr) (n nc : Nat) (xs : List Int) (w : World) (hA : AI w p n nc xs) :
    Calls Tryz.prog 12 #[.agg #[.bool s, .slice p n nc]] w fun e w' => ∃ s' p' n' ds', e = .returned (.agg #[.bool s', .slice p' n' n']) ∧ RN w' s' p' n' ds' ∧ rval s' ds' = ival s xs ∧ n' ≤ 2 * n ∧ Go.Proofs.YtejnhpjejcpekaaGreatDoor.From w.heap.size p' ∧ Below w.heap.size w w' := by
  refine (From_any s p n nc xs w hA).mono ?_
  rintro e w' ⟨s', q, nq, rfl, hR, rfl, hF, hb⟩
  refine ⟨_, q, nq, _, rfl, hR, by rw [rval_nsg s (u16_spl hA.u), rval_spl], ?_, hF, hb⟩
  have h1 := hR.nrm
  rw [tlen_tr] at h1
  have h2 := tlen_le (spl xs)
  rw [length_spl] at h2
  have := hA.len
  omega
theorem lasts_RE (N : Nat) : Lasts (fun w z e => RE w N z e) := ⟨fun h hg hne => h.grown hg hne, fun h => h.lt⟩
theorem LG.pr {base : Nat} {w : World} {N : Nat} {v : Value} {es : List Ent} {zs : List Int} (h : LG base 34 (fun w z e => RE w N z e) w v es zs) : ∃ q cap, v = .slice q es.length cap ∧ PR w N q es.length cap es zs ∧ Go.Proofs.YtejnhpjejcpekaaGreatDoor.From base q := by
  obtain ⟨q, cap, h1, h2, h3, h4, h5, -⟩ := h.pl
  exact ⟨q, cap, h1, ⟨rfl, h.zl, h2, h3, h4, h.ev⟩, h5⟩
set_option maxRecDepth 100000 in
theorem rpFrom_new {w : World} {K : Nat} {p : Option Addr} {n nc : Nat} {es0 : List Ent} {zs : List Int} (h : PA w K p n nc es0 zs) (hn : n ≤ 100000) (hK : K ≤ 400) :
    Calls Tryz.prog 10 #[.slice p n nc] w (PrF (tr zs) (2 * K) w) := by
  obtain ⟨i0, hi, hzz⟩ := Option.map_eq_some_iff.1 info_ref
  simp only [Prod.mk.injEq] at hzz
  obtain ⟨hz0, hz1, hz2⟩ := hzz
  have HI : Hid (Tryz.prog.info? 34 = some i0 ∧ i0.zero = some (.agg #[.bool false, .slice none 0 0]) ∧ i0.size = 2 ∧ i0.bytes = 32) := ⟨hi, hz0, hz1, hz2⟩
  have HX : Hid (PA w K p n nc es0 zs) := h
  clear h hi hz0 hz1 hz2
  go_enter Tryz.func10, Tryz.ntmps10
  go_wp2_with fail
  go_loopw [3, 4] (fun qv iv wr => ∃ (k : Nat) (es : List Ent), k ≤ n ∧ iv = .int .i64 k ∧ Hid (es.length = k ∧ LG w.heap.size 34 (fun w z e => RE w (2 * K) z e) wr qv es (zs.take k) ∧ Below w.heap.size w wr ∧ ∀ j, j < k → 0 < (ge es j).n → Go.Proofs.YtejnhpjejcpekaaGreatDoor.From w.heap.size (ge es j).p)) (fun _ iv _ => n - (intOf iv).toNat)
  case atStart => exact ⟨0, [], Nat.zero_le _, by go_num, rfl, by rw [List.take_zero]; exact LG.nil _ _ _ _, Below.refl _ _, fun j hj => absurd hj (by omega)⟩
  case round =>
    obtain ⟨k, es, hk, rfl, H⟩ := hrel
    rcases Nat.lt_or_ge k n with hlt | hge
    · obtain ⟨hel, hLR, hB, hfr⟩ := H.out
      have hPA := HX.out.below hB
      obtain ⟨b, o, hp, hc⟩ := hPA.pl (by rw [hPA.el]; omega)
      subst hp
      obtain ⟨c0, c1⟩ := hc k (by rw [hPA.el]; omega)
      obtain ⟨xs, hA, hv, hle⟩ := hPA.ev k hlt
      have hzl := hPA.zl
      clear hel hLR hB hc hPA hfr
      go_wp2_with fail
      refine (From_ansF (ge es0 k).s (ge es0 k).p (ge es0 k).n (ge es0 k).c xs _ hA).mono ?_
      rintro e w1 ⟨s1, p1, n1, d1, rfl, hR1, hv1, hn1, hF1, hb1⟩
      have HE : Hid (RE w1 (2 * K) (gx zs k) ⟨s1, p1, n1, n1⟩) := ⟨⟨d1, hR1, by rw [hv1, hv], by show n1 ≤ _; omega⟩, rfl⟩
      clear c0 c1 hR1 hv1 hA hv
      obtain ⟨hi, hz0, hz1, hz2⟩ := HI.out
      have hown0 := own_below H.out.2.1.own hb1
      rw [H.out.1] at hown0
      have HO : Hid (w1.ownsRow w.heap.size 34 2 u3 k (fl es)) := hown0
      have hsz : w.heap.size ≤ w1.heap.size := Nat.le_trans H.out.2.2.1.size hb1.size
      clear hown0
      go_wp2_with (refine wpList_append_lies _ rfl _ _ 29 rfl w.heap.size 34 i0 (.agg #[.bool false, .slice none 0 0]) 2 32 Tryz.underlying29 hi hz0 hz1 hz2 rfl (by decide) u3 k (fl es) rfl (HO.out.alloc _) ⟨w1.heap.size, 0, none⟩ 1 1 [.bool s1, .slice p1 n1 n1] rfl rfl ?_ (fun x hx => by simp at hx; rcases hx with rfl | rfl <;> rfl) (by decide) (by unfold maxLen; omega) (by omega) (by simp; omega) _ rfl ?_; exact World.news_of_block (heap_alloc_new w1 _); intro g cap w3 hown3 hgrow3 hat3 hlt3; have hB3 : Below w.heap.size w w3 := ((bnext' H.out.2.2.1 hb1).alloc hsz _).grown hgrow3 (by simp; omega) (fun q hq => (HO.out.lt q hq).1); have HA : Hid (LG w.heap.size 34 (fun w z e => RE w (2 * K) z e) w3 (.slice (some ⟨g, 0, none⟩) (k + 1) cap) (es ++ [⟨s1, p1, n1, n1⟩]) (zs.take k ++ [gx zs k])) := lg_app (lasts_RE _) H.out.1 H.out.2.1 hb1 HE.out hF1 hown3 hgrow3 hat3; clear hown3 hgrow3 hat3)
      refine ⟨⟨k + 1, es ++ [⟨s1, p1, n1, n1⟩], by omega, by go_num, by have := H.out.1; simp; omega, by rw [take_snocg zs k (by omega)]; exact HA.out, hB3, fun j hj h0 => ?_⟩, by simp [intOf]; omega⟩
      have hel := H.out.1
      rcases Nat.lt_or_ge j k with h | h
      · rw [ge_append_left _ _ _ (by omega)] at h0 ⊢
        exact H.out.2.2.2 j h h0
      · obtain rfl : j = es.length := by omega
        rw [ge_snoc]
        exact fun a ha => Nat.le_trans H.out.2.2.1.size (hF1 a ha)
    · obtain rfl : k = n := by omega
      obtain ⟨hel, hLR, hB, hfr⟩ := H.out
      have hzl := HX.out.zl
      rw [List.take_of_length_le (by omega)] at hLR
      obtain ⟨q, cap, hv, hPR, hF⟩ := hLR.pr
      subst hv
      rw [hel] at hPR ⊢
      have HB : Hid (Below w.heap.size w wr) := hB
      have HF : Hid (∀ j, j < k → 0 < (ge es j).n → Go.Proofs.YtejnhpjejcpekaaGreatDoor.From w.heap.size (ge es j).p) := hfr
      clear H hLR hB hge hk hfr
      go_wp2_with fail
      refine (rTrim_any (2 * K) q k cap es zs _ hPR (by omega)).mono ?_
      rintro e w1 ⟨rfl, hb1⟩
      have HP : Hid (PR wr (2 * K) q k cap es zs) := hPR
      clear hPR
      go_wp2
      go_ret
      have htl := tlen_le zs
      have hcap := HP.out.cap
      have hT := (HP.out.below hb1).take (tlen zs) (tlen zs) (by omega) (Nat.le_refl _) (by omega)
      refine ⟨q, tlen zs, es.take (tlen zs), rfl, hT, hF, tlen_tr zs, fun j hj h0 => ?_, bnext' HB.out hb1⟩
      rw [ge_take _ _ _ hj] at h0 ⊢
      exact HF.out j (by omega) h0
theorem rpFrom_any {w : World} {K : Nat} {p : Option Addr} {n nc : Nat} {es0 : List Ent} {zs : List Int} (h : PA w K p n nc es0 zs) (hn : n ≤ 100000) (hK : K ≤ 400) :
    Calls Tryz.prog 10 #[.slice p n nc] w (PrP (tr zs) (2 * K) w) := by
  refine (rpFrom_new h hn hK).mono ?_
  rintro e w' ⟨q, m, es, h1, h2, h3, h4, -, h5⟩
  exact ⟨q, m, es, h1, h2, h3, h4, h5⟩
theorem rval_abs (s : Bool) {ds : List Int} (h : U16 ds) : vd ds = ((rval s ds).natAbs : Int) := by
  have := vd_nonneg h
  unfold rval
  split <;> omega
theorem RE.set2 {w : World} {N : Nat} {z : Int} {e : Ent} {g o : Nat} {u v : Value} (h : RE w N z e) (ho : 0 < e.n → Off g e.p) : RE ((w.setCell ⟨g, o, none⟩ u).setCell ⟨g, o + 1, none⟩ v) N z e := by
  obtain ⟨⟨ds, h1, h2⟩, h4⟩ := h
  refine ⟨⟨ds, ⟨h1.len, fun hx => ?_, h1.u, h1.nrm, h1.sg, h1.sml⟩, h2⟩, h4⟩
  have := ho (by rw [h1.len] at hx; exact hx)
  exact ((h1.rd.set_other ⟨g, o, none⟩ u this).set_other ⟨g, o + 1, none⟩ v this) hx
theorem RN.fit {w : World} {s : Bool} {p : Option Addr} {n N : Nat} {ds : List Int} (h : RN w s p n ds) (hz : ((rval s ds).natAbs : Int) < pd N) : n ≤ N := by
  have a := vd_nonneg h.u
  have e : ((rval s ds).natAbs : Int) = vd ds := by unfold rval; split <;> omega
  rw [e] at hz
  rcases Nat.lt_or_ge N n with hk | hk
  · have b := vd_pos_of_top h.u (by rw [h.nrm]; omega)
    rw [h.nrm] at b
    have c := pd_mono (show N ≤ n - 1 by omega)
    omega
  · exact hk
theorem unFr {w : World} {p : Option Addr} (h : Go.Proofs.YtejnhpjejcpekaaGreatDoor.From w.drew.heap.size p) : Go.Proofs.YtejnhpjejcpekaaGreatDoor.From w.heap.size p := h
theorem keep4R {w w' : World} {a c i j k l : Nat} {u v x y : Value} (h : w.cell? ⟨a, i, none⟩ = some u ∧ w.cell? ⟨a, j, none⟩ = some v ∧ w.cell? ⟨c, k, none⟩ = some x ∧ w.cell? ⟨c, l, none⟩ = some y) (hb : Below w.heap.size w w') : w'.cell? ⟨a, i, none⟩ = some u ∧ w'.cell? ⟨a, j, none⟩ = some v ∧ w'.cell? ⟨c, k, none⟩ = some x ∧ w'.cell? ⟨c, l, none⟩ = some y :=
  ⟨cell_later hb h.1, cell_later hb h.2.1, cell_later hb h.2.2.1, cell_later hb h.2.2.2⟩
theorem Bx.kept {w w' : World} {r : Nat} {a b : Value} {row : Option Nat} (h : Bx w r a b) (hg : w.grownBy w' row) (hne : some r ≠ row) : Bx w' r a b := by
  have e : w'.heap[r]? = w.heap[r]? := hg.block r (block_lt_of_cell h.c0) hne
  exact ⟨(World.cell?_of_block (a := ⟨r, 0, none⟩) e).trans h.c0, (World.cell?_of_block (a := ⟨r, 1, none⟩) e).trans h.c1, (World.frozen?_of_block (a := ⟨r, 0, none⟩) e).trans h.f0, (World.frozen?_of_block (a := ⟨r, 1, none⟩) e).trans h.f1⟩
theorem tr_of_tlen {zs : List Int} (h : tlen zs = zs.length) : tr zs = zs := by rw [tr, h, List.take_length]
theorem gx_map0 (f : Int → Int) (h0 : f 0 = 0) (xs : List Int) (j : Nat) : gx (xs.map f) j = f (gx xs j) := by
  unfold gx
  rw [List.getD_eq_getElem?_getD, List.getD_eq_getElem?_getD, List.getElem?_map]
  cases h : xs[j]? with
  | none => simp [h0]
  | some v => simp
def part (xs : List Int) (n k : Nat) : List Int := xs.take k ++ zeros (n - k)
end Go.Proofs.YtejnhpjejcpekaaGreatDoor
