/-
  ashlarref3.At of any index, Add.
-/
import Derived.Test.YtejnhpjejcpekaaGreatDoorRmRpDkDlDbRi
import Derived.Test.YtejnhpjejcpekaaGreatDoorRjRgRk
import Derived.Test.YtejnhpjejcpekaaGreatDoorUgUjBsLeUkUiWiWjUlDdReRx
namespace Go.Proofs.YtejnhpjejcpekaaGreatDoor
open Go.RowKit
set_option linter.unusedVariables false
set_option linter.unusedSimpArgs false
set_option maxHeartbeats 8000000
theorem RE.wide {w : World} {N M : Nat} {z : Int} {e : Ent} (h : RE w N z e) (hM : N ≤ M) : RE w M z e := by
  obtain ⟨⟨ds, h1, h2, h3⟩, h4⟩ := h
  exact ⟨⟨ds, h1, h2, by omega⟩, h4⟩
theorem rAdd_e {w : World} {N M : Nat} {x y : Int} {e f : Ent} (h : RE w N x e) (k : RE w M y f) (hN : N ≤ 1000) (hM : M ≤ 1000) :
    Calls Tryz.prog 45 #[.agg #[.bool e.s, .slice e.p e.n e.c], .agg #[.bool f.s, .slice f.p f.n f.c]] w fun r w' => ∃ u : Ent, r = .returned (.agg #[.bool u.s, .slice u.p u.n u.c]) ∧ RE w' (N + M + 1) (x + y) u ∧ Go.Proofs.YtejnhpjejcpekaaGreatDoor.From w.heap.size u.p ∧ Below w.heap.size w w' := by
  obtain ⟨⟨xs, h1, rfl, h3⟩, h4⟩ := h
  obtain ⟨⟨ys, k1, rfl, k3⟩, k4⟩ := k
  rw [h4, k4]
  refine (rAdd_rn h1 k1 (by omega) (by omega)).mono ?_
  rintro e w1 ⟨s1, p1, n1, d1, rfl, hR1, hv1, hn1, hF1, hb1⟩
  exact ⟨⟨s1, p1, n1, n1⟩, rfl, ⟨⟨d1, hR1, hv1, by show n1 ≤ _; omega⟩, rfl⟩, hF1, hb1⟩
set_option maxRecDepth 100000 in
theorem rpAt_out {w : World} (p : Option Addr) (n nc : Nat) (i : Nat) (hi : n ≤ i) (hn : i ≤ 1000000) :
    Calls Tryz.prog 194 #[.slice p n nc, .int .i64 i] w fun r w' => ∃ u : Ent, r = .returned (.agg #[.bool u.s, .slice u.p u.n u.c]) ∧ RE w' 4 0 u ∧ Below w.heap.size w w' := by
  have hal := bel_al (o := .cells #[.bool false, .slice none 0 0] 34) (Below.refl w.heap.size w)
  have hX : Bx (w.alloc (.cells #[.bool false, .slice none 0 0] 34)) w.heap.size (.bool false) (.slice none 0 0) := Bx.new _ _ _ rfl
  have i2 : ¬ (i : Int) < 0 := by omega
  have i3 : (n : Int) ≤ (i : Int) := by omega
  go_enter Tryz.func194, Tryz.ntmps194
  go_upto_region 1 with fail
  generalize w.alloc (.cells #[.bool false, .slice none 0 0] 34) = W at *
  go_wp2_with fail
  refine (rOf_e 0 _ (by decide) (by decide)).mono ?_
  rintro e w1 ⟨u, rfl, hO, hF, hb1⟩
  obtain ⟨r0, r1, f0, f1⟩ := hX.later hb1
  have hlt : w.heap.size < W.heap.size := block_lt_of_cell hX.c0
  have hB := bnext' hal hb1
  go_wp2
  refine bodyPost_ret (v := .agg #[.bool u.s, .slice u.p u.n u.c]) (by simp [results, Tryz.results194, go_sem, r0, r1]) rfl ⟨u, rfl, ?_, bset2 hB (Nat.le_refl _) _ _⟩
  exact hO.set2 (fun _ a ha => by have := hF a ha; omega)
theorem rpAt_any {w : World} {N : Nat} {p : Option Addr} {n nc : Nat} {es : List Ent} {zs : List Int} (h : PR w N p n nc es zs) (i : Nat) (hi : i ≤ 1000000) (hn : n ≤ 1000000) (hN : 4 ≤ N) :
    Calls Tryz.prog 194 #[.slice p n nc, .int .i64 i] w fun r w' => ∃ u : Ent, r = .returned (.agg #[.bool u.s, .slice u.p u.n u.c]) ∧ RE w' N (gx zs i) u ∧ Below w.heap.size w w' := by
  rcases Nat.lt_or_ge i n with hlt | hge
  · refine (rpAt_in h i hlt hn).mono ?_
    rintro r w1 ⟨rfl, hb⟩
    exact ⟨ge es i, rfl, (h.ev i hlt).below hb, hb⟩
  · refine (rpAt_out p n nc i hge hi).mono ?_
    rintro r w1 ⟨u, rfl, hu, hb⟩
    rw [gx_past zs n (by rw [h.zl]; exact Nat.le_refl _) i hge]
    exact ⟨u, rfl, hu.wide hN, hb⟩
theorem length_pz (op : Int → Int → Int) (zs ys : List Int) : (pz op zs ys).length = max zs.length ys.length := by simp [pz]
theorem gx_pz' (op : Int → Int → Int) (zs ys : List Int) (j : Nat) (h : j < max zs.length ys.length) : gx (pz op zs ys) j = op (gx zs j) (gx ys j) := by
  rw [gx_mem _ _ (by rw [length_pz]; exact h)]
  simp [pz]
theorem fr_snoc {B k : Nat} {es : List Ent} {u : Ent} (hl : es.length = k) (h : ∀ j, j < k → 0 < (ge es j).n → Go.Proofs.YtejnhpjejcpekaaGreatDoor.From B (ge es j).p) (hu : Go.Proofs.YtejnhpjejcpekaaGreatDoor.From B u.p) (j : Nat) (hj : j < k + 1) (h0 : 0 < (ge (es ++ [u]) j).n) : Go.Proofs.YtejnhpjejcpekaaGreatDoor.From B (ge (es ++ [u]) j).p := by
  rcases Nat.lt_or_ge j k with h1 | h1
  · rw [ge_append_left _ _ _ (by omega)] at h0 ⊢
    exact h j h1 h0
  · obtain rfl : j = es.length := by omega
    rw [ge_snoc]
    exact hu
set_option maxRecDepth 100000 in
theorem rpAdd_new {w : World} {N M : Nat} {p q : Option Addr} {n nc m mc : Nat} {es0 fs0 : List Ent} {zs ys : List Int} (h : PR w N p n nc es0 zs) (h' : PR w M q m mc fs0 ys) (hn : n ≤ 100000) (hm : m ≤ 100000) (hN : N ≤ 400) (hM : M ≤ 400) (hN4 : 4 ≤ N) (hM4 : 4 ≤ M) :
    Calls Tryz.prog 111 #[.slice p n nc, .slice q m mc] w (PrF (tr (pz (· + ·) zs ys)) (N + M + 1) w) := by
  obtain ⟨i0, hi, hzz⟩ := Option.map_eq_some_iff.1 info_ref
  simp only [Prod.mk.injEq] at hzz
  obtain ⟨hz0, hz1, hz2⟩ := hzz
  have HI : Hid (Tryz.prog.info? 34 = some i0 ∧ i0.zero = some (.agg #[.bool false, .slice none 0 0]) ∧ i0.size = 2 ∧ i0.bytes = 32) := ⟨hi, hz0, hz1, hz2⟩
  have HX : Hid (PR w N p n nc es0 zs ∧ PR w M q m mc fs0 ys) := ⟨h, h'⟩
  have hvl := length_pz (· + ·) zs ys
  have hvg := gx_pz' (· + ·) zs ys
  rw [h.zl, h'.zl] at hvl hvg
  generalize hvs : pz (· + ·) zs ys = vs at *
  have HVS : Hid ((∀ j, j < max n m → gx vs j = gx zs j + gx ys j) ∧ vs.length = max n m) := ⟨hvg, hvl⟩
  clear h h' hi hz0 hz1 hz2 hvs hvg hvl
  go_enter Tryz.func111, Tryz.ntmps111
  go_wp2_with fail
  go_loopw [5, 6] (fun sv iv wr => ∃ (k : Nat) (es : List Ent), (k ≤ n ∨ k ≤ m) ∧ iv = .int .i64 (k : Int) ∧ Hid (es.length = k ∧ LG w.heap.size 34 (fun w z e => RE w (N + M + 1) z e) wr sv es (vs.take k) ∧ Below w.heap.size w wr ∧ ∀ j, j < k → 0 < (ge es j).n → Go.Proofs.YtejnhpjejcpekaaGreatDoor.From w.heap.size (ge es j).p)) (fun _ iv _ => max n m - (intOf iv).toNat)
  case atStart => exact ⟨0, [], .inl (Nat.zero_le _), by go_num, rfl, by rw [List.take_zero]; exact LG.nil _ _ _ _, Below.refl _ _, fun j hj => absurd hj (by omega)⟩
  case round =>
    obtain ⟨k, es, hk, rfl, H⟩ := hrel
    have hk3 : k ≤ 100000 := by omega
    by_cases hlt : k < n ∨ k < m
    · have H0 := H.out.2.2.1
      obtain ⟨hi, hz0, hz1, hz2⟩ := HI.out
      rcases Nat.lt_or_ge k n with hkn | hkn
      · have i1 : (k : Int) < (n : Int) := by omega
        go_wp2_with fail
        refine (rpAt_any (HX.out.1.below H0) k (by omega) (by omega) hN4).mono ?_
        rintro e w1 ⟨x1, rfl, hx1, hb1⟩
        have hB1 := bnext' H0 hb1
        go_wp2_with fail
        refine (rpAt_any (HX.out.2.below hB1) k (by omega) (by omega) hM4).mono ?_
        rintro e w2 ⟨x2, rfl, hx2, hb2⟩
        go_wp2_with fail
        refine (rAdd_e (hx1.below hb2) hx2 (by omega) (by omega)).mono ?_
        rintro e w3 ⟨u, rfl, hN1, hF1', hb3⟩
        have hB3 := bnext' (bnext' hb1 hb2) hb3
        have hF1 : Go.Proofs.YtejnhpjejcpekaaGreatDoor.From wr.heap.size u.p := fun a ha => Nat.le_trans (bnext' hb1 hb2).size (hF1' a ha)
        have HN1 : Hid (RE w3 (N + M + 1) (gx zs k + gx ys k) u) := hN1
        have hown0 := own_below H.out.2.1.own hB3
        rw [H.out.1] at hown0
        have HO : Hid (w3.ownsRow w.heap.size 34 2 u5 k (fl es)) := hown0
        have hsz : w.heap.size ≤ w3.heap.size := Nat.le_trans H0.size hB3.size
        clear hown0 hN1 hx1 hx2 hb1 hb2 hb3 hB1 hF1'
        go_wp2_with (refine wpList_append_lies _ rfl _ _ 29 rfl w.heap.size 34 i0 (.agg #[.bool false, .slice none 0 0]) 2 32 Tryz.underlying29 hi hz0 hz1 hz2 rfl (by decide) u5 k (fl es) rfl (HO.out.alloc _) ⟨w3.heap.size, 0, none⟩ 1 1 [.bool u.s, .slice u.p u.n u.c] rfl rfl ?_ (fun x hx => by simp at hx; rcases hx with rfl | rfl <;> rfl) (by decide) (by unfold maxLen; omega) (by omega) (by simp; omega) _ rfl ?_; exact World.news_of_block (heap_alloc_new w3 _); intro g cap w4 hown3 hgrow3 hat3 hlt3; have hB4 : Below w.heap.size w w4 := ((bnext' H0 hB3).alloc hsz _).grown hgrow3 (by simp; omega) (fun q hq => (HO.out.lt q hq).1); have HA : Hid (LG w.heap.size 34 (fun w z e => RE w (N + M + 1) z e) w4 (.slice (some ⟨g, 0, none⟩) (k + 1) cap) (es ++ [u]) (vs.take k ++ [gx zs k + gx ys k])) := LG.app (lasts_RE _) H.out.1 H.out.2.1 hB3 HN1.out (fun h0 a ha => .inr (hF1 a ha)) hown3 hgrow3 hat3; clear hown3 hgrow3 hat3)
        refine ⟨⟨k + 1, es ++ [u], by omega, by go_num, by have := H.out.1; simp; omega, ?_, hB4, ?_⟩, by simp [intOf]; omega⟩
        · have hvl := HVS.out.2
          rw [take_snocg vs k (by omega), HVS.out.1 k (by omega)]
          exact HA.out
        · exact fun j hj h0 => fr_snoc H.out.1 H.out.2.2.2 (fun a ha => Nat.le_trans H0.size (hF1 a ha)) j hj h0
      · have i1 : ¬ (k : Int) < (n : Int) := by omega
        have i2 : (k : Int) < (m : Int) := by omega
        go_wp2_with fail
        refine (rpAt_any (HX.out.1.below H0) k (by omega) (by omega) hN4).mono ?_
        rintro e w1 ⟨x1, rfl, hx1, hb1⟩
        have hB1 := bnext' H0 hb1
        go_wp2_with fail
        refine (rpAt_any (HX.out.2.below hB1) k (by omega) (by omega) hM4).mono ?_
        rintro e w2 ⟨x2, rfl, hx2, hb2⟩
        go_wp2_with fail
        refine (rAdd_e (hx1.below hb2) hx2 (by omega) (by omega)).mono ?_
        rintro e w3 ⟨u, rfl, hN1, hF1', hb3⟩
        have hB3 := bnext' (bnext' hb1 hb2) hb3
        have hF1 : Go.Proofs.YtejnhpjejcpekaaGreatDoor.From wr.heap.size u.p := fun a ha => Nat.le_trans (bnext' hb1 hb2).size (hF1' a ha)
        have HN1 : Hid (RE w3 (N + M + 1) (gx zs k + gx ys k) u) := hN1
        have hown0 := own_below H.out.2.1.own hB3
        rw [H.out.1] at hown0
        have HO : Hid (w3.ownsRow w.heap.size 34 2 u5 k (fl es)) := hown0
        have hsz : w.heap.size ≤ w3.heap.size := Nat.le_trans H0.size hB3.size
        clear hown0 hN1 hx1 hx2 hb1 hb2 hb3 hB1 hF1'
        go_wp2_with (refine wpList_append_lies _ rfl _ _ 29 rfl w.heap.size 34 i0 (.agg #[.bool false, .slice none 0 0]) 2 32 Tryz.underlying29 hi hz0 hz1 hz2 rfl (by decide) u5 k (fl es) rfl (HO.out.alloc _) ⟨w3.heap.size, 0, none⟩ 1 1 [.bool u.s, .slice u.p u.n u.c] rfl rfl ?_ (fun x hx => by simp at hx; rcases hx with rfl | rfl <;> rfl) (by decide) (by unfold maxLen; omega) (by omega) (by simp; omega) _ rfl ?_; exact World.news_of_block (heap_alloc_new w3 _); intro g cap w4 hown3 hgrow3 hat3 hlt3; have hB4 : Below w.heap.size w w4 := ((bnext' H0 hB3).alloc hsz _).grown hgrow3 (by simp; omega) (fun q hq => (HO.out.lt q hq).1); have HA : Hid (LG w.heap.size 34 (fun w z e => RE w (N + M + 1) z e) w4 (.slice (some ⟨g, 0, none⟩) (k + 1) cap) (es ++ [u]) (vs.take k ++ [gx zs k + gx ys k])) := LG.app (lasts_RE _) H.out.1 H.out.2.1 hB3 HN1.out (fun h0 a ha => .inr (hF1 a ha)) hown3 hgrow3 hat3; clear hown3 hgrow3 hat3)
        refine ⟨⟨k + 1, es ++ [u], by omega, by go_num, by have := H.out.1; simp; omega, ?_, hB4, ?_⟩, by simp [intOf]; omega⟩
        · have hvl := HVS.out.2
          rw [take_snocg vs k (by omega), HVS.out.1 k (by omega)]
          exact HA.out
        · exact fun j hj h0 => fr_snoc H.out.1 H.out.2.2.2 (fun a ha => Nat.le_trans H0.size (hF1 a ha)) j hj h0
    · obtain ⟨hel, hLR, hB, hfr⟩ := H.out
      have hvl := HVS.out.2
      rw [List.take_of_length_le (by omega)] at hLR
      obtain ⟨r, cap, hv, hPR, hF⟩ := hLR.pr
      subst hv
      rw [hel] at hPR ⊢
      have HB : Hid (Below w.heap.size w wr) := hB
      have HF : Hid (∀ j, j < k → 0 < (ge es j).n → Go.Proofs.YtejnhpjejcpekaaGreatDoor.From w.heap.size (ge es j).p) := hfr
      have i1 : ¬ (k : Int) < (n : Int) := by omega
      have i2 : ¬ (k : Int) < (m : Int) := by omega
      clear H hLR hB hk hvl hfr
      go_wp2_with fail
      refine (rTrim_any (N + M + 1) r k cap es vs _ hPR (by omega)).mono ?_
      rintro e w1 ⟨rfl, hb1⟩
      have HP : Hid (PR wr (N + M + 1) r k cap es vs) := hPR
      clear hPR
      go_wp2
      go_ret
      have htl := tlen_le vs
      have hcap := HP.out.cap
      have hvk := HP.out.zl
      have hT := (HP.out.below hb1).take (tlen vs) (tlen vs) (by omega) (Nat.le_refl _) (by omega)
      refine ⟨r, tlen vs, es.take (tlen vs), rfl, hT, hF, tlen_tr vs, fun j hj h0 => ?_, bnext' HB.out hb1⟩
      rw [ge_take _ _ _ hj] at h0 ⊢
      exact HF.out j (by omega) h0
theorem rpAdd_any {w : World} {N M : Nat} {p q : Option Addr} {n nc m mc : Nat} {es0 fs0 : List Ent} {zs ys : List Int} (h : PR w N p n nc es0 zs) (h' : PR w M q m mc fs0 ys) (hn : n ≤ 100000) (hm : m ≤ 100000) (hN : N ≤ 400) (hM : M ≤ 400) (hN4 : 4 ≤ N) (hM4 : 4 ≤ M) :
    Calls Tryz.prog 111 #[.slice p n nc, .slice q m mc] w (PrP (tr (pz (· + ·) zs ys)) (N + M + 1) w) :=
  (rpAdd_new h h' hn hm hN hM hN4 hM4).mono fun _ _ h => h.any
theorem tlen_same {a b : List Int} (h : ∀ j, gx a j = gx b j) : tlen a = tlen b := by
  refine tlen_eq _ _ (fun j hj => by rw [h]; exact tlen_zero b j hj) ?_
  rcases Nat.eq_zero_or_pos (tlen b) with h0 | h0
  · exact .inl h0
  · exact .inr (by rw [h]; exact tlen_top b h0)
theorem tr_same {a b : List Int} (h : ∀ j, gx a j = gx b j) : tr a = tr b := by
  refine gx_ext _ _ (by rw [length_tr, length_tr, tlen_same h]) fun j hj => ?_
  rw [gx_tr, gx_tr, h]
theorem gx_pz0 (op : Int → Int → Int) (h0 : op 0 0 = 0) (zs ys : List Int) (j : Nat) : gx (pz op zs ys) j = op (gx zs j) (gx ys j) := by
  rcases Nat.lt_or_ge j (max zs.length ys.length) with h | h
  · exact gx_pz' op zs ys j h
  · rw [gx_past _ (max zs.length ys.length) (by rw [length_pz]; exact Nat.le_refl _) j h, gx_past zs zs.length (Nat.le_refl _) j (by omega), gx_past ys ys.length (Nat.le_refl _) j (by omega), h0]
theorem pz_sub (zs ys : List Int) : tr (pz (· + ·) zs (tr (ys.map (-1 * ·)))) = tr (pz (· - ·) zs ys) := by
  refine tr_same fun j => ?_
  rw [gx_pz0 _ rfl, gx_pz0 _ rfl, gx_tr, gx_map0 (-1 * ·) rfl]
  omega
theorem rOf_n (a : Int) (w : World) (h0 : -9223372036854775808 ≤ a) (h1 : a ≤ 9223372036854775807) :
    Calls Tryz.prog 41 #[.int .i64 a] w fun r w' => ∃ u : Ent, r = .returned (.agg #[.bool u.s, .slice u.p u.n u.c]) ∧ RE w' 4 a u ∧ Go.Proofs.YtejnhpjejcpekaaGreatDoor.From w.heap.size u.p ∧ Below w.heap.size w w' := by
  refine (rOf_any a w h0 h1).mono ?_
  rintro e w1 ⟨s1, p1, n1, d1, rfl, hR1, hv1, hn1, hF1, hb1⟩
  exact ⟨⟨s1, p1, n1, n1⟩, rfl, ⟨⟨d1, hR1, hv1, hn1⟩, rfl⟩, hF1, hb1⟩
def mulz (zs ys : List Int) : List Int := (List.range (zs.length + ys.length - 1)).map (ps zs ys zs.length)
theorem length_mulz (zs ys : List Int) : (mulz zs ys).length = zs.length + ys.length - 1 := by simp [mulz]
theorem gx_mulz (zs ys : List Int) (t : Nat) (h : t < zs.length + ys.length - 1) : gx (mulz zs ys) t = ps zs ys zs.length t := by
  rw [gx_mem _ _ (by rw [length_mulz]; exact h)]
  simp [mulz]
theorem ps_far (zs ys : List Int) (t : Nat) : ∀ i, i + ys.length ≤ t + 1 → ps zs ys i t = 0
  | 0, _ => rfl
  | i + 1, h => by
    rw [ps, ps_far zs ys t i (by omega), gx_past ys ys.length (Nat.le_refl _) (t - i) (by omega)]
    simp
theorem mulz_top {zs ys : List Int} (h1 : tlen zs = zs.length) (h2 : tlen ys = ys.length) (hz : 0 < zs.length) (hy : 0 < ys.length) : tlen (mulz zs ys) = zs.length + ys.length - 1 := by
  refine tlen_eq _ _ (fun j hj => gx_past _ _ (by rw [length_mulz]; exact Nat.le_refl _) j hj) (.inr ?_)
  rw [gx_mulz _ _ _ (by omega)]
  obtain ⟨a, ha⟩ : ∃ a, zs.length = a + 1 := ⟨zs.length - 1, by omega⟩
  rw [ha, ps, ps_far _ _ _ _ (by omega), if_pos (by omega)]
  have e1 := tlen_top zs (by omega)
  have e2 := tlen_top ys (by omega)
  rw [h1, ha] at e1
  rw [h2] at e2
  have e3 : a + 1 + ys.length - 1 - 1 - a = ys.length - 1 := by omega
  rw [e3]
  have e4 : a + 1 - 1 = a := by omega
  rw [e4] at e1
  rw [Int.zero_add]
  exact Int.mul_ne_zero e1 e2
def mulp (zs ys : List Int) : List Int := if zs.length = 0 ∨ ys.length = 0 then [] else mulz zs ys
theorem pn_nil (B : Nat) (w : World) (K : Nat) : PN B w K none 0 [] [] := ⟨rfl, rfl, rfl, PL.nil, (fun a h => by cases h), fun j hj => by omega⟩
theorem ps_past (zs ys : List Int) (t : Nat) : ∀ m, ps zs ys (zs.length + m) t = ps zs ys zs.length t
  | 0 => rfl
  | m + 1 => by rw [← Nat.add_assoc, ps_none zs ys _ t (gx_past zs _ (Nat.le_refl _) _ (by omega)), ps_past zs ys t m]
theorem ps_late (zs ys : List Int) (t : Nat) : ∀ m, ps zs ys (t + 1 + m) t = ps zs ys (t + 1) t
  | 0 => rfl
  | m + 1 => by
    rw [← Nat.add_assoc, ps, ps_late zs ys t m, if_neg (by omega), Int.add_zero]
theorem ps_nil (zs : List Int) (t : Nat) : ∀ i, ps zs [] i t = 0
  | 0 => rfl
  | i + 1 => by rw [ps, ps_nil zs t i]; simp [gx]
theorem gx_mulp (zs ys : List Int) (t : Nat) : gx (mulp zs ys) t = ps zs ys (t + 1) t := by
  have h0 : ps zs ys (t + 1) t = ps zs ys zs.length t := by
    have h1 := ps_late zs ys t (zs.length)
    have h2 := ps_past zs ys t (t + 1)
    rw [Nat.add_comm] at h2
    rw [← h1, h2]
  rw [h0, mulp]
  by_cases h : zs.length = 0 ∨ ys.length = 0
  · rw [if_pos h]
    rcases h with h | h
    · rw [h]; rfl
    · rw [List.eq_nil_of_length_eq_zero h, ps_nil]; rfl
  · rw [if_neg h]
    rcases Nat.lt_or_ge t (zs.length + ys.length - 1) with h1 | h1
    · rw [gx_mulz _ _ _ h1]
    · rw [gx_past _ (zs.length + ys.length - 1) (by rw [length_mulz]; exact Nat.le_refl _) t h1, ps_far zs ys t zs.length (by omega)]
end Go.Proofs.YtejnhpjejcpekaaGreatDoor
