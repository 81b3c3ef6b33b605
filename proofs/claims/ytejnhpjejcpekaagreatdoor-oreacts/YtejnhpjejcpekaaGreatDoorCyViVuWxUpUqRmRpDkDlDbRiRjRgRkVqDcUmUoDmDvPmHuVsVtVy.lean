/-
  What the walks of the laws share: reference numbers carried on.
-/
import Derived.Test.YtejnhpjejcpekaaGreatDoorRoVbDaCxRb
import Derived.Test.YtejnhpjejcpekaaGreatDoorRhCqRrRwVaVg
import Derived.Test.YtejnhpjejcpekaaGreatDoorWlBxBbCvNjUbUcUdOwRaWmBeRd
import Derived.Test.YtejnhpjejcpekaaGreatDoorUaWhPnWk
import Derived.Test.YtejnhpjejcpekaaGreatDoorUeUfUgHdNb
import Derived.Test.YtejnhpjejcpekaaGreatDoorUlDdReRxRf
import Derived.Test.YtejnhpjejcpekaaGreatDoorUiWiWj
import Derived.Test.YtejnhpjejcpekaaGreatDoorFyUjBsLeUk
import Derived.Deep.DeepFit
namespace Go.Proofs.YtejnhpjejcpekaaGreatDoor
open Go.RowKit
set_option linter.unusedVariables false
set_option linter.unusedSimpArgs false
set_option maxHeartbeats 8000000
theorem From_ansF (s : Bool) (p : Option Addr) (n nc : Nat) (xs : List Int) (w : World) (hA : AI w p n nc xs) :
    Calls Tryz.prog 12 #[.agg #[.bool s, .slice p n nc]] w fun e w' => ∃ s' p' n' ds', e = .returned (.agg #[.bool s', .slice p' n' n']) ∧ RN w' s' p' n' ds' ∧ rval s' ds' = ival s xs ∧ n' ≤ 2 * n ∧ Go.Proofs.YtejnhpjejcpekaaGreatDoor.From w.heap.size p' ∧ Below w.heap.size w w' := by
  refine (From_any s p n nc xs w hA).mono ?_
  rintro e w' ⟨s', q, nq, rfl, hR, rfl, hF, hb⟩
  refine ⟨_, q, nq, _, rfl, hR, by rw [rval_nsg s (u16_spl hA.u), rval_spl], ?_, hF, hb⟩
  have h1 := hR.nrm
  rw [tlen_tr] at h1
  have h2 := tlen_le (spl xs)
  rw [length_spl] at h2
  have := hA.len
  omega
theorem lasts_RE (N : Nat) : Lasts (fun w z e => RE w N z e) := ⟨fun h hg hne => h.grown hg hne, fun h => h.lt⟩
theorem LG.pr {base : Nat} {w : World} {N : Nat} {v : Value} {es : List Ent} {zs : List Int} (h : LG base 34 (fun w z e => RE w N z e) w v es zs) : ∃ q cap, v = .slice q es.length cap ∧ PR w N q es.length cap es zs ∧ Go.Proofs.YtejnhpjejcpekaaGreatDoor.From base q := by
  obtain ⟨q, cap, h1, h2, h3, h4, h5, -⟩ := h.pl
  exact ⟨q, cap, h1, ⟨rfl, h.zl, h2, h3, h4, h.ev⟩, h5⟩
set_option maxRecDepth 100000 in
theorem rpFrom_new {w : World} {K : Nat} {p : Option Addr} {n nc : Nat} {es0 : List Ent} {zs : List Int} (h : PA w K p n nc es0 zs) (hn : n ≤ 100000) (hK : K ≤ 400) :
    Calls Tryz.prog 10 #[.slice p n nc] w (PrF (tr zs) (2 * K) w) := by
  obtain ⟨i0, hi, hzz⟩ := Option.map_eq_some_iff.1 info_ref
  simp only [Prod.mk.injEq] at hzz
  obtain ⟨hz0, hz1, hz2⟩ := hzz
  have HI : Hid (Tryz.prog.info? 34 = some i0 ∧ i0.zero = some (.agg #[.bool false, .slice none 0 0]) ∧ i0.size = 2 ∧ i0.bytes = 32) := ⟨hi, hz0, hz1, hz2⟩
  have HX : Hid (PA w K p n nc es0 zs) := h
  clear h hi hz0 hz1 hz2
  go_enter Tryz.func10, Tryz.ntmps10
  go_wp2_with fail
  go_loopw [3, 4] (fun qv iv wr => ∃ (k : Nat) (es : List Ent), k ≤ n ∧ iv = .int .i64 k ∧ Hid (es.length = k ∧ LG w.heap.size 34 (fun w z e => RE w (2 * K) z e) wr qv es (zs.take k) ∧ Below w.heap.size w wr ∧ ∀ j, j < k → 0 < (ge es j).n → Go.Proofs.YtejnhpjejcpekaaGreatDoor.From w.heap.size (ge es j).p)) (fun _ iv _ => n - (intOf iv).toNat)
  case atStart => exact ⟨0, [], Nat.zero_le _, by go_num, rfl, by rw [List.take_zero]; exact LG.nil _ _ _ _, Below.refl _ _, fun j hj => absurd hj (by omega)⟩
  case round =>
    obtain ⟨k, es, hk, rfl, H⟩ := hrel
    rcases Nat.lt_or_ge k n with hlt | hge
    · obtain ⟨hel, hLR, hB, hfr⟩ := H.out
      have hPA := HX.out.below hB
      obtain ⟨b, o, hp, hc⟩ := hPA.pl (by rw [hPA.el]; omega)
      subst hp
      obtain ⟨c0, c1⟩ := hc k (by rw [hPA.el]; omega)
      obtain ⟨xs, hA, hv, hle⟩ := hPA.ev k hlt
      have hzl := hPA.zl
      clear hel hLR hB hc hPA hfr
      go_wp2_with fail
      refine (From_ansF (ge es0 k).s (ge es0 k).p (ge es0 k).n (ge es0 k).c xs _ hA).mono ?_
      rintro e w1 ⟨s1, p1, n1, d1, rfl, hR1, hv1, hn1, hF1, hb1⟩
      have HE : Hid (RE w1 (2 * K) (gx zs k) ⟨s1, p1, n1, n1⟩) := ⟨⟨d1, hR1, by rw [hv1, hv], by show n1 ≤ _; omega⟩, rfl⟩
      clear c0 c1 hR1 hv1 hA hv
      obtain ⟨hi, hz0, hz1, hz2⟩ := HI.out
      have hown0 := own_below H.out.2.1.own hb1
      rw [H.out.1] at hown0
      have HO : Hid (w1.ownsRow w.heap.size 34 2 u3 k (fl es)) := hown0
      have hsz : w.heap.size ≤ w1.heap.size := Nat.le_trans H.out.2.2.1.size hb1.size
      clear hown0
      go_wp2_with (refine wpList_append_lies _ rfl _ _ 29 rfl w.heap.size 34 i0 (.agg #[.bool false, .slice none 0 0]) 2 32 Tryz.underlying29 hi hz0 hz1 hz2 rfl (by decide) u3 k (fl es) rfl (HO.out.alloc _) ⟨w1.heap.size, 0, none⟩ 1 1 [.bool s1, .slice p1 n1 n1] rfl rfl ?_ (fun x hx => by simp at hx; rcases hx with rfl | rfl <;> rfl) (by decide) (by unfold maxLen; omega) (by omega) (by simp; omega) _ rfl ?_; exact World.news_of_block (heap_alloc_new w1 _); intro g cap w3 hown3 hgrow3 hat3 hlt3; have hB3 : Below w.heap.size w w3 := ((bnext' H.out.2.2.1 hb1).alloc hsz _).grown hgrow3 (by simp; omega) (fun q hq => (HO.out.lt q hq).1); have HA : Hid (LG w.heap.size 34 (fun w z e => RE w (2 * K) z e) w3 (.slice (some ⟨g, 0, none⟩) (k + 1) cap) (es ++ [⟨s1, p1, n1, n1⟩]) (zs.take k ++ [gx zs k])) := lg_app (lasts_RE _) H.out.1 H.out.2.1 hb1 HE.out hF1 hown3 hgrow3 hat3; clear hown3 hgrow3 hat3)
      refine ⟨⟨k + 1, es ++ [⟨s1, p1, n1, n1⟩], by omega, by go_num, by have := H.out.1; simp; omega, by rw [take_snocg zs k (by omega)]; exact HA.out, hB3, fun j hj h0 => ?_⟩, by simp [intOf]; omega⟩
      have hel := H.out.1
      rcases Nat.lt_or_ge j k with h | h
      · rw [ge_append_left _ _ _ (by omega)] at h0 ⊢
        exact H.out.2.2.2 j h h0
      · obtain rfl : j = es.length := by omega
        rw [ge_snoc]
        exact fun a ha => Nat.le_trans H.out.2.2.1.size (hF1 a ha)
    · obtain rfl : k = n := by omega
      obtain ⟨hel, hLR, hB, hfr⟩ := H.out
      have hzl := HX.out.zl
      rw [List.take_of_length_le (by omega)] at hLR
      obtain ⟨q, cap, hv, hPR, hF⟩ := hLR.pr
      subst hv
      rw [hel] at hPR ⊢
      have HB : Hid (Below w.heap.size w wr) := hB
      have HF : Hid (∀ j, j < k → 0 < (ge es j).n → Go.Proofs.YtejnhpjejcpekaaGreatDoor.From w.heap.size (ge es j).p) := hfr
      clear H hLR hB hge hk hfr
      go_wp2_with fail
      refine (rTrim_any (2 * K) q k cap es zs _ hPR (by omega)).mono ?_
      rintro e w1 ⟨rfl, hb1⟩
      have HP : Hid (PR wr (2 * K) q k cap es zs) := hPR
      clear hPR
      go_wp2
      go_ret
      have htl := tlen_le zs
      have hcap := HP.out.cap
      have hT := (HP.out.below hb1).take (tlen zs) (tlen zs) (by omega) (Nat.le_refl _) (by omega)
      refine ⟨q, tlen zs, es.take (tlen zs), rfl, hT, hF, tlen_tr zs, fun j hj h0 => ?_, bnext' HB.out hb1⟩
      rw [ge_take _ _ _ hj] at h0 ⊢
      exact HF.out j (by omega) h0
theorem rpFrom_any {w : World} {K : Nat} {p : Option Addr} {n nc : Nat} {es0 : List Ent} {zs : List Int} (h : PA w K p n nc es0 zs) (hn : n ≤ 100000) (hK : K ≤ 400) :
    Calls Tryz.prog 10 #[.slice p n nc] w (PrP (tr zs) (2 * K) w) := by
  refine (rpFrom_new h hn hK).mono ?_
  rintro e w' ⟨q, m, es, h1, h2, h3, h4, -, h5⟩
  exact ⟨q, m, es, h1, h2, h3, h4, h5⟩
theorem RE.set2 {w : World} {N : Nat} {z : Int} {e : Ent} {g o : Nat} {u v : Value} (h : RE w N z e) (ho : 0 < e.n → Off g e.p) : RE ((w.setCell ⟨g, o, none⟩ u).setCell ⟨g, o + 1, none⟩ v) N z e := by
  obtain ⟨⟨ds, h1, h2⟩, h4⟩ := h
  refine ⟨⟨ds, ⟨h1.len, fun hx => ?_, h1.u, h1.nrm, h1.sg, h1.sml⟩, h2⟩, h4⟩
  have := ho (by rw [h1.len] at hx; exact hx)
  exact ((h1.rd.set_other ⟨g, o, none⟩ u this).set_other ⟨g, o + 1, none⟩ v this) hx
theorem keep4R {w w' : World} {a c i j k l : Nat} {u v x y : Value} (h : w.cell? ⟨a, i, none⟩ = some u ∧ w.cell? ⟨a, j, none⟩ = some v ∧ w.cell? ⟨c, k, none⟩ = some x ∧ w.cell? ⟨c, l, none⟩ = some y) (hb : Below w.heap.size w w') : w'.cell? ⟨a, i, none⟩ = some u ∧ w'.cell? ⟨a, j, none⟩ = some v ∧ w'.cell? ⟨c, k, none⟩ = some x ∧ w'.cell? ⟨c, l, none⟩ = some y :=
  ⟨cell_later hb h.1, cell_later hb h.2.1, cell_later hb h.2.2.1, cell_later hb h.2.2.2⟩
theorem Bx.kept {w w' : World} {r : Nat} {a b : Value} {row : Option Nat} (h : Bx w r a b) (hg : w.grownBy w' row) (hne : some r ≠ row) : Bx w' r a b := by
  have e : w'.heap[r]? = w.heap[r]? := hg.block r (block_lt_of_cell h.c0) hne
  exact ⟨(World.cell?_of_block (a := ⟨r, 0, none⟩) e).trans h.c0, (World.cell?_of_block (a := ⟨r, 1, none⟩) e).trans h.c1, (World.frozen?_of_block (a := ⟨r, 0, none⟩) e).trans h.f0, (World.frozen?_of_block (a := ⟨r, 1, none⟩) e).trans h.f1⟩
def part (xs : List Int) (n k : Nat) : List Int := xs.take k ++ zeros (n - k)
section
variable {w w' : World} {N M K : Nat} {z x y : Int} {s t : Bool} {p q : Option Addr} {n m : Nat}
end
def derz (zs : List Int) : List Int := (List.range (zs.length - 1)).map fun (j : Nat) => ((j : Int) + 1) * gx zs (j + 1)
theorem length_derz (zs : List Int) : (derz zs).length = zs.length - 1 := by simp [derz]
theorem gx_derz (zs : List Int) (j : Nat) (h : j < zs.length - 1) : gx (derz zs) j = ((j : Int) + 1) * gx zs (j + 1) := by
  rw [gx_mem _ _ (by rw [length_derz]; exact h)]
  simp [derz]
theorem length_pz (op : Int → Int → Int) (zs ys : List Int) : (pz op zs ys).length = max zs.length ys.length := by simp [pz]
theorem gx_pz' (op : Int → Int → Int) (zs ys : List Int) (j : Nat) (h : j < max zs.length ys.length) : gx (pz op zs ys) j = op (gx zs j) (gx ys j) := by
  rw [gx_mem _ _ (by rw [length_pz]; exact h)]
  simp [pz]
theorem tlen_same {a b : List Int} (h : ∀ j, gx a j = gx b j) : tlen a = tlen b := by
  refine tlen_eq _ _ (fun j hj => by rw [h]; exact tlen_zero b j hj) ?_
  rcases Nat.eq_zero_or_pos (tlen b) with h0 | h0
  · exact .inl h0
  · exact .inr (by rw [h]; exact tlen_top b h0)
theorem tr_same {a b : List Int} (h : ∀ j, gx a j = gx b j) : tr a = tr b := by
  refine gx_ext _ _ (by rw [length_tr, length_tr, tlen_same h]) fun j hj => ?_
  rw [gx_tr, gx_tr, h]
theorem gx_pz0 (op : Int → Int → Int) (h0 : op 0 0 = 0) (zs ys : List Int) (j : Nat) : gx (pz op zs ys) j = op (gx zs j) (gx ys j) := by
  rcases Nat.lt_or_ge j (max zs.length ys.length) with h | h
  · exact gx_pz' op zs ys j h
  · rw [gx_past _ (max zs.length ys.length) (by rw [length_pz]; exact Nat.le_refl _) j h, gx_past zs zs.length (Nat.le_refl _) j (by omega), gx_past ys ys.length (Nat.le_refl _) j (by omega), h0]
theorem rOf_n (a : Int) (w : World) (h0 : -9223372036854775808 ≤ a) (h1 : a ≤ 9223372036854775807) :
    Calls Tryz.prog 41 #[.int .i64 a] w fun r w' => ∃ u : Ent, r = .returned (.agg #[.bool u.s, .slice u.p u.n u.c]) ∧ RE w' 4 a u ∧ Go.Proofs.YtejnhpjejcpekaaGreatDoor.From w.heap.size u.p ∧ Below w.heap.size w w' := by
  refine (rOf_any a w h0 h1).mono ?_
  rintro e w1 ⟨s1, p1, n1, d1, rfl, hR1, hv1, hn1, hF1, hb1⟩
  exact ⟨⟨s1, p1, n1, n1⟩, rfl, ⟨⟨d1, hR1, hv1, hn1⟩, rfl⟩, hF1, hb1⟩
def mulz (zs ys : List Int) : List Int := (List.range (zs.length + ys.length - 1)).map (ps zs ys zs.length)
theorem length_mulz (zs ys : List Int) : (mulz zs ys).length = zs.length + ys.length - 1 := by simp [mulz]
theorem gx_mulz (zs ys : List Int) (t : Nat) (h : t < zs.length + ys.length - 1) : gx (mulz zs ys) t = ps zs ys zs.length t := by
  rw [gx_mem _ _ (by rw [length_mulz]; exact h)]
  simp [mulz]
theorem ps_far (zs ys : List Int) (t : Nat) : ∀ i, i + ys.length ≤ t + 1 → ps zs ys i t = 0
  | 0, _ => rfl
  | i + 1, h => by
    rw [ps, ps_far zs ys t i (by omega), gx_past ys ys.length (Nat.le_refl _) (t - i) (by omega)]
    simp
theorem mulz_top {zs ys : List Int} (h1 : tlen zs = zs.length) (h2 : tlen ys = ys.length) (hz : 0 < zs.length) (hy : 0 < ys.length) : tlen (mulz zs ys) = zs.length + ys.length - 1 := by
  refine tlen_eq _ _ (fun j hj => gx_past _ _ (by rw [length_mulz]; exact Nat.le_refl _) j hj) (.inr ?_)
  rw [gx_mulz _ _ _ (by omega)]
  obtain ⟨a, ha⟩ : ∃ a, zs.length = a + 1 := ⟨zs.length - 1, by omega⟩
  rw [ha, ps, ps_far _ _ _ _ (by omega), if_pos (by omega)]
  have e1 := tlen_top zs (by omega)
  have e2 := tlen_top ys (by omega)
  rw [h1, ha] at e1
  rw [h2] at e2
  have e3 : a + 1 + ys.length - 1 - 1 - a = ys.length - 1 := by omega
  rw [e3]
  have e4 : a + 1 - 1 = a := by omega
  rw [e4] at e1
  rw [Int.zero_add]
  exact Int.mul_ne_zero e1 e2
theorem PnP.from {zs : List Int} {K : Nat} {w w' : World} {e : Ending} {w'' : World} (h : PnP zs K w' e w'') (hb : Below w.heap.size w w') : PnP zs K w e w'' := by
  obtain ⟨p, n, es, h1, h2, h3⟩ := h
  exact ⟨p, n, es, h1, h2.mono hb.size, bnext' hb h3⟩
def mulp (zs ys : List Int) : List Int := if zs.length = 0 ∨ ys.length = 0 then [] else mulz zs ys
theorem pn_nil (B : Nat) (w : World) (K : Nat) : PN B w K none 0 [] [] := ⟨rfl, rfl, rfl, PL.nil, (fun a h => by cases h), fun j hj => by omega⟩
set_option maxRecDepth 100000 in
theorem product_nil (w : World) (K : Nat) (p q : Option Addr) (n m nc mc : Nat) (hn : n ≤ 1000000) (hm : m ≤ 1000000) (h : n = 0 ∨ m = 0) :
    Calls Tryz.prog 149 #[.slice p n nc, .slice q m mc] w (PnP [] K w) := by
  by_cases h0 : n = 0
  · subst h0
    go_enter Tryz.func149, Tryz.ntmps149
    go_wp2
    go_ret
    exact ⟨none, 0, [], rfl, pn_nil _ _ _, Below.refl _ _⟩
  · have h1 : m = 0 := by omega
    subst h1
    have g1 : ((n : Int) == 0) = false := by rw [beq_eq_false_iff_ne]; omega
    have g3 : ¬ (n : Int) = 0 := by omega
    go_enter Tryz.func149, Tryz.ntmps149
    go_wp2
    go_ret
    exact ⟨none, 0, [], rfl, pn_nil _ _ _, Below.refl _ _⟩
theorem ps_past (zs ys : List Int) (t : Nat) : ∀ m, ps zs ys (zs.length + m) t = ps zs ys zs.length t
  | 0 => rfl
  | m + 1 => by rw [← Nat.add_assoc, ps_none zs ys _ t (gx_past zs _ (Nat.le_refl _) _ (by omega)), ps_past zs ys t m]
theorem ps_late (zs ys : List Int) (t : Nat) : ∀ m, ps zs ys (t + 1 + m) t = ps zs ys (t + 1) t
  | 0 => rfl
  | m + 1 => by
    rw [← Nat.add_assoc, ps, ps_late zs ys t m, if_neg (by omega), Int.add_zero]
theorem ps_nil (zs : List Int) (t : Nat) : ∀ i, ps zs [] i t = 0
  | 0 => rfl
  | i + 1 => by rw [ps, ps_nil zs t i]; simp [gx]
theorem gx_mulp (zs ys : List Int) (t : Nat) : gx (mulp zs ys) t = ps zs ys (t + 1) t := by
  have h0 : ps zs ys (t + 1) t = ps zs ys zs.length t := by
    have h1 := ps_late zs ys t (zs.length)
    have h2 := ps_past zs ys t (t + 1)
    rw [Nat.add_comm] at h2
    rw [← h1, h2]
  rw [h0, mulp]
  by_cases h : zs.length = 0 ∨ ys.length = 0
  · rw [if_pos h]
    rcases h with h | h
    · rw [h]; rfl
    · rw [List.eq_nil_of_length_eq_zero h, ps_nil]; rfl
  · rw [if_neg h]
    rcases Nat.lt_or_ge t (zs.length + ys.length - 1) with h1 | h1
    · rw [gx_mulz _ _ _ h1]
    · rw [gx_past _ (zs.length + ys.length - 1) (by rw [length_mulz]; exact Nat.le_refl _) t h1, ps_far zs ys t zs.length (by omega)]
def sq (f : Nat → Int) : Nat → Int
  | 0 => 0
  | n + 1 => sq f n + f n
theorem ps_sq (zs ys : List Int) (t : Nat) : ∀ n, n ≤ t + 1 → ps zs ys n t = sq (fun i => gx zs i * gx ys (t - i)) n
  | 0, _ => rfl
  | n + 1, h => by
    rw [ps, sq, ps_sq zs ys t n (by omega)]
    first | rw [if_pos (by omega)] | rw [if_neg (by omega)]
theorem gx_derz' (zs : List Int) (j : Nat) : gx (derz zs) j = ((j : Int) + 1) * gx zs (j + 1) := by
  rcases Nat.lt_or_ge j (zs.length - 1) with h | h
  · exact gx_derz zs j h
  · rw [gx_past _ (zs.length - 1) (by rw [length_derz]; exact Nat.le_refl _) j h, gx_past zs zs.length (Nat.le_refl _) (j + 1) (by omega), Int.mul_zero]
def co (a : Int) : List Int → Nat → Int
  | [], _ => 0
  | c :: cs, 0 => c + a * co a cs 0
  | c :: cs, j + 1 => co a cs j + a * co a cs (j + 1)
def hor (a : Int) : List Int → List Int
  | [] => []
  | c :: cs => (c + a * gx (hor a cs) 0) :: hor a cs
theorem length_hor (a : Int) : ∀ zs, (hor a zs).length = zs.length
  | [] => rfl
  | c :: cs => by simp [hor, length_hor a cs]
theorem gx_cons_zero (c : Int) (cs : List Int) : gx (c :: cs) 0 = c := by simp [gx]
theorem gx_cons_succ (c : Int) (cs : List Int) (j : Nat) : gx (c :: cs) (j + 1) = gx cs j := by simp [gx]
theorem gx_hor (a : Int) : ∀ (zs : List Int) (j : Nat), gx (hor a zs) j = gx zs j + a * gx (hor a zs) (j + 1)
  | [], j => by simp [hor, gx]
  | c :: cs, 0 => by rw [hor, gx_cons_zero, gx_cons_zero, gx_cons_succ]
  | c :: cs, j + 1 => by rw [hor, gx_cons_succ, gx_cons_succ, gx_cons_succ]; exact gx_hor a cs j
theorem co_hor (a : Int) : ∀ (cs : List Int) (c : Int), (∀ j, co a (c :: cs) (j + 1) = co a (hor a cs) j) ∧ co a (c :: cs) 0 = c + a * gx (hor a cs) 0
  | [], c => ⟨fun j => by simp [co, hor], by simp [co, hor, gx]⟩
  | d :: ds, c => by
    obtain ⟨h1, h2⟩ := co_hor a ds d
    have h0 : co a (d :: ds) 0 = gx (hor a (d :: ds)) 0 := by rw [h2, hor, gx_cons_zero]
    refine ⟨fun j => ?_, by rw [co, h0]⟩
    have e : co a (c :: d :: ds) (j + 1) = co a (d :: ds) j + a * co a (d :: ds) (j + 1) := rfl
    rw [e, h1, hor]
    cases j with
    | zero => rw [h2]; rfl
    | succ j => rw [h1]; rfl
def shr (a : Int) : Nat → List Int → List Int
  | 0, zs => zs
  | i + 1, zs => (shr a i zs).take i ++ hor a ((shr a i zs).drop i)
theorem length_shr (a : Int) (zs : List Int) : ∀ i, (shr a i zs).length = zs.length
  | 0 => rfl
  | i + 1 => by rw [shr, List.length_append, length_hor, List.length_take, List.length_drop, length_shr a zs i]; omega
theorem gx_app_lo (xs ys : List Int) (j : Nat) (h : j < xs.length) : gx (xs ++ ys) j = gx xs j := by simp [gx, List.getElem?_append_left h]
theorem gx_app_hi (xs ys : List Int) (j : Nat) : gx (xs ++ ys) (xs.length + j) = gx ys j := by
  simp [gx, List.getElem?_append_right]
theorem co_shr (a : Int) (zs : List Int) : ∀ i, i ≤ zs.length → (∀ j, j < i → gx (shr a i zs) j = co a zs j) ∧ (∀ j, co a ((shr a i zs).drop i) j = co a zs (i + j))
  | 0, _ => ⟨fun j hj => by omega, fun j => by rw [shr, List.drop_zero, Nat.zero_add]⟩
  | i + 1, h => by
    obtain ⟨h1, h2⟩ := co_shr a zs i (by omega)
    have hl := length_shr a zs i
    have hlt : ((shr a i zs).take i).length = i := by rw [List.length_take, hl]; omega
    obtain ⟨c, cs, hc⟩ : ∃ c cs, (shr a i zs).drop i = c :: cs := by
      cases hd : (shr a i zs).drop i with
      | nil => have := congrArg List.length hd; rw [List.length_drop, hl, List.length_nil] at this; omega
      | cons c cs => exact ⟨c, cs, rfl⟩
    obtain ⟨g1, g2⟩ := co_hor a cs c
    have hdrop : (shr a (i + 1) zs).drop (i + 1) = hor a cs := by
      rw [shr, hc, hor, List.drop_append, hlt, List.drop_eq_nil_of_le (by rw [hlt]; omega)]
      simp
    refine ⟨fun j hj => ?_, fun j => ?_⟩
    · rw [shr]
      rcases Nat.lt_or_ge j i with h3 | h3
      · rw [gx_app_lo _ _ _ (by omega), gx_take _ _ _ h3]
        exact h1 j h3
      · obtain rfl : j = i := by omega
        have h4 := gx_app_hi ((shr a j zs).take j) (hor a ((shr a j zs).drop j)) 0
        rw [hlt, Nat.add_zero] at h4
        rw [h4, hc, hor, gx_cons_zero, ← g2, ← hc, h2]
        rfl
    · rw [hdrop, ← g1, ← hc, h2]
      congr 1
      omega
theorem gx_shr_all (a : Int) (zs : List Int) (j : Nat) : gx (shr a zs.length zs) j = co a zs j := by
  obtain ⟨h1, h2⟩ := co_shr a zs zs.length (Nat.le_refl _)
  rcases Nat.lt_or_ge j zs.length with h | h
  · exact h1 j h
  · have h3 := h2 (j - zs.length)
    rw [List.drop_eq_nil_of_le (by rw [length_shr]; exact Nat.le_refl _), show zs.length + (j - zs.length) = j by omega] at h3
    rw [gx_past _ zs.length (by rw [length_shr]; exact Nat.le_refl _) j h, ← h3]
    rfl
theorem co_zero : ∀ (zs : List Int) (j : Nat), co 0 zs j = gx zs j
  | [], j => by simp [co, gx]
  | c :: cs, 0 => by rw [co, gx_cons_zero]; omega
  | c :: cs, j + 1 => by rw [co, gx_cons_succ, co_zero cs j]; omega
theorem co_past (a : Int) : ∀ (zs : List Int) (j : Nat), zs.length ≤ j → co a zs j = 0
  | [], _, _ => rfl
  | c :: cs, 0, h => by simp at h
  | c :: cs, j + 1, h => by
    simp only [List.length_cons] at h
    rw [co, co_past a cs j (by omega), co_past a cs (j + 1) (by omega)]
    omega
theorem co_top (a : Int) : ∀ (cs : List Int) (c : Int), co a (c :: cs) cs.length = gx (c :: cs) cs.length
  | [], c => by rw [List.length_nil, co, gx_cons_zero]; simp [co]
  | d :: ds, c => by
    rw [List.length_cons, co, gx_cons_succ, co_top a ds d, co_past a (d :: ds) (ds.length + 1) (by simp)]
    omega
theorem shr_top' (a : Int) (zs : List Int) (h : tlen zs = zs.length) : tlen (shr a zs.length zs) = zs.length := by
  refine tlen_eq _ _ (fun j hj => gx_past _ zs.length (by rw [length_shr]; exact Nat.le_refl _) j hj) ?_
  cases zs with
  | nil => exact .inl rfl
  | cons c cs =>
    refine .inr ?_
    rw [gx_shr_all, List.length_cons, Nat.add_sub_cancel, co_top]
    have h1 := tlen_top (c :: cs) (by rw [h]; simp)
    rw [h, List.length_cons, Nat.add_sub_cancel] at h1
    exact h1
def coz (a : Int) (zs : List Int) : List Int := tr ((List.range zs.length).map (co a zs))
theorem gx_coz (a : Int) (zs : List Int) (t : Nat) : gx (coz a zs) t = co a zs t := by
  rw [coz, gx_tr]
  rcases Nat.lt_or_ge t zs.length with h | h
  · rw [gx_mem _ _ (by simpa using h)]
    simp
  · rw [gx_past _ zs.length (by simp) t h, co_past a zs t h]
theorem coz_nrm (a : Int) (zs : List Int) : tlen (coz a zs) = (coz a zs).length := by rw [coz, tlen_tr, length_tr]
theorem coz_shr (a : Int) (zs : List Int) (h : tlen zs = zs.length) : coz a zs = shr a zs.length zs := by
  have h1 : tr (shr a zs.length zs) = shr a zs.length zs := by rw [tr, shr_top' a zs h]; exact List.take_of_length_le (by rw [length_shr]; exact Nat.le_refl _)
  rw [← h1, coz]
  refine tr_same fun t => ?_
  have h2 := gx_coz a zs t
  rw [coz, gx_tr] at h2
  rw [h2, gx_shr_all]
theorem co_lt {a : Int} {K L : Nat} (ha : (a.natAbs : Int) < pw L) : ∀ (zs : List Int), (∀ t, ((gx zs t).natAbs : Int) < pw K) → ∀ t, ((co a zs t).natAbs : Int) < pw (K + zs.length * (L + 1))
  | [], _, t => by simpa [co] using pw_pos _
  | c :: cs, h, t => by
    have ih := co_lt ha cs (fun j => by have := h (j + 1); rwa [gx_cons_succ] at this)
    have hB : pw K ≤ pw (K + cs.length * (L + 1)) := pw_mono (by omega)
    have e : K + (c :: cs).length * (L + 1) = K + cs.length * (L + 1) + L + 1 := by
      simp only [List.length_cons]
      rw [Nat.succ_mul]
      omega
    rw [e]
    generalize K + cs.length * (L + 1) = B at *
    have h1 : ∀ t, ((a * co a cs t).natAbs : Int) ≤ pw (B + L) := fun t => by
      rw [Int.natAbs_mul, pw_add, Int.mul_comm (pw B)]
      push_cast
      exact Int.mul_le_mul (Int.le_of_lt ha) (Int.le_of_lt (ih t)) (by omega) (Int.le_of_lt (pw_pos _))
    have h3 : pw B ≤ pw (B + L) := pw_mono (by omega)
    have h4 := pw_pos (B + L)
    rw [pw_succ]
    cases t with
    | zero =>
      have h2 := h 0
      rw [gx_cons_zero] at h2
      have h5 := h1 0
      show ((c + a * co a cs 0).natAbs : Int) < _
      omega
    | succ t =>
      have h2 := ih t
      have h5 := h1 (t + 1)
      show ((co a cs t + a * co a cs (t + 1)).natAbs : Int) < _
      omega
end Go.Proofs.YtejnhpjejcpekaaGreatDoor
