/-
  upoly.pseudoQuotient: the walk.
-/
import Derived.Test.YtakfimhpnpapdaaGreatDoorInDfIqDeDgIp
import Derived.Deep.DeepFit
namespace Go.Proofs.YtakfimhpnpapdaaGreatDoor
open Go.RowKit
set_option linter.unusedVariables false
set_option linter.unusedSimpArgs false

/-- The quotient and what is left, as lists. -/
def pqz (L : Int) (b : List Int) (m K0 : Nat) (a : Nat → Int) : List Int := (List.range (K0 + 1)).map (QS L b m K0 a (K0 + 1))
def prz (L : Int) (b : List Int) (m K0 : Nat) (a : Nat → Int) : List Int := (List.range m).map (RS L b m K0 a (K0 + 1))
theorem length_pqz (L : Int) (b : List Int) (m K0 : Nat) (a : Nat → Int) : (pqz L b m K0 a).length = K0 + 1 := by simp [pqz]
theorem length_prz (L : Int) (b : List Int) (m K0 : Nat) (a : Nat → Int) : (prz L b m K0 a).length = m := by simp [prz]
theorem gx_pqz (L : Int) (b : List Int) (m K0 : Nat) (a : Nat → Int) (i : Nat) (h : i ≤ K0) : gx (pqz L b m K0 a) i = QS L b m K0 a (K0 + 1) i := by
  rw [gx_mem _ _ (by rw [length_pqz]; omega)]
  simp [pqz]
theorem gx_prz (L : Int) (b : List Int) (m K0 : Nat) (a : Nat → Int) (i : Nat) (h : i < m) : gx (prz L b m K0 a) i = RS L b m K0 a (K0 + 1) i := by
  rw [gx_mem _ _ (by rw [length_prz]; omega)]
  simp [prz]
/-- The entries of the list from m on, ahead of their powers. -/
def pdz (L : Int) (b : List Int) (m K0 : Nat) (a : Nat → Int) : List Int := (List.range (K0 + 1)).map fun i => prf L b m K0 a (K0 + 1) (i + m)
theorem length_pdz (L : Int) (b : List Int) (m K0 : Nat) (a : Nat → Int) : (pdz L b m K0 a).length = K0 + 1 := by simp [pdz]
theorem gx_pdz (L : Int) (b : List Int) (m K0 : Nat) (a : Nat → Int) (i : Nat) (h : i ≤ K0) : gx (pdz L b m K0 a) i = prf L b m K0 a (K0 + 1) (i + m) := by
  rw [gx_mem _ _ (by rw [length_pdz]; omega)]
  simp [pdz]
theorem ge_drop (es : List Ent) (m j : Nat) : ge (es.drop m) j = ge es (m + j) := by simp [ge]
theorem RW.pl_drop {w : World} {g : Nat} {t : TypeId} {es : List Ent} (h : RW w g t es) (m : Nat) : PL w (some ⟨g, m * 2, none⟩) (es.drop m) := fun _ => ⟨g, m * 2, rfl, fun j hj => by
  have hj' : m + j < es.length := by simp at hj; omega
  have e : m * 2 + j * 2 = (m + j) * 2 := by omega
  rw [ge_drop, e]
  exact h.cell (m + j) hj'⟩
theorem keepq6 {w1 w2 : World} {a b c d e f : Addr} {u v x y z t : Value} (h : w1.cell? a = some u ∧ w1.cell? b = some v ∧ w1.cell? c = some x ∧ w1.cell? d = some y ∧ w1.cell? e = some z ∧ w1.cell? f = some t) (hb : Below w1.heap.size w1 w2) : w2.cell? a = some u ∧ w2.cell? b = some v ∧ w2.cell? c = some x ∧ w2.cell? d = some y ∧ w2.cell? e = some z ∧ w2.cell? f = some t :=
  ⟨cell_later hb h.1, cell_later hb h.2.1, cell_later hb h.2.2.1, cell_later hb h.2.2.2.1, cell_later hb h.2.2.2.2.1, cell_later hb h.2.2.2.2.2⟩
theorem cell_oth2 {w : World} {g o : Nat} {u v : Value} {a : Addr} (h : a.block ≠ g ∨ (a.off ≠ o ∧ a.off ≠ o + 1)) : ((w.setCell ⟨g, o, none⟩ u).setCell ⟨g, o + 1, none⟩ v).cell? a = w.cell? a := by
  rw [World.cell?_setCell_other _ _ _ _ (fun e => by subst e; rcases h with h | h <;> simp at h), World.cell?_setCell_other _ _ _ _ (fun e => by subst e; rcases h with h | h <;> simp at h)]
theorem keep6s {w : World} {r g gc kj km : Nat} {u v s0 s1 s2 s3 s4 s5 : Value} (h : w.cell? ⟨r, 0, none⟩ = some s0 ∧ w.cell? ⟨r, 1, none⟩ = some s1 ∧ w.cell? ⟨g, km * 2, none⟩ = some s2 ∧ w.cell? ⟨g, km * 2 + 1, none⟩ = some s3 ∧ w.cell? ⟨gc, 0, none⟩ = some s4 ∧ w.cell? ⟨gc, 1, none⟩ = some s5) (hr : r ≠ g) (hk : kj ≠ km) (hc : gc ≠ g) :
    ((w.setCell ⟨g, kj * 2, none⟩ u).setCell ⟨g, kj * 2 + 1, none⟩ v).cell? ⟨r, 0, none⟩ = some s0 ∧ ((w.setCell ⟨g, kj * 2, none⟩ u).setCell ⟨g, kj * 2 + 1, none⟩ v).cell? ⟨r, 1, none⟩ = some s1 ∧ ((w.setCell ⟨g, kj * 2, none⟩ u).setCell ⟨g, kj * 2 + 1, none⟩ v).cell? ⟨g, km * 2, none⟩ = some s2 ∧ ((w.setCell ⟨g, kj * 2, none⟩ u).setCell ⟨g, kj * 2 + 1, none⟩ v).cell? ⟨g, km * 2 + 1, none⟩ = some s3 ∧ ((w.setCell ⟨g, kj * 2, none⟩ u).setCell ⟨g, kj * 2 + 1, none⟩ v).cell? ⟨gc, 0, none⟩ = some s4 ∧ ((w.setCell ⟨g, kj * 2, none⟩ u).setCell ⟨g, kj * 2 + 1, none⟩ v).cell? ⟨gc, 1, none⟩ = some s5 := by
  obtain ⟨h0, h1, h2, h3, h4, h5⟩ := h
  refine ⟨(cell_oth2 (.inl hr)).trans h0, (cell_oth2 (.inl hr)).trans h1, (cell_oth2 (.inr ⟨?_, ?_⟩)).trans h2, (cell_oth2 (.inr ⟨?_, ?_⟩)).trans h3, (cell_oth2 (.inl hc)).trans h4, (cell_oth2 (.inl hc)).trans h5⟩ <;> (dsimp only; omega)
/-- What pseudoQuotient answers. -/
def PsP (L : Int) (ys : List Int) (m K0 M : Nat) (a : Nat → Int) (w : World) (r : Ending) (w' : World) : Prop :=
  ∃ (q : Option Addr) (cap : Nat) (es : List Ent) (p : Option Addr) (n : Nat) (fs : List Ent), r = .returned (.tuple #[.slice q (K0 + 1 : Nat) cap, .slice p n n]) ∧ K0 + 1 ≤ cap ∧ cap ≤ maxLen ∧ PN w.heap.size w' M q (K0 + 1) es (pqz L ys m K0 a) ∧ PN w.heap.size w' M p n fs (tr (prz L ys m K0 a)) ∧ Below w.heap.size w w'
set_option maxHeartbeats 4000000 in
set_option maxRecDepth 100000 in
theorem pseudo_q {w : World} {K : Nat} {p q : Option Addr} {n m1 m K0 : Nat} {es fs : List Ent} {zs ys : List Int} (h : PA w K p n n es zs) (k : PA w K q m1 m1 fs ys) (hm1 : m1 = m + 1) (hn : n = K0 + m + 1) (hn9 : n ≤ 20) (hK1 : 1 ≤ K) (hT : K + (K0 + 1) * (K + 1) < 80) (hz0 : gx zs (K0 + m) ≠ 0) (hy0 : gx ys m ≠ 0) :
    Calls Tryz.prog 41 #[.slice p n n, .slice q m1 m1] w (PsP (gx ys m) ys m K0 (K + (K0 + 1) * (K + 1)) (gx zs) w) := by
  have HX : Hid (PA w K p n n es zs ∧ PA w K q m1 m1 fs ys ∧ m1 = m + 1 ∧ n = K0 + m + 1) := ⟨h, k, hm1, hn⟩
  have hpn : 1 ≤ n := by omega
  have hel := k.el
  obtain ⟨b, o, hq, hc⟩ := k.pl (by omega)
  subst hq
  obtain ⟨c0, c1⟩ := hc m (by omega)
  have hle := k.ev m (by omega)
  have HL : Hid (∃ L, gx ys m = L) := ⟨_, rfl⟩
  obtain ⟨L, hL⟩ := HL.out
  have HL2 : Hid (gx ys m = L ∧ gx zs (K0 + m) ≠ 0 ∧ L ≠ 0) := ⟨hL, hz0, by rw [← hL]; exact hy0⟩
  rw [hL] at hle ⊢
  have HB : Hid ((∀ s t, s ≤ K0 + 1 → ((RS L ys m K0 (gx zs) s t).natAbs : Int) < pw (K + (K0 + 1) * (K + 1))) ∧ (∀ s, s ≤ K0 + 1 → ((L ^ s).natAbs : Int) < pw (K + (K0 + 1) * (K + 1))) ∧ (∀ i, i ≤ K0 → ((QS L ys m K0 (gx zs) (K0 + 1) i).natAbs : Int) < pw (K + (K0 + 1) * (K + 1)))) := by
    refine ⟨fun s t hs => ?_, fun s hs => ?_, fun i hi => qs_lt hK1 hle.bd (fun t => k.gbd t) (fun t => h.gbd t) i hi⟩
    · refine Int.lt_of_lt_of_le (rs_lt hle.bd (fun t => k.gbd t) (fun t => h.gbd t) s t) (pw_mono ?_)
      have := Nat.mul_le_mul_right (K + 1) hs
      omega
    · refine Int.lt_of_lt_of_le (pow_lt hle.bd hK1 s) (pw_mono ?_)
      have h8 := Nat.mul_le_mul hs (Nat.le_succ K)
      simp only [Nat.succ_eq_add_one] at h8
      omega
  have HT : Hid (K + (K0 + 1) * (K + 1) < 80 ∧ K ≤ K + (K0 + 1) * (K + 1)) := ⟨hT, by omega⟩
  have i3 : (m1 : Int) - 1 = (m : Int) := by omega
  have v1 : IntKind.i64.wrap (m : Int) = (m : Int) := by rw [IntKind.wrap_i64]; omega
  have i4 : (m : Int) < (m1 : Int) := by omega
  have i2 : (0 : Int) ≤ (m : Int) := by omega
  have i5 : (n : Int) - (m1 : Int) = (K0 : Int) := by omega
  have v2 : IntKind.i64.wrap (K0 : Int) = (K0 : Int) := by rw [IntKind.wrap_i64]; omega
  have hpa := h
  clear h k hc hm1 hn hL HL hT hz0 hy0
  generalize K + (K0 + 1) * (K + 1) = M at *
  go_enter Tryz.func41, Tryz.ntmps41
  go_wp2_with fail
  have hal := bel_al (o := .cells #[.bool (ge fs m).s, .slice (ge fs m).p (ge fs m).n (ge fs m).c] 29) (Below.refl w.heap.size w)
  have hX0 : Bx (w.alloc (.cells #[.bool (ge fs m).s, .slice (ge fs m).p (ge fs m).n (ge fs m).c] 29)) w.heap.size (.bool (ge fs m).s) (.slice (ge fs m).p (ge fs m).n (ge fs m).c) := Bx.new _ _ _ rfl
  have hpa1 := hpa.below hal
  generalize w.alloc (.cells #[.bool (ge fs m).s, .slice (ge fs m).p (ge fs m).n (ge fs m).c] 29) = W0 at *
  refine (clone_poly hpa1 (by omega) hpn).mono ?_
  rintro r w1 ⟨g, cap, rfl, hg1, hcp, hcm, hRW, hb1⟩
  have hlt0 : w.heap.size < W0.heap.size := block_lt_of_cell hX0.c0
  go_wp2_with fail
  refine (Of_e 1 w1 (by decide) (by decide)).mono ?_
  rintro r w2 ⟨f0, rfl, hf0, hb2⟩
  have hal3 := bel_al (o := .cells #[.bool f0.s, .slice f0.p f0.n f0.c] 29) (Below.refl w2.heap.size w2)
  have hP0 : Bx (w2.alloc (.cells #[.bool f0.s, .slice f0.p f0.n f0.c] 29)) w2.heap.size (.bool f0.s) (.slice f0.p f0.n f0.c) := Bx.new _ _ _ rfl
  have HC : Hid (PQ w (w2.alloc (.cells #[.bool f0.s, .slice f0.p f0.n f0.c] 29)) g w2.heap.size M n K 0 es (prf L ys m K0 (gx zs) 0) L (ge fs m) f0 (fun _ => False)) := by
    have hg2 := hRW.lt
    have hs2 := hb2.size
    have hB3 := bnext' (bnext' (bnext' hal hb1) hb2) hal3
    have hBl := bnext' hb2 hal3
    refine ⟨(hRW.below hb2 hRW.lt).below hal3 (by omega), hpa.el, fun t ht => ⟨?_, fun h0 => ⟨(hpa.ev t ht).offm (by omega) h0, (hpa.ev t ht).offm (by omega) h0⟩⟩, fun t ht hf => hf.elim, (((hX0.later hb1).later hb2).later hal3), hle.below hB3, fun h0 => ⟨hle.offm (by omega) h0, hle.offm (by omega) h0⟩, hP0, ?_, fun _ a ha k => by have := hf0.frm a ha; omega, hB3, by omega, by omega⟩
    · rw [prf_start _ _ _ _ _ _ (by have := HX.out.2.2.2; omega)]
      exact ((hpa.ev t ht).below hB3).le HT.out.2
    · rw [Int.pow_zero]
      exact ((hf0.fit (M := M) (by have := HB.out.2.1 0 (Nat.zero_le _); rwa [Int.pow_zero] at this)).ev (by have := HT.out; omega)).below hal3
  have HCP : Hid (n ≤ cap ∧ cap ≤ maxLen) := ⟨hcp, hcm⟩
  clear hRW hb1 hb2 hal hal3 hX0 hP0 hf0 hpa1 c0 c1 hle hpa hlt0 hg1
  go_wp2_with fail
  generalize w2.alloc (.cells #[.bool f0.s, .slice f0.p f0.n f0.c] 29) = W1 at *
  generalize w2.heap.size = gp at *
  go_loopw [10, 11, 12] (fun kv _ _ wr => ∃ (c s : Nat) (us : List Ent) (f : Ent), c + s = K0 + 1 ∧ kv = .int .i64 ((c : Int) - 1) ∧ Hid (PQ w wr g gp M n K s us (prf L ys m K0 (gx zs) s) L (ge fs m) f (fun t => 1 ≤ s ∧ c ≤ t ∧ t < c + m))) (fun kv _ _ _ => (intOf kv + 1).toNat)
  case atStart => exact ⟨K0 + 1, 0, es, f0, rfl, by go_num, HC.out.same (fun _ _ => rfl) (fun t _ ht => by omega)⟩
  case round =>
    clear HC
    obtain ⟨c, s, us, f, hcs0, rfl, H⟩ := hrel
    have hcs : Hid (c = 0 ∨ ∃ j, c = j + 1) := by cases c with | zero => exact .inl rfl | succ j => exact .inr ⟨j, rfl⟩
    rcases hcs.out with rfl | ⟨kk, rfl⟩
    · as_aux_lemma =>
        obtain rfl : s = K0 + 1 := by omega
        clear hcs
        have hmn : (m : Int) ≤ (n : Int) := by have := HX.out.2.2.2; omega
        have hmc : ¬ cap = m := by have := HX.out.2.2.2; have := HCP.out.1; omega
        have hmc1 : ¬ (cap : Int) = (m : Int) := by omega
        have hmc2 : (m : Int) ≤ (cap : Int) := by have := HX.out.2.2.2; have := HCP.out.1; omega
        have hcb : (cap : Int) ≤ 9223372036854775807 := by have := HCP.out.2; unfold maxLen at this; omega
        have hMM : M < 80 := HT.out.1
        have hpd : PA wr M (some ⟨g, m * 2, none⟩) (n - m) (cap - m) (us.drop m) (pdz L ys m K0 (gx zs)) := by
          have hn' := HX.out.2.2.2
          have hl := H.out.len
          have hc := HCP.out
          refine ⟨by rw [List.length_drop, hl], by rw [length_pdz]; omega, by omega, by omega, nofun, H.out.row.pl_drop m, fun i hi => ?_⟩
          rw [ge_drop, gx_pdz _ _ _ _ _ i (by omega), Nat.add_comm i m]
          exact (H.out.ev (m + i) (by omega)).1
        have hcl := clone_poly hpd (by omega) (by have := HX.out.2.2.2; omega)
        have HR : Hid (n - m = K0 + 1) := by show _ = _; have := HX.out.2.2.2; omega
        clear hpd
        go_wp2_with fail
        refine hcl.mono ?_
        rintro r w3 ⟨g2, cap2, rfl, hg2, hcp2, hcm2, hRW2, hb3⟩
        clear hcl
        go_wp2_with fail
        refine (Of_e 1 w3 (by decide) (by decide)).mono ?_
        rintro r w4 ⟨f1, rfl, hf1, hb4⟩
        obtain ⟨z0, z1, g0, g1⟩ := (H.out.pb.later hb3).later hb4
        have HC3 : Hid (Q3 w ((w4.setCell ⟨gp, 0, none⟩ (.bool f1.s)).setCell ⟨gp, 1, none⟩ (.slice f1.p f1.n f1.c)) g gp g2 M m (n - m) K 0 0 us (us.drop m) (RS L ys m K0 (gx zs) (K0 + 1)) (qkf L ys m K0 (gx zs) 0) L (ge fs m) f1) := by
          have hn' := HX.out.2.2.2
          have hl := H.out.len
          have hB4 := bnext' hb3 hb4
          have hgp : gp < wr.heap.size := block_lt_of_cell H.out.pb.c0
          have hs3 := hb3.size
          have hlt := H.out.lt
          have h0 : Q3 w w4 g gp g2 M m (n - m) K 0 (K0 + 1) us (us.drop m) (RS L ys m K0 (gx zs) (K0 + 1)) (qkf L ys m K0 (gx zs) 0) L (ge fs m) f := by
            refine ⟨H.out.row.below hB4 H.out.row.lt, by omega, fun t ht => ⟨?_, fun h0 => ⟨(H.out.ev t (by omega)).1.offm hg2 h0, ((H.out.ev t (by omega)).2 h0).2⟩⟩, hRW2.below hb4 hRW2.lt, by rw [List.length_drop, hl], fun i hi => ⟨?_, ?_⟩, fun i hi => by omega, H.out.lb.later hB4, H.out.le.below hB4, fun h0 => ⟨H.out.le.offm hg2 h0, (H.out.lo h0).2⟩, H.out.pb.later hB4, H.out.pe.below hB4, fun h0 => H.out.pe.offm hg2 h0, bnext' H.out.bw hB4, by omega, by omega, by omega⟩
            · rw [← prf_rest L ys m K0 (gx zs) t ht]
              exact (H.out.nv t (by omega) ⟨by omega, by omega, by omega⟩).below hB4
            · rw [qkf_zero, ge_drop, Nat.add_comm i m]
              exact (H.out.ev (m + i) (by omega)).1.below hB4
            · rw [ge_drop]
              exact fun h0 => ⟨(H.out.ev (m + i) (by omega)).1.offm hg2 h0, ((H.out.ev (m + i) (by omega)).2 h0).2⟩
          refine h0.power ?_ (fun _ => ⟨fun a ha k => by have := hf1.frm a ha; have := hRW2.lt; omega, fun a ha k => by have := hf1.frm a ha; omega⟩)
          rw [Int.pow_zero]
          exact (hf1.fit (M := M) (by have := HB.out.2.1 0 (Nat.zero_le _); rwa [Int.pow_zero] at this)).ev (by omega)
        have HCP2 : Hid (n - m ≤ cap2 ∧ cap2 ≤ maxLen) := ⟨hcp2, hcm2⟩
        clear hRW2 hb3 hf1 hb4 H hg2 hcp2 hcm2
        go_wp2_with fail
        clear z0 z1 g0 g1
        generalize (w4.setCell ⟨gp, 0, none⟩ (.bool f1.s)).setCell ⟨gp, 1, none⟩ (.slice f1.p f1.n f1.c) = W3 at *
        generalize n - m = R at *
        have hR20 : R ≤ 21 := by have := HR.out; omega
        go_loopw [14, 85] (fun _ kv wr => ∃ (k : Nat) (vs : List Ent) (f : Ent), k ≤ R ∧ kv = .int .i64 k ∧ Hid (Q3 w wr g gp g2 M m R K k k us vs (RS L ys m K0 (gx zs) (K0 + 1)) (qkf L ys m K0 (gx zs) k) L (ge fs m) f)) (fun _ kv _ => R - (intOf kv).toNat)
        case atStart => exact ⟨0, _, f1, Nat.zero_le _, by go_num, HC3.out⟩
        case round =>
          clear HC3
          obtain ⟨k, vs, f2, hk, rfl, HK⟩ := hrel
          rcases Nat.lt_or_ge k R with hlt | hge
          · have k1 : (k : Int) < (R : Int) := by omega
            have k2 : (0 : Int) ≤ (k : Int) := by omega
            have HKR : Hid (k ≤ K0) := by show _ ≤ _; have := HR.out; omega
            obtain ⟨x0, x1⟩ := HK.out.row2.cell k (by rw [HK.out.len2]; exact hlt)
            obtain ⟨q0, q1, -, -⟩ := id HK.out.pb
            have he := (HK.out.ev2 k hlt).1
            have hpe := HK.out.pe
            go_upto_region 20 with fail
            go_cut [] (fun wc => ∃ vs1 : List Ent, Hid (Q3 w wc g gp g2 M m R K (k + 1) k us vs1 (RS L ys m K0 (gx zs) (K0 + 1)) (qkf L ys m K0 (gx zs) (k + 1)) L (ge fs m) f2))
            case first =>
              go_region_with (go_at_call 63; go_fit (Mul_ev (he.below (Below.refl _ _).drew) (hpe.below (Below.refl _ _).drew) hMM); rintro r v1 ⟨u, rfl, hN1, hb1⟩; have hB1 := undrew hb1; have hR1 := HK.out.row2.below hB1 HK.out.row2.lt; obtain ⟨z0, z1⟩ := hR1.cell k (by rw [HK.out.len2]; exact hlt); have g0 := hR1.frozen (k * 2); have g1 := hR1.frozen (k * 2 + 1))
              all_goals
                have hst : Q3 w ((v1.setCell ⟨g2, k * 2, none⟩ (.bool u.s)).setCell ⟨g2, k * 2 + 1, none⟩ (.slice u.p u.n u.c)) g gp g2 M m R K (k + 1) k us (vs.set k u) (RS L ys m K0 (gx zs) (K0 + 1)) (qkf L ys m K0 (gx zs) (k + 1)) L (ge fs m) f2 := by
                  have hN2 : NV wr.heap.size v1 (M + M) (qkf L ys m K0 (gx zs) k k * L ^ k) u := hN1
                  rw [← qkf_same L ys m K0 (gx zs) k HKR.out] at hN2
                  have hN3 := hN2.fit (M := M) (by rw [qkf, if_pos (by omega)]; exact HB.out.2.2 k HKR.out)
                  have hgl := HK.out.row2.lt
                  have hgp : gp < wr.heap.size := block_lt_of_cell q0
                  have hsz := HK.out.bw.size
                  exact (HK.out.below hB1).set u hlt (hN3.mono hsz) (by omega) (fun _ => ⟨fun a ha k => by have := hN2.frm a ha; omega, fun a ha k => by have := hN2.frm a ha; omega⟩) (fun r hr => qkf_other L ys m K0 (gx zs) k r hr)
                have HST := (show Hid _ from hst)
                clear hst hN1 z0 z1 g0 g1 x0 x1 q0 q1
                go_wp2_with fail
                go_meet
                exact ⟨_, HST.out⟩
            case rest =>
              obtain ⟨vs1, HF⟩ := hcut
              clear x0 x1 q0 q1 he hpe HK
              obtain ⟨q0, q1, -, -⟩ := id HF.out.pb
              obtain ⟨l0, l1, -, -⟩ := id HF.out.lb
              have hmul := Mul_ev HF.out.pe HF.out.le hMM
              go_wp2_with fail
              refine hmul.mono ?_
              rintro r v1 ⟨u, rfl, hN1, hB1⟩
              clear hmul
              obtain ⟨z0, z1, g0, g1⟩ := HF.out.pb.later hB1
              have hst : Q3 w ((v1.setCell ⟨gp, 0, none⟩ (.bool u.s)).setCell ⟨gp, 1, none⟩ (.slice u.p u.n u.c)) g gp g2 M m R K (k + 1) (k + 1) us vs1 (RS L ys m K0 (gx zs) (K0 + 1)) (qkf L ys m K0 (gx zs) (k + 1)) L (ge fs m) u := by
                have hN2 : NV wc.heap.size v1 (M + K) (L ^ k * L) u := hN1
                rw [← Int.pow_succ] at hN2
                have hN3 := (hN2.fit (M := M) (HB.out.2.1 (k + 1) (by have := HKR.out; omega))).ev (by omega)
                have hgl := HF.out.row2.lt
                have hgp : gp < wc.heap.size := block_lt_of_cell q0
                exact (HF.out.below hB1).power hN3 (fun _ => ⟨fun a ha k => by have := hN2.frm a ha; omega, fun a ha k => by have := hN2.frm a ha; omega⟩)
              have HST := (show Hid _ from hst)
              clear hst hN1 q0 q1 l0 l1
              go_wp2
              refine ⟨⟨k + 1, vs1, u, by omega, by go_num, HST.out⟩, by simp [intOf]; omega⟩
          · obtain rfl : k = R := by omega
            clear hge hk
            have hpt : PA wr M (some ⟨g, 0, none⟩) m cap (us.take m) (prz L ys m K0 (gx zs)) := by
              have hl := HK.out.len
              have hc := HCP.out
              refine ⟨by rw [List.length_take]; omega, length_prz _ _ _ _ _, by omega, by omega, nofun, HK.out.row.pl.take m, fun t ht => ?_⟩
              rw [ge_take _ _ _ ht, gx_prz _ _ _ _ _ t ht]
              exact (HK.out.nv t ht).1.ev (by omega)
            have htr := utrim_any M _ m cap _ _ wr hpt (by omega)
            clear hpt
            go_wp2_with fail
            refine htr.mono ?_
            rintro r w5 ⟨rfl, hb5⟩
            clear htr
            go_wp2
            have hk := HR.out
            subst hk
            refine bodyPost_ret (v := .tuple #[.slice (some ⟨g2, 0, none⟩) (K0 + 1 : Nat) cap2, .slice (some ⟨g, 0, none⟩) (tlen (prz L ys m K0 (gx zs))) (tlen (prz L ys m K0 (gx zs)))]) (by simp [results, Tryz.results41, go_sem]) rfl ?_
            have hQ := HK.out.below hb5
            have htl := tlen_le (prz L ys m K0 (gx zs))
            rw [length_prz] at htl
            have hlt := hQ.lt
            refine ⟨_, cap2, vs, _, _, (us.take m).take (tlen (prz L ys m K0 (gx zs))), rfl, HCP2.out.1, HCP2.out.2, ⟨hQ.len2, length_pqz _ _ _ _ _, ?_, hQ.row2.pl, fun a ha => by cases ha; show w.heap.size ≤ g2; omega, fun i hi => ?_⟩, ⟨?_, length_tr _, tlen_tr _, (hQ.row.pl.take m).take _, fun a ha => by cases ha; show w.heap.size ≤ g; omega, fun t ht => ?_⟩, hQ.bw⟩
            · refine tlen_eq _ _ (fun j hj => gx_past _ (K0 + 1) (by rw [length_pqz]; exact Nat.le_refl _) j hj) (.inr ?_)
              rw [Nat.add_sub_cancel, gx_pqz _ _ _ _ _ K0 (Nat.le_refl _), qs_at K0 (Nat.le_refl _) (K0 + 1) (Nat.le_refl _), if_pos (by omega), Nat.sub_self]
              exact Int.mul_ne_zero HL2.out.2.1 (Int.pow_ne_zero HL2.out.2.2)
            · rw [gx_pqz _ _ _ _ _ i (by omega)]
              have h8 := hQ.nv2 i hi hi
              rw [qkf, if_pos hi] at h8
              exact h8
            · have hl := hQ.len
              rw [List.length_take, List.length_take]
              omega
            · rw [gx_tr, gx_prz _ _ _ _ _ t (by omega), ge_take _ _ _ ht, ge_take _ _ _ (by omega)]
              exact (hQ.nv t (by omega)).1

    · have i6 : ((kk + 1 : Nat) : Int) - 1 = (kk : Int) := by omega
      rw [i6]
      have HKK : Hid (kk = K0 - s ∧ s ≤ K0) := ⟨by omega, by omega⟩
      have i7 : (0 : Int) ≤ (kk : Int) := by omega
      have i8 : (kk : Int) < (n : Int) := by have := HX.out.2.2.2; omega
      have hkn : kk < n := by omega
      have hMM : M < 80 := HT.out.1
      obtain ⟨x0, x1⟩ := H.out.row.cell kk (by rw [H.out.len]; exact hkn)
      obtain ⟨q0, q1, -, -⟩ := id H.out.pb
      have he := (H.out.ev kk hkn).1
      have hpe := H.out.pe
      clear hcs
      go_upto_region 8 with fail
      go_cut [] (fun wc => ∃ us1 : List Ent, Hid (PQ w wc g gp M n K s us1 (psf L ys m K0 (gx zs) s) L (ge fs m) f (fun _ => False)))
      case first =>
        go_region_with (go_at_call 63; go_fit (Mul_ev (he.below (Below.refl _ _).drew) (hpe.below (Below.refl _ _).drew) hMM); rintro r v1 ⟨u, rfl, hN1, hb1⟩; have hB1 := undrew hb1; have hR1 := H.out.row.below hB1 H.out.row.lt; obtain ⟨z0, z1⟩ := hR1.cell kk (by rw [H.out.len]; exact hkn); have g0 := hR1.frozen (kk * 2); have g1 := hR1.frozen (kk * 2 + 1))
        all_goals
          have hst : PQ w ((v1.setCell ⟨g, kk * 2, none⟩ (.bool u.s)).setCell ⟨g, kk * 2 + 1, none⟩ (.slice u.p u.n u.c)) g gp M n K s (us.set kk u) (psf L ys m K0 (gx zs) s) L (ge fs m) f (fun _ => False) := by
            have hkk := HKK.out.1
            have hN2 : NV wr.heap.size v1 (M + M) (prf L ys m K0 (gx zs) s kk * L ^ s) u := hN1
            rw [hkk, ← psf_same L ys m K0 (gx zs) s HKK.out.2, ← hkk] at hN2
            have hN3 := (hN2.fit (M := M) (by rw [psf, if_pos hkk]; exact HB.out.1 s kk (by omega))).ev (by omega)
            have hgl := H.out.row.lt
            have hgp : gp < wr.heap.size := block_lt_of_cell q0
            exact (H.out.below hB1).set kk u hkn hN3 (fun hf => hf.elim) (fun _ => ⟨fun a ha k => by have := hN2.frm a ha; omega, fun a ha k => by have := hN2.frm a ha; omega⟩) (fun r _ hr => psf_other L ys m K0 (gx zs) s r (by omega)) (fun _ _ _ hf => hf.elim)
          have HST := (show Hid _ from hst)
          clear hst hN1 z0 z1 g0 g1 x0 x1 q0 q1
          go_wp2_with fail
          go_meet
          exact ⟨_, HST.out⟩
      case rest =>
        obtain ⟨us1, HF⟩ := hcut
        clear x0 x1 q0 q1 he hpe H
        have HF0 : Hid (PQ w wc g gp M n K s us1 (pjf L ys m K0 (gx zs) s 0) L (ge fs m) f (fun t => kk ≤ t ∧ t < kk + 0)) := HF.out.same (fun t _ => pjf_zero L ys m K0 (gx zs) s t) (fun t _ ht => by omega)
        clear HF
        go_wp2_with fail
        go_loopw [11, 12, 47] (fun _ _ jv wi => ∃ (j : Nat) (us2 : List Ent), j ≤ m ∧ jv = .int .i64 j ∧ Hid (PQ w wi g gp M n K s us2 (pjf L ys m K0 (gx zs) s j) L (ge fs m) f (fun t => kk ≤ t ∧ t < kk + j))) (fun _ _ jv _ => m - (intOf jv).toNat)
        case atStart => exact ⟨0, us1, Nat.zero_le _, by go_num, HF0.out⟩
        case round =>
          clear HF0
          obtain ⟨j, us2, hj, rfl, HJ⟩ := hrel
          rcases Nat.lt_or_ge j m with hlt | hge
          · have hQ := HX.out.2.1.below HJ.out.bw
            obtain ⟨b', o', hq', hd⟩ := hQ.pl (by rw [hQ.el]; have := HX.out.2.2.1; omega)
            cases hq'
            obtain ⟨d0, d1⟩ := hd j (by rw [hQ.el]; have := HX.out.2.2.1; omega)
            have hce := hQ.ev j (by have := HX.out.2.2.1; omega)
            have j1 : (j : Int) < (m : Int) := by omega
            have j2 : (0 : Int) ≤ (j : Int) := by omega
            obtain ⟨kj, hkj⟩ : ∃ kj : Nat, (kk : Int) + (j : Int) = (kj : Int) := ⟨kk + j, by omega⟩
            obtain ⟨km, hkm⟩ : ∃ km : Nat, (kk : Int) + (m : Int) = (km : Int) := ⟨kk + m, by omega⟩
            have HJM : Hid (kj = K0 - s + j ∧ km = K0 - s + m ∧ kj = kk + j) := ⟨by have := HKK.out.1; omega, by have := HKK.out.1; omega, by omega⟩
            have v3 : IntKind.i64.wrap (kj : Int) = (kj : Int) := by rw [IntKind.wrap_i64]; omega
            have v4 : IntKind.i64.wrap (km : Int) = (km : Int) := by rw [IntKind.wrap_i64]; have := HX.out.2.2.2; omega
            have j3 : (kj : Int) < (n : Int) := by have := HX.out.2.2.2; omega
            have j4 : (km : Int) < (n : Int) := by have := HX.out.2.2.2; omega
            have j5 : (0 : Int) ≤ (kj : Int) := by omega
            have j6 : (0 : Int) ≤ (km : Int) := by omega
            have hkjn : kj < n := by omega
            have hkmn : km < n := by omega
            have hkjm : kj ≠ km := by omega
            clear hd hQ
            go_upto_region 12 with fail
            have hal := bel_al (o := .cells #[.bool (ge fs j).s, .slice (ge fs j).p (ge fs j).n (ge fs j).c] 29) (Below.refl wr.heap.size wr)
            have hCB : Bx (wr.alloc (.cells #[.bool (ge fs j).s, .slice (ge fs j).p (ge fs j).n (ge fs j).c] 29)) wr.heap.size (.bool (ge fs j).s) (.slice (ge fs j).p (ge fs j).n (ge fs j).c) := Bx.new _ _ _ rfl
            have HE : Hid (PQ w (wr.alloc (.cells #[.bool (ge fs j).s, .slice (ge fs j).p (ge fs j).n (ge fs j).c] 29)) g gp M n K s us2 (pjf L ys m K0 (gx zs) s j) L (ge fs m) f (fun t => kk ≤ t ∧ t < kk + j)) := HJ.out.below hal
            have hce2 := hce.below hal
            have hgc0 : gp < wr.heap.size := block_lt_of_cell HJ.out.pb.c0
            clear HJ hal hce d0 d1
            generalize wr.alloc (.cells #[.bool (ge fs j).s, .slice (ge fs j).p (ge fs j).n (ge fs j).c] 29) = W2 at *
            generalize wr.heap.size = gc at *
            obtain ⟨x0, x1⟩ := HE.out.row.cell kj (by rw [HE.out.len]; exact hkjn)
            obtain ⟨y0, y1⟩ := HE.out.row.cell km (by rw [HE.out.len]; exact hkmn)
            obtain ⟨l0, l1, -, -⟩ := id HE.out.lb
            obtain ⟨e0, e1, -, -⟩ := id hCB
            have hgp : gp < W2.heap.size := block_lt_of_cell HE.out.pb.c0
            have hKK : K < 80 := by have := HT.out; omega
            refine wp_region_held_drew (S := fun w' => w'.cell? ⟨w.heap.size, 0, none⟩ = some (.bool (ge fs m).s) ∧ w'.cell? ⟨w.heap.size, 1, none⟩ = some (.slice (ge fs m).p (ge fs m).n (ge fs m).c) ∧ w'.cell? ⟨g, km * 2, none⟩ = some (.bool (ge us2 km).s) ∧ w'.cell? ⟨g, km * 2 + 1, none⟩ = some (.slice (ge us2 km).p (ge us2 km).n (ge us2 km).c) ∧ w'.cell? ⟨gc, 0, none⟩ = some (.bool (ge fs j).s) ∧ w'.cell? ⟨gc, 1, none⟩ = some (.slice (ge fs j).p (ge fs j).n (ge fs j).c)) (by kernel_rfl) ⟨l0, l1, y0, y1, e0, e1⟩ (fun hHeld => ?_)
            refine wpAnyH_take (i := 0) (v := .slice (some ⟨g, 0, none⟩) n cap) rfl (by kernel_rfl) (by kernel_rfl) (by kernel_rfl) (fun _ _ _ h => h) (Or.inl ⟨by rfl, fun w hSw => ?_⟩) (by assumption) ?_
            · dsimp only at hSw
              go_simp
            try simp only [Act.put, List.setIfInBounds_toArray, List.set_cons_zero, List.set_cons_succ]
            refine wpAnyH_take (i := 1) (v := .int .i64 kk) rfl (by kernel_rfl) (by kernel_rfl) (by kernel_rfl) (fun _ _ _ h => h) (Or.inl ⟨by rfl, fun w hSw => ?_⟩) (by assumption) ?_
            · dsimp only at hSw
              go_simp
            try simp only [Act.put, List.setIfInBounds_toArray, List.set_cons_zero, List.set_cons_succ]
            refine wpAnyH_take (i := 2) (v := .int .i64 j) rfl (by kernel_rfl) (by kernel_rfl) (by kernel_rfl) (fun _ _ _ h => h) (Or.inl ⟨by rfl, fun w hSw => ?_⟩) (by assumption) ?_
            · dsimp only at hSw
              go_simp
            try simp only [Act.put, List.setIfInBounds_toArray, List.set_cons_zero, List.set_cons_succ]
            refine wpAnyH_take (i := 3) (v := .int .i64 kj) rfl (by kernel_rfl) (by kernel_rfl) (by kernel_rfl) (fun _ _ _ h => h) (Or.inl ⟨by rfl, fun w hSw => ?_⟩) (by assumption) ?_
            · dsimp only at hSw
              go_simp
            try simp only [Act.put, List.setIfInBounds_toArray, List.set_cons_zero, List.set_cons_succ]
            refine wpAnyH_take (i := 4) (v := .agg #[.bool (ge fs m).s, .slice (ge fs m).p (ge fs m).n (ge fs m).c]) rfl (by kernel_rfl) (by kernel_rfl) (by kernel_rfl) (fun _ _ _ h => h) (Or.inl ⟨by rfl, fun w hSw => ?_⟩) (by assumption) ?_
            · dsimp only at hSw
              go_simp
            try simp only [Act.put, List.setIfInBounds_toArray, List.set_cons_zero, List.set_cons_succ]
            refine wpAnyH_take (i := 5) (v := .slice (some ⟨g, 0, none⟩) n cap) rfl (by kernel_rfl) (by kernel_rfl) (by kernel_rfl) (fun _ _ _ h => h) (Or.inl ⟨by rfl, fun w hSw => ?_⟩) (by assumption) ?_
            · dsimp only at hSw
              go_simp
            try simp only [Act.put, List.setIfInBounds_toArray, List.set_cons_zero, List.set_cons_succ]
            refine wpAnyH_take (i := 6) (v := .int .i64 kk) rfl (by kernel_rfl) (by kernel_rfl) (by kernel_rfl) (fun _ _ _ h => h) (Or.inl ⟨by rfl, fun w hSw => ?_⟩) (by assumption) ?_
            · dsimp only at hSw
              go_simp
            try simp only [Act.put, List.setIfInBounds_toArray, List.set_cons_zero, List.set_cons_succ]
            refine wpAnyH_take (i := 7) (v := .int .i64 j) rfl (by kernel_rfl) (by kernel_rfl) (by kernel_rfl) (fun _ _ _ h => h) (Or.inl ⟨by rfl, fun w hSw => ?_⟩) (by assumption) ?_
            · dsimp only at hSw
              go_simp
            try simp only [Act.put, List.setIfInBounds_toArray, List.set_cons_zero, List.set_cons_succ]
            refine wpAnyH_take (i := 8) (v := .int .i64 kj) rfl (by kernel_rfl) (by kernel_rfl) (by kernel_rfl) (fun _ _ _ h => h) (Or.inl ⟨by rfl, fun w hSw => ?_⟩) (by assumption) ?_
            · dsimp only at hSw
              go_simp
            try simp only [Act.put, List.setIfInBounds_toArray, List.set_cons_zero, List.set_cons_succ]
            refine wpAnyH_take (i := 9) (v := .pointer (some ⟨g, kj * 2, none⟩)) rfl (by kernel_rfl) (by kernel_rfl) (by kernel_rfl) (fun _ _ _ h => h) (Or.inl ⟨by rfl, fun w hSw => ?_⟩) (by assumption) ?_
            · dsimp only at hSw
              go_simp
            try simp only [Act.put, List.setIfInBounds_toArray, List.set_cons_zero, List.set_cons_succ]
            refine wpAnyH_take (i := 12) (v := .slice (some ⟨g, 0, none⟩) n cap) rfl (by kernel_rfl) (by kernel_rfl) (by kernel_rfl) (fun _ _ _ h => h) (Or.inl ⟨by rfl, fun w hSw => ?_⟩) (by assumption) ?_
            · dsimp only at hSw
              go_simp
            try simp only [Act.put, List.setIfInBounds_toArray, List.set_cons_zero, List.set_cons_succ]
            refine wpAnyH_take (i := 13) (v := .int .i64 kk) rfl (by kernel_rfl) (by kernel_rfl) (by kernel_rfl) (fun _ _ _ h => h) (Or.inl ⟨by rfl, fun w hSw => ?_⟩) (by assumption) ?_
            · dsimp only at hSw
              go_simp
            try simp only [Act.put, List.setIfInBounds_toArray, List.set_cons_zero, List.set_cons_succ]
            refine wpAnyH_take (i := 14) (v := .int .i64 m) rfl (by kernel_rfl) (by kernel_rfl) (by kernel_rfl) (fun _ _ _ h => h) (Or.inl ⟨by rfl, fun w hSw => ?_⟩) (by assumption) ?_
            · dsimp only at hSw
              go_simp
            try simp only [Act.put, List.setIfInBounds_toArray, List.set_cons_zero, List.set_cons_succ]
            refine wpAnyH_take (i := 15) (v := .int .i64 km) rfl (by kernel_rfl) (by kernel_rfl) (by kernel_rfl) (fun _ _ _ h => h) (Or.inl ⟨by rfl, fun w hSw => ?_⟩) (by assumption) ?_
            · dsimp only at hSw
              go_simp
            try simp only [Act.put, List.setIfInBounds_toArray, List.set_cons_zero, List.set_cons_succ]
            refine wpAnyH_take (i := 16) (v := .pointer (some ⟨g, km * 2, none⟩)) rfl (by kernel_rfl) (by kernel_rfl) (by kernel_rfl) (fun _ _ _ h => h) (Or.inl ⟨by rfl, fun w hSw => ?_⟩) (by assumption) ?_
            · dsimp only at hSw
              go_simp
            try simp only [Act.put, List.setIfInBounds_toArray, List.set_cons_zero, List.set_cons_succ]
            refine wpAnyH_take (i := 17) (v := .agg #[.bool (ge us2 km).s, .slice (ge us2 km).p (ge us2 km).n (ge us2 km).c]) rfl (by kernel_rfl) (by kernel_rfl) (by kernel_rfl) (fun _ _ _ h => h) (Or.inl ⟨by rfl, fun w hSw => ?_⟩) (by assumption) ?_
            · dsimp only at hSw
              go_simp
            try simp only [Act.put, List.setIfInBounds_toArray, List.set_cons_zero, List.set_cons_succ]
            refine wpAnyH_take (i := 18) (v := .agg #[.bool (ge fs j).s, .slice (ge fs j).p (ge fs j).n (ge fs j).c]) rfl (by kernel_rfl) (by kernel_rfl) (by kernel_rfl) (fun _ _ _ h => h) (Or.inl ⟨by rfl, fun w hSw => ?_⟩) (by assumption) ?_
            · dsimp only at hSw
              go_simp
            try simp only [Act.put, List.setIfInBounds_toArray, List.set_cons_zero, List.set_cons_succ]
            refine wpAnyH_ready (rs := [10]) (by kernel_rfl) (by simp) ?_
            refine AllReadyH.cons rfl (fun K hK => ?_) AllReadyH.nil
            go_simp
            refine hK.out _ _ hHeld (fun hHeld => ?_)
            clear hK K
            try simp only [Act.put, List.setIfInBounds_toArray, List.set_cons_zero, List.set_cons_succ]
            refine wpAnyH_ready (rs := [11]) (by kernel_rfl) (by simp) ?_
            refine AllReadyH.cons rfl (fun K hK => ?_) AllReadyH.nil
            go_simp
            go_fit (Mul_ev (HE.out.le.below (Below.refl _ _).drew) ((HE.out.ev kj hkjn).1.below (Below.refl _ _).drew) hKK)
            rintro r v1 ⟨u1, rfl, hN1', hb1⟩
            have hN1 := unNV hN1'
            have hB1 := undrew hb1
            go_wp2_with fail
            refine hK.out _ _ (keepq6 ⟨l0, l1, y0, y1, e0, e1⟩ hB1) (fun hHeld => ?_)
            clear hK K
            try simp only [Act.put, List.setIfInBounds_toArray, List.set_cons_zero, List.set_cons_succ]
            refine wpAnyH_ready (rs := [19]) (by kernel_rfl) (by simp) ?_
            refine AllReadyH.cons rfl (fun K hK => ?_) AllReadyH.nil
            go_simp
            go_fit (Mul_ev ((HE.out.ev km hkmn).1.below hB1) (hce2.below hB1) hMM)
            rintro r v2 ⟨u2, rfl, hN2, hb2⟩
            have hB2 := bnext' hB1 hb2
            go_wp2_with fail
            refine hK.out _ _ (keepq6 ⟨l0, l1, y0, y1, e0, e1⟩ hB2) (fun hHeld => ?_)
            clear hK K
            try simp only [Act.put, List.setIfInBounds_toArray, List.set_cons_zero, List.set_cons_succ]
            refine wpAnyH_ready (rs := [20]) (by kernel_rfl) (by simp) ?_
            refine AllReadyH.cons rfl (fun K hK => ?_) AllReadyH.nil
            go_simp
            go_fit (Sub_ev ((hN1.below hb2).ev (by omega)) (hN2.ev (by omega)))
            rintro r v3' ⟨u, rfl, hN3, hb3⟩
            have hB3 := bnext' hB2 hb3
            have hR3 := HE.out.row.below hB3 HE.out.row.lt
            obtain ⟨t0, t1⟩ := hR3.cell kj (by rw [HE.out.len]; exact hkjn)
            have g0 := hR3.frozen (kj * 2)
            have g1 := hR3.frozen (kj * 2 + 1)
            go_wp2_with fail
            refine hK.out _ _ (keepq6 ⟨l0, l1, y0, y1, e0, e1⟩ hB3) (fun hHeld => ?_)
            clear hK K
            try simp only [Act.put, List.setIfInBounds_toArray, List.set_cons_zero, List.set_cons_succ]
            refine wpAnyH_take (i := 21) (v := .pointer (some ⟨g, kj * 2, none⟩)) rfl (by kernel_rfl) (by kernel_rfl) (by kernel_rfl) (fun _ _ _ h => h) (Or.inl ⟨by rfl, fun w hSw => ?_⟩) (by assumption) ?_
            · dsimp only at hSw
              go_simp
            try simp only [Act.put, List.setIfInBounds_toArray, List.set_cons_zero, List.set_cons_succ]
            have hst : PQ w ((v3'.setCell ⟨g, kj * 2, none⟩ (.bool u.s)).setCell ⟨g, kj * 2 + 1, none⟩ (.slice u.p u.n u.c)) g gp M n K s (us2.set kj u) (pjf L ys m K0 (gx zs) s (j + 1)) L (ge fs m) f (fun t => kk ≤ t ∧ t < kk + (j + 1)) := by
              have e9 := pjf_same L ys m K0 (gx zs) s j HKK.out.2 hlt
              rw [← HJM.out.1, ← HJM.out.2.1] at e9
              rw [← e9] at hN3
              have hN4 := hN3.fit (M := M) (by rw [HJM.out.1, pjf, if_pos (by omega)]; exact HB.out.1 (s + 1) _ (by have := HKK.out.2; omega))
              have hgl := HE.out.row.lt
              have hs2 := hB2.size
              have hsz := HE.out.bw.size
              exact (HE.out.below hB3).set kj u hkjn (hN4.ev (by omega)) (fun _ => hN4.mono (by omega)) (fun _ => ⟨fun a ha k => by have := hN3.frm a ha; omega, fun a ha k => by have := hN3.frm a ha; omega⟩) (fun r _ hr => pjf_other L ys m K0 (gx zs) s j r (by have := HJM.out.1; omega)) (fun r _ hr hq => by have := HJM.out.2.2; omega)
            have HST := (show Hid _ from hst)
            have hwg : w.heap.size ≠ g := by have := HE.out.lt; omega
            have hgcg : gc ≠ g := by have := HE.out.lt; omega
            refine wpAnyH_ready (rs := [22]) (by kernel_rfl) (by simp) ?_
            refine AllReadyH.cons rfl (fun K hK => ?_) AllReadyH.nil
            go_simp
            refine hK.out _ _ (keep6s (keepq6 ⟨l0, l1, y0, y1, e0, e1⟩ hB3) hwg hkjm hgcg) (fun hHeld => ?_)
            clear hK K
            try simp only [Act.put, List.setIfInBounds_toArray, List.set_cons_zero, List.set_cons_succ]
            refine wpAnyH_done (by kernel_rfl) ?_ _
            clear hst hN1 hN1' hN2 hN3 x0 x1 y0 y1 l0 l1 e0 e1 t0 t1 g0 g1
            go_wp2
            refine ⟨⟨j + 1, _, by omega, by go_num, HST.out⟩, by simp [intOf]; omega⟩
          · obtain rfl : j = m := by omega
            have HG : Hid (PQ w wr g gp M n K s us2 (prf L ys j K0 (gx zs) (s + 1)) L (ge fs j) f (fun t => 1 ≤ s + 1 ∧ kk ≤ t ∧ t < kk + j)) := HJ.out.same (fun t ht => (pjf_all L ys j K0 (gx zs) s t HKK.out.2 (by have := HX.out.2.2.2; omega)).symm) (fun t _ ht => ht.2)
            clear HJ hge
            obtain ⟨q0, q1, -, -⟩ := id HG.out.pb
            obtain ⟨l0, l1, -, -⟩ := id HG.out.lb
            have hmul := Mul_ev HG.out.pe HG.out.le hMM
            go_wp2_with fail
            refine hmul.mono ?_
            rintro r v1 ⟨u, rfl, hN1, hB1⟩
            clear hmul
            obtain ⟨z0, z1, g0, g1⟩ := HG.out.pb.later hB1
            have hst : PQ w ((v1.setCell ⟨gp, 0, none⟩ (.bool u.s)).setCell ⟨gp, 1, none⟩ (.slice u.p u.n u.c)) g gp M n K (s + 1) us2 (prf L ys j K0 (gx zs) (s + 1)) L (ge fs j) u (fun t => 1 ≤ s + 1 ∧ kk ≤ t ∧ t < kk + j) := by
              have hN2 : NV wr.heap.size v1 (M + K) (L ^ s * L) u := hN1
              rw [← Int.pow_succ] at hN2
              have hN3 := (hN2.fit (M := M) (HB.out.2.1 (s + 1) (by have := HKK.out.2; omega))).ev (by omega)
              have hgl := HG.out.row.lt
              have hgp : gp < wr.heap.size := block_lt_of_cell q0
              exact (HG.out.below hB1).power hN3 (fun _ => ⟨fun a ha k => by have := hN2.frm a ha; omega, fun a ha k => by have := hN2.frm a ha; omega⟩)
            have HST := (show Hid _ from hst)
            clear hst hN1 q0 q1 l0 l1
            go_wp2
            refine ⟨⟨kk, s + 1, _, u, by omega, by go_num, HST.out⟩, by simp [intOf]⟩
end Go.Proofs.YtakfimhpnpapdaaGreatDoor
