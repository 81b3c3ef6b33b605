/-
  upoly.entry, combine, Add.
-/
import Derived.Test.YtejnhpjejcpekaaGreatDoorUeUfUg
import Derived.Test.YtejnhpjejcpekaaGreatDoorVbDaCxRbCyViDsAeVuWxUpUqRmRpDkDlDbRiRjRgRk
namespace Go.Proofs.YtejnhpjejcpekaaGreatDoor
open Go.RowKit
set_option linter.unusedVariables false
set_option linter.unusedSimpArgs false
set_option maxHeartbeats 8000000
theorem EV.set2 {w : World} {K : Nat} {z : Int} {e : Ent} {g o : Nat} {u v : Value} (h : EV w K z e) (ho : 0 < e.n → Off g e.p) : EV ((w.setCell ⟨g, o, none⟩ u).setCell ⟨g, o + 1, none⟩ v) K z e := by
  obtain ⟨xs, h1, h2⟩ := h
  refine ⟨xs, ⟨h1.len, h1.cap, h1.bnd, h1.sml, fun hx => ?_, h1.u⟩, h2⟩
  have := ho (by rw [h1.len] at hx; exact hx)
  exact ((h1.rd.set_other ⟨g, o, none⟩ u this).set_other ⟨g, o + 1, none⟩ v this) hx
theorem EV.ez (w : World) (K : Nat) : EV w K 0 ez := ⟨[], ⟨rfl, Nat.le_refl _, Nat.zero_le _, Nat.zero_le _, Rd.nil, fun j => by simp [gx]⟩, rfl, Nat.zero_le _⟩
set_option maxRecDepth 100000 in
theorem entry_any {w : World} {K : Nat} {p : Option Addr} {n nc : Nat} {es : List Ent} {zs : List Int} (h : PA w K p n nc es zs) (hn : n ≤ 1000000) (i : Nat) (hi : i ≤ 1000000) :
    Calls Tryz.prog 216 #[.slice p n nc, .int .i64 i] w fun r w' => ∃ f : Ent, r = .returned (.agg #[.bool f.s, .slice f.p f.n f.c]) ∧ EV w' K (gx zs i) f ∧ Below w.heap.size w w' := by
  have hel := h.el
  have hzl := h.zl
  have hal := bel_al (o := .cells #[.bool false, .slice none 0 0] 26) (Below.refl w.heap.size w)
  have hR0 : Bx (w.alloc (.cells #[.bool false, .slice none 0 0] 26)) w.heap.size (.bool false) (.slice none 0 0) := Bx.new _ _ _ rfl
  have hw := h.below hal
  rcases Nat.lt_or_ge i n with hlt | hge
  · obtain ⟨b, o, hp, hc⟩ := hw.pl (by omega)
    obtain ⟨b', o', hp', hc'⟩ := h.pl (by omega)
    rw [hp] at hp'
    cases hp'
    have sb : b < w.heap.size := block_lt_of_cell (hc' i (by omega)).1
    subst hp
    obtain ⟨c0, c1⟩ := hc i (by omega)
    have hv := hw.ev i hlt
    obtain ⟨r0, r1, f0, f1⟩ := hR0
    clear hc hc'
    go_enter Tryz.func216, Tryz.ntmps216
    go_wp2
    refine bodyPost_ret (v := .agg #[.bool (ge es i).s, .slice (ge es i).p (ge es i).n (ge es i).c]) (by simp [results, Tryz.results216, go_sem, r0, r1]) rfl ⟨ge es i, rfl, ?_, bel_al (Below.refl _ _)⟩
    exact (h.ev i hlt).below (bel_al (Below.refl _ _))
  · obtain ⟨r0, r1, f0, f1⟩ := hR0
    have hz : Hid (gx zs i = 0) := gx_past zs n (by omega) i hge
    go_enter Tryz.func216, Tryz.ntmps216
    go_wp2
    refine bodyPost_ret (v := .agg #[.bool false, .slice none 0 0]) (by simp [results, Tryz.results216, go_sem, r0, r1]) rfl ⟨ez, rfl, ?_, bel_al (Below.refl _ _)⟩
    rw [hz.out]
    exact EV.ez _ K
def CoI (op : Int → Int → Int) (K g n k : Nat) (zs ys : List Int) (W0 wr : World) : Prop :=
  ∃ es, Row2 wr g 26 es ∧ es.length = n ∧ (∀ j, j < k → NV (g + 1) wr K (op (gx zs j) (gx ys j)) (ge es j)) ∧ Below g W0 wr
def pz (op : Int → Int → Int) (zs ys : List Int) : List Int := (List.range (max zs.length ys.length)).map fun i => op (gx zs i) (gx ys i)
set_option maxRecDepth 100000 in
theorem ucombine_any {w : World} {K L M : Nat} {p q : Option Addr} {n nc m mc : Nat} {es fs : List Ent} {zs ys : List Int} (h : PA w K p n nc es zs) (k : PA w L q m mc fs ys) (hn : n ≤ 1000000) (hm : m ≤ 1000000) (hM : M ≤ 1000) (J : Nat) (hE : ∀ args w', Sem.run Tryz.prog (callFunc J args) w' = .ok (.enter J args) w') (op : Int → Int → Int)
    (hJ : ∀ w' x y e f, EV w' K x e → EV w' L y f → Calls Tryz.prog J #[.agg #[.bool e.s, .slice e.p e.n e.c], .agg #[.bool f.s, .slice f.p f.n f.c]] w' fun r w'' => ∃ u : Ent, r = .returned (.agg #[.bool u.s, .slice u.p u.n u.c]) ∧ NV w'.heap.size w'' M (op x y) u ∧ Below w'.heap.size w' w'') :
    Calls Tryz.prog 147 #[.slice p n nc, .slice q m mc, .func (.func J) #[] #[]] w (PnP (tr (pz op (tr zs) (tr ys))) M w) := by
  have htl := tlen_le zs
  have htl' := tlen_le ys
  have hzl := h.zl
  have hyl := k.zl
  have HJ := (show Hid _ from hJ)
  clear hJ
  go_enter Tryz.func147, Tryz.ntmps147
  go_wp2_with fail
  refine (utrim_any K p n nc es zs _ h hn).mono ?_
  rintro e w1 ⟨rfl, hb1⟩
  go_wp2_with fail
  refine (utrim_any L q m mc fs ys _ (k.below hb1) hm).mono ?_
  rintro e w2 ⟨rfl, hb2⟩
  have h2 := ((h.below hb1).below hb2).trim
  have k2 := ((k.below hb1).below hb2).trim
  have hb := bnext' hb1 hb2
  have HL : Hid ((tr zs).length = tlen zs ∧ (tr ys).length = tlen ys) := ⟨length_tr zs, length_tr ys⟩
  have ha : tlen zs ≤ 1000000 := by omega
  have hc : tlen ys ≤ 1000000 := by omega
  clear hb1 hb2 h k
  generalize tr zs = A at *
  generalize tr ys = B at *
  generalize tlen zs = a at *
  generalize tlen ys = b at *
  generalize es.take a = ea at *
  generalize fs.take b = eb at *
  clear htl htl' hzl hyl hn hm
  have hmx : Hid (∃ N : Nat, N = max a b ∧ max (a : Int) (b : Int) = (N : Int) ∧ N ≤ 1000000) := ⟨max a b, rfl, by omega, by omega⟩
  obtain ⟨N, hN1, hN2, hN3⟩ := hmx.out
  have hmk := mk_poly N (by omega)
  have HN : Hid (N = max a b) := hN1
  clear hmx hN1
  go_wp2_with fail
  have hR0 := Row2.new w2 26 (ezs N)
  have hW0 : Below w2.heap.size w2 (w2.alloc (.cells (ca2 (ezs N)) 26)) := (Below.refl _ _).alloc (Nat.le_refl _) _
  have hs0 : w2.heap.size + 1 ≤ (w2.alloc (.cells (ca2 (ezs N)) 26)).heap.size := by simp
  generalize w2.alloc (.cells (ca2 (ezs N)) 26) = W0 at *
  clear hmk
  go_loopw [8, 21] (fun iv kv wr => ∃ j : Nat, j ≤ N ∧ kv = .int .i64 j ∧ Hid (CoI op M w2.heap.size N j A B W0 wr)) (fun _ kv _ => N - (intOf kv).toNat)
  case atStart => exact ⟨0, Nat.zero_le _, by go_num, ezs N, hR0, length_ezs N, fun j hj => by omega, Below.refl _ _⟩
  case round =>
    obtain ⟨j, hj, rfl, H⟩ := hrel
    rcases Nat.lt_or_ge j N with hlt | hge
    · have hBw : Below w2.heap.size w2 wr := by
        obtain ⟨es', hR, hel, hev, hB⟩ := H.out
        exact hW0.trans hB
      go_wp2_with fail
      refine (entry_any (h2.below hBw) ha j (by omega)).mono ?_
      rintro r w3 ⟨e1, rfl, hv1, hb3⟩
      go_wp2_with fail
      refine (entry_any ((k2.below hBw).below hb3) hc j (by omega)).mono ?_
      rintro r w4 ⟨e2, rfl, hv2, hb4⟩
      go_wp2_with fail
      refine (HJ.out _ _ _ e1 e2 (hv1.below hb4) hv2).mono ?_
      rintro r w5 ⟨f, rfl, hO, hb5⟩
      have hb2' := bnext' (bnext' hb3 hb4) hb5
      obtain ⟨es', hR, hel, hev, hB⟩ := H.out
      have hR1 := hR.below hb2' hR.lt
      obtain ⟨d0, d1⟩ := hR1.cell j (by omega)
      have f0 := hR1.frozen (j * 2)
      have f1 := hR1.frozen (j * 2 + 1)
      have hsz : w2.heap.size + 1 ≤ w4.heap.size := by have h1 := hB.size; have h3 := hb3.size; have h4 := hb4.size; omega
      have HI : Hid (NV (w2.heap.size + 1) w5 M (op (gx A j) (gx B j)) f ∧ Row2 w5 w2.heap.size 26 es' ∧ es'.length = N ∧ (∀ i, i < j → NV (w2.heap.size + 1) w5 M (op (gx A i) (gx B i)) (ge es' i)) ∧ Below w2.heap.size W0 w5) := ⟨hO.mono hsz, hR1, hel, fun i hi => (hev i hi).below hb2', hB.trans (hb2'.mono (by have := hBw.size; omega))⟩
      clear hO hb3 hb4 hb5 hb2' hR hel hev hB hR1 hv1 hv2 H
      go_wp2
      go_roundw
      case rel =>
        obtain ⟨hO, hR, hel, hev, hB⟩ := HI.out
        refine ⟨j + 1, by omega, by go_num, es'.set j f, hR.set j f (by omega), by simpa using hel, fun i hi => ?_, ?_⟩
        · rcases Nat.lt_or_ge i j with h' | h'
          · rw [ge_set_other _ _ _ _ (by omega)]
            exact (hev i h').set2 (by omega) _ _
          · obtain rfl : i = j := by omega
            rw [ge_set_same _ _ _ (by omega)]
            exact hO.set2 (by omega) _ _
        · exact (hB.setCell (p := ⟨w2.heap.size, j * 2, none⟩) (Nat.le_refl _) _).setCell (p := ⟨w2.heap.size, j * 2 + 1, none⟩) (Nat.le_refl _) _
      case measure => simp [intOf]; omega
    · obtain rfl : j = N := by omega
      obtain ⟨es', hR, hel, hev, hB⟩ := H.out
      have hpl : (pz op A B).length = j := by rw [pz, List.length_map, List.length_range, HL.out.1, HL.out.2]; exact HN.out.symm
      have hgx : ∀ i, i < j → gx (pz op A B) i = op (gx A i) (gx B i) := fun i hi => by
        have hi' : i < (pz op A B).length := by omega
        rw [gx_mem _ _ hi']
        simp [pz]
      have hPA : PA wr M (some ⟨w2.heap.size, 0, none⟩) j j es' (pz op A B) := ⟨hel, hpl, Nat.le_refl _, by unfold maxLen; omega, fun e => by simp at e, hR.pl, fun i hi => by rw [hgx i hi]; exact (hev i hi).ev hM⟩
      have HI : Hid (Row2 wr w2.heap.size 26 es' ∧ es'.length = j ∧ (∀ i, i < j → NV (w2.heap.size + 1) wr M (gx (pz op A B) i) (ge es' i)) ∧ Below w2.heap.size w2 wr) := ⟨hR, hel, fun i hi => by rw [hgx i hi]; exact hev i hi, hW0.trans hB⟩
      have HP : Hid ((pz op A B).length = j) := hpl
      clear H hR hel hev hB hge hj hgx hpl
      go_wp2_with fail
      refine (utrim_any M _ _ _ es' (pz op A B) _ hPA (by omega)).mono ?_
      rintro e w3 ⟨rfl, hb3⟩
      clear hPA
      go_wp2
      go_ret
      obtain ⟨hR, hel, hev, hB⟩ := HI.out
      have htl := tlen_le (pz op A B)
      have hp := HP.out
      have hs2 := hb.size
      refine ⟨_, _, es'.take (tlen (pz op A B)), rfl, ⟨by simp; omega, length_tr _, tlen_tr _, (hR.below hb3 hR.lt).pl.take _, fun a ha => by cases ha; exact hs2, fun i hi => ?_⟩, bnext' hb (bnext' hB hb3)⟩
      rw [gx_tr, ge_take _ _ _ hi]
      exact ((hev i (by omega)).below hb3).mono (by omega)
theorem callAdd' (args : Array Value) (w' : World) : Sem.run Tryz.prog (callFunc 148 args) w' = .ok (.enter 148 args) w' := by
  have h1 : ¬ Tryz.f148.name = "runtime.NumGoroutine" := of_decide_eq_false (by kernel_rfl)
  have h2 : ¬ Tryz.f148.body = none := fun h => by cases h
  simp only [callFunc, Tryz.func148, go_sem]
  simp [h1, h2, go_sem]
theorem Add_ev {w : World} {K L : Nat} {x y : Int} {e f : Ent} (h : EV w K x e) (k : EV w L y f) : Calls Tryz.prog 148 #[.agg #[.bool e.s, .slice e.p e.n e.c], .agg #[.bool f.s, .slice f.p f.n f.c]] w fun r w' => ∃ u : Ent, r = .returned (.agg #[.bool u.s, .slice u.p u.n u.c]) ∧ NV w.heap.size w' (K + L + 1) (x + y) u ∧ Below w.heap.size w w' := by
  obtain ⟨xs, h1, rfl, h3⟩ := h
  obtain ⟨ys, k1, rfl, k3⟩ := k
  refine (Add_any e.s f.s e.p f.p e.n e.c f.n f.c xs ys w h1 k1).mono ?_
  rintro r w' ⟨s', p', n', zs, g1, g2, g3, g4⟩
  exact ⟨⟨s', p', n', n'⟩, g1, ⟨zs, g2, rfl, by show n' ≤ _; omega⟩, g4⟩
theorem uAdd_any {w : World} {K L : Nat} {p q : Option Addr} {n nc m mc : Nat} {es fs : List Ent} {zs ys : List Int} (h : PA w K p n nc es zs) (k : PA w L q m mc fs ys) (hn : n ≤ 1000000) (hm : m ≤ 1000000) (hM : K + L + 1 ≤ 1000) :
    Calls Tryz.prog 77 #[.slice p n nc, .slice q m mc] w (PnP (tr (pz (· + ·) (tr zs) (tr ys))) (K + L + 1) w) := by
  have hc := fun w' (h : PA w' K p n nc es zs) (k : PA w' L q m mc fs ys) => ucombine_any h k hn hm hM 148 callAdd' (· + ·) (fun w' x y e f h k => Add_ev h k)
  go_enter Tryz.func77, Tryz.ntmps77
  go_wp2_with fail
  refine (hc w h k).mono ?_
  rintro e w1 ⟨p1, n1, e1, rfl, h1, h2⟩
  clear hc
  go_wp2
  go_ret
  exact ⟨p1, n1, e1, rfl, h1, h2⟩
theorem length_pz (op : Int → Int → Int) (zs ys : List Int) : (pz op zs ys).length = max zs.length ys.length := by simp [pz]
theorem gx_pz' (op : Int → Int → Int) (zs ys : List Int) (j : Nat) (h : j < max zs.length ys.length) : gx (pz op zs ys) j = op (gx zs j) (gx ys j) := by
  rw [gx_mem _ _ (by rw [length_pz]; exact h)]
  simp [pz]
theorem tlen_same {a b : List Int} (h : ∀ j, gx a j = gx b j) : tlen a = tlen b := by
  refine tlen_eq _ _ (fun j hj => by rw [h]; exact tlen_zero b j hj) ?_
  rcases Nat.eq_zero_or_pos (tlen b) with h0 | h0
  · exact .inl h0
  · exact .inr (by rw [h]; exact tlen_top b h0)
theorem tr_same {a b : List Int} (h : ∀ j, gx a j = gx b j) : tr a = tr b := by
  refine gx_ext _ _ (by rw [length_tr, length_tr, tlen_same h]) fun j hj => ?_
  rw [gx_tr, gx_tr, h]
theorem gx_pz0 (op : Int → Int → Int) (h0 : op 0 0 = 0) (zs ys : List Int) (j : Nat) : gx (pz op zs ys) j = op (gx zs j) (gx ys j) := by
  rcases Nat.lt_or_ge j (max zs.length ys.length) with h | h
  · exact gx_pz' op zs ys j h
  · rw [gx_past _ (max zs.length ys.length) (by rw [length_pz]; exact Nat.le_refl _) j h, gx_past zs zs.length (Nat.le_refl _) j (by omega), gx_past ys ys.length (Nat.le_refl _) j (by omega), h0]
theorem rOf_n (a : Int) (w : World) (h0 : -9223372036854775808 ≤ a) (h1 : a ≤ 9223372036854775807) :
    Calls Tryz.prog 41 #[.int .i64 a] w fun r w' => ∃ u : Ent, r = .returned (.agg #[.bool u.s, .slice u.p u.n u.c]) ∧ RE w' 4 a u ∧ Go.Proofs.YtejnhpjejcpekaaGreatDoor.From w.heap.size u.p ∧ Below w.heap.size w w' := by
  refine (rOf_any a w h0 h1).mono ?_
  rintro e w1 ⟨s1, p1, n1, d1, rfl, hR1, hv1, hn1, hF1, hb1⟩
  exact ⟨⟨s1, p1, n1, n1⟩, rfl, ⟨⟨d1, hR1, hv1, hn1⟩, rfl⟩, hF1, hb1⟩
def zb (z : Int) : Nat := if z = 0 then 0 else z.natAbs.log2 + 1
theorem zb_ib (z : Int) : IB (zb z) (z.natAbs : Int) := by
  unfold zb
  split
  · rename_i h; subst h; exact ⟨by decide, by decide, .inl rfl⟩
  · rename_i h
    have h0 : z.natAbs ≠ 0 := by omega
    refine ⟨by omega, ?_, .inr ?_⟩
    · have := Nat.lt_log2_self (n := z.natAbs)
      exact_mod_cast this
    · have := Nat.log2_self_le h0
      simp only [Nat.add_sub_cancel]
      exact_mod_cast this
theorem nbits_zb {s : Bool} {xs : List Int} (hU : U32 xs) : nbits xs = (zb (ival s xs) : Int) := by
  obtain ⟨b, hb, hI⟩ := nbits_ib hU
  have e : ((ival s xs).natAbs : Int) = val xs := by
    have := val_nonneg hU
    rw [ival]
    split <;> omega
  have hz := zb_ib (ival s xs)
  rw [e] at hz
  rw [hb, hI.uniq hz]
theorem Bits_ev {w : World} {K : Nat} {z : Int} {e : Ent} (h : EV w K z e) : Calls Tryz.prog 61 #[.agg #[.bool e.s, .slice e.p e.n e.c]] w fun r w' => r = .returned (.int .i64 (zb z)) ∧ Below w.heap.size w w' := by
  obtain ⟨xs, h1, rfl, h3⟩ := h
  rw [← nbits_zb (s := e.s) h1.u]
  exact Bits_any e.s e.p e.n e.c xs w h1
def pb (zs : List Int) : Nat := zs.foldl (fun m z => max m (zb z)) 0
theorem pb_take (zs : List Int) (j : Nat) (h : j < zs.length) : pb (zs.take (j + 1)) = max (pb (zs.take j)) (zb (gx zs j)) := by
  rw [gx_mem zs j h, List.take_succ_eq_append_getElem h, pb, List.foldl_append]
  rfl
theorem zb_le {w : World} {K : Nat} {z : Int} {e : Ent} (h : EV w K z e) : zb z ≤ 32 * K := by
  obtain ⟨xs, h1, rfl, h3⟩ := h
  obtain ⟨q1, q2, q3⟩ := nbits_len h1.u
  rw [nbits_zb (s := e.s) h1.u] at q3
  have := tlen_le xs
  have := h1.len
  omega
set_option maxRecDepth 100000 in
theorem isZero_any {w : World} {K : Nat} {z : Int} {e : Ent} (h : EV w K z e) : Calls Tryz.prog 208 #[.agg #[.bool e.s, .slice e.p e.n e.c]] w fun r w' => r = .returned (.bool (decide (z = 0))) ∧ Below w.heap.size w w' := by
  have hd : Hid ((isgn z == 0) = decide (z = 0)) := by
    show (isgn z == 0) = decide (z = 0)
    unfold isgn
    split
    · rename_i h; rw [decide_eq_true h]; rfl
    · rename_i h; rw [decide_eq_false h]; split <;> rfl
  go_enter Tryz.func208, Tryz.ntmps208
  go_wp2_with fail
  have hW : Below w.heap.size w (w.alloc (.cells #[.bool e.s, .slice e.p e.n e.c] 26)) := (Below.refl _ _).alloc (Nat.le_refl _) _
  generalize w.alloc (.cells #[.bool e.s, .slice e.p e.n e.c] 26) = W at *
  refine (Sign_ev (h.below hW)).mono ?_
  rintro r w1 ⟨rfl, hb1⟩
  go_wp2
  go_ret
  exact ⟨by rw [hd.out]; rfl, bnext' hW hb1⟩
set_option maxRecDepth 100000 in
theorem uBits_any {w : World} {K : Nat} {p : Option Addr} {n nc : Nat} {es : List Ent} {zs : List Int} (h : PA w K p n nc es zs) (hn : n ≤ 1000000) (hK : K ≤ 1000) :
    Calls Tryz.prog 75 #[.slice p n nc] w fun r w' => r = .returned (.int .i64 (pb zs)) ∧ pb zs ≤ 32 * K ∧ Below w.heap.size w w' := by
  have hel := h.el
  have hzl := h.zl
  go_enter Tryz.func75, Tryz.ntmps75
  go_wp2_with fail
  go_loopw [3, 5, 8] (fun mv cv kv wr => ∃ j : Nat, j ≤ n ∧ kv = .int .i64 j ∧ mv = .int .i64 (pb (zs.take j)) ∧ Hid (pb (zs.take j) ≤ 32 * K ∧ Below w.heap.size w wr)) (fun _ _ kv _ => n - (intOf kv).toNat)
  case atStart => exact ⟨0, Nat.zero_le _, by go_num, by simp [pb], by simp [pb], Below.refl _ _⟩
  case round =>
    obtain ⟨j, hj, rfl, rfl, H⟩ := hrel
    rcases Nat.lt_or_ge j n with hlt | hge
    · have hh := h.below H.out.2
      have hv := hh.ev j hlt
      obtain ⟨b, o, hp, hc⟩ := hh.pl (by omega)
      subst hp
      obtain ⟨c0, c1⟩ := hc j (by omega)
      have hz := zb_le hv
      have HT : Hid (pb (zs.take (j + 1)) = max (pb (zs.take j)) (zb (gx zs j))) := pb_take zs j (by omega)
      clear hc hh
      go_wp2_with fail
      have hal := bel_al (o := .cells #[.bool (ge es j).s, .slice (ge es j).p (ge es j).n (ge es j).c] 26) (Below.refl wr.heap.size wr)
      refine (Bits_ev (hv.below hal)).mono ?_
      rintro e w1 ⟨rfl, hb1⟩
      have hB := bnext' H.out.2 (bnext' hal hb1)
      have hmx : max (pb (zs.take j) : Int) (zb (gx zs j) : Int) = ((pb (zs.take (j + 1)) : Nat) : Int) := by rw [HT.out]; omega
      clear c0 c1 hv hal hb1
      go_wp2
      go_roundw
      case rel => exact ⟨j + 1, by omega, by go_num, rfl, by rw [HT.out]; have := H.out.1; omega, hB⟩
      case measure => simp [intOf]; omega
    · obtain rfl : j = n := by omega
      have HT : Hid (zs.take j = zs) := List.take_of_length_le (by omega)
      clear hge
      go_wp2
      go_ret
      obtain ⟨h1, h2⟩ := H.out
      rw [HT.out] at h1
      exact ⟨by rw [HT.out]; rfl, h1, h2⟩
def zl (z : Int) : Nat := (zb z + 31) / 32
def cnt (zs : List Int) : Nat := zs.foldl (fun m z => if z = 0 then m else m + 1) 0
def sl (zs : List Int) : Nat := zs.foldl (fun m z => m + zl z) 0
theorem cnt_take (zs : List Int) (j : Nat) (h : j < zs.length) : cnt (zs.take (j + 1)) = if gx zs j = 0 then cnt (zs.take j) else cnt (zs.take j) + 1 := by
  rw [gx_mem zs j h, List.take_succ_eq_append_getElem h, cnt, List.foldl_append]
  rfl
theorem sl_take (zs : List Int) (j : Nat) (h : j < zs.length) : sl (zs.take (j + 1)) = sl (zs.take j) + zl (gx zs j) := by
  rw [gx_mem zs j h, List.take_succ_eq_append_getElem h, sl, List.foldl_append]
  rfl
theorem EN.zl {w : World} {K : Nat} {z : Int} {e : Ent} (h : EN w K z e) : e.n = zl z ∧ zl z ≤ K := by
  obtain ⟨xs, h1, rfl, h3, h4, h5⟩ := h
  obtain ⟨q1, q2, q3⟩ := nbits_len h1.u
  rw [nbits_zb (s := e.s) h1.u] at q1
  have : Go.Proofs.YtejnhpjejcpekaaGreatDoor.zl (ival e.s xs) = e.n := by unfold Go.Proofs.YtejnhpjejcpekaaGreatDoor.zl; omega
  exact ⟨this.symm, by omega⟩
set_option maxRecDepth 100000 in
theorem weigh_any {B : Nat} {w : World} {K : Nat} {p : Option Addr} {n : Nat} {es : List Ent} {zs : List Int} (h : PB B w K p n es zs) (hn : n ≤ 1000000) (hK : K ≤ 1000) :
    Calls Tryz.prog 286 #[.slice p n n] w fun r w' => r = .returned (.tuple #[.int .i64 (cnt zs), .int .i64 (sl zs)]) ∧ cnt zs ≤ n ∧ sl zs ≤ n * K ∧ Below w.heap.size w w' := by
  have hel := h.el
  have hzl := h.zl
  go_enter Tryz.func286, Tryz.ntmps286
  go_wp2_with fail
  go_loopw [4, 5, 7, 10] (fun nv sv cv kv wr => ∃ j : Nat, j ≤ n ∧ kv = .int .i64 j ∧ nv = .int .i64 (cnt (zs.take j)) ∧ sv = .int .i64 (sl (zs.take j)) ∧ Hid (cnt (zs.take j) ≤ j ∧ sl (zs.take j) ≤ j * K ∧ Below w.heap.size w wr)) (fun _ _ _ kv _ => n - (intOf kv).toNat)
  case atStart => exact ⟨0, Nat.zero_le _, by go_num, by simp [cnt], by simp [sl], by simp [cnt], by simp [sl], Below.refl _ _⟩
  case round =>
    obtain ⟨j, hj, rfl, rfl, rfl, H⟩ := hrel
    rcases Nat.lt_or_ge j n with hlt | hge
    · have hh := h.below H.out.2.2
      have hv := hh.ev j hlt
      obtain ⟨b, o, hp, hc⟩ := hh.pl (by omega)
      subst hp
      obtain ⟨c0, c1⟩ := hc j (by omega)
      obtain ⟨z1, z2⟩ := hv.zl
      have HT : Hid (cnt (zs.take (j + 1)) = (if gx zs j = 0 then cnt (zs.take j) else cnt (zs.take j) + 1)) := cnt_take zs j (by omega)
      have HS : Hid (sl (zs.take (j + 1)) = sl (zs.take j) + zl (gx zs j)) := sl_take zs j (by omega)
      have hjK : Hid (sl (zs.take j) + zl (gx zs j) ≤ (j + 1) * K) := by
        show _ ≤ _
        have := H.out.2.1
        rw [Nat.add_mul]
        omega
      have hle1 : cnt (zs.take j) ≤ 1000000 := by have := H.out.1; omega
      have hle2 : sl (zs.take j) ≤ 1000000000 := by
        have h1 := H.out.2.1
        have h2 : j * K ≤ 1000000 * 1000 := Nat.mul_le_mul (by omega) hK
        omega
      rw [z1] at c1
      have hvn : EV wr K (gx zs j) (ge es j) := hv.ev
      have v1 : IntKind.i64.wrap ((sl (zs.take j) : Int) + (zl (gx zs j) : Int)) = ((sl (zs.take (j + 1)) : Nat) : Int) := by rw [IntKind.wrap_i64, HS.out]; omega
      have v2 : IntKind.i64.wrap ((cnt (zs.take j) : Int) + 1) = (cnt (zs.take j) : Int) + 1 := by rw [IntKind.wrap_i64]; omega
      clear hc hh hv
      have HB0 : Hid (Below w.heap.size w wr) := H.out.2.2
      have HC : Hid (cnt (zs.take j) ≤ j) := H.out.1
      go_wp2_with fail
      have hal := bel_al (o := .cells #[.bool (ge es j).s, .slice (ge es j).p (zl (gx zs j)) (ge es j).c] 26) (Below.refl wr.heap.size wr)
      have hz0 := isZero_any (hvn.below hal)
      rw [z1] at hz0
      refine hz0.mono ?_
      rintro e w1 ⟨rfl, hb1⟩
      have hB := bnext' HB0.out (bnext' hal hb1)
      have hcs : Hid (gx zs j = 0 ∨ ¬ gx zs j = 0) := Classical.em _
      clear hz0 c0 c1 hvn hal hb1 H
      rcases hcs.out with hz | hz
      · rw [decide_eq_true hz]
        have HE : Hid (cnt (zs.take (j + 1)) = cnt (zs.take j)) := by show _ = _; rw [HT.out, if_pos hz]
        clear hz hcs
        go_wp2
        go_roundw
        case rel => exact ⟨j + 1, by omega, by go_num, by rw [HE.out], rfl, by rw [HE.out]; have := HC.out; omega, by rw [HS.out]; exact hjK.out, hB⟩
        case measure => simp [intOf]; omega
      · rw [decide_eq_false hz]
        have HE : Hid (cnt (zs.take (j + 1)) = cnt (zs.take j) + 1) := by show _ = _; rw [HT.out, if_neg hz]
        clear hz hcs
        go_wp2
        go_roundw
        case rel => exact ⟨j + 1, by omega, by go_num, by rw [HE.out]; rfl, rfl, by rw [HE.out]; have := HC.out; omega, by rw [HS.out]; exact hjK.out, hB⟩
        case measure => simp [intOf]; omega
    · obtain rfl : j = n := by omega
      have HT : Hid (zs.take j = zs) := List.take_of_length_le (by omega)
      clear hge
      go_wp2
      go_ret2
      obtain ⟨h1, h2, h3⟩ := H.out
      rw [HT.out] at h1 h2
      exact ⟨by rw [HT.out]; rfl, h1, h2, h3⟩
end Go.Proofs.YtejnhpjejcpekaaGreatDoor
