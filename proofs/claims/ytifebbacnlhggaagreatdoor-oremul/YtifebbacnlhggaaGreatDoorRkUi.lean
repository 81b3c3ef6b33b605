/-
  ashlarref1.Add.
-/
import Derived.Test.YtifebbacnlhggaaGreatDoorRpDkDlDbRiRjRg
import Derived.Test.YtifebbacnlhggaaGreatDoorLnWrIbWgUeUfUg
namespace Go.Proofs.YtifebbacnlhggaaGreatDoor
open Go.RowKit
set_option linter.unusedVariables false
set_option linter.unusedSimpArgs false
set_option maxHeartbeats 8000000
set_option maxRecDepth 100000 in
theorem rAdd_same (s : Bool) (p q : Option Addr) (n nc m mc : Nat) (xs ys : List Int) (w : World) (hn : xs.length = n) (hm : ys.length = m) (hnb : n ≤ 1000000) (hmb : m ≤ 1000000) (hX : Rd w p .i64 xs) (hXu : U16 xs) (hY : Rd w q .i64 ys) (hYu : U16 ys) :
    Calls Tryz.prog 126 #[.agg #[.bool s, .slice p n nc], .agg #[.bool s, .slice q m mc]] w (RAns (n + m + 1) (rval s xs + rval s ys) w) := by
  have hss : (s == s) = true := by simp
  have HN : Hid (xs.length = n ∧ ys.length = m) := ⟨hn, hm⟩
  clear hn hm
  go_enter Tryz.func126, Tryz.ntmps126
  go_wp2_with fail
  have hX3 := boxes3' w (.bool s) (.slice p n nc) (.bool s) (.slice q m mc) (.bool false) (.slice none 0 0) 30 30 30
  generalize ((w.alloc (Obj.cells #[Value.bool s, Value.slice p n nc] 30)).alloc (Obj.cells #[Value.bool s, Value.slice q m mc] 30)).alloc (Obj.cells #[Value.bool false, Value.slice none 0 0] 30) = W at *
  have hXW := hX.below hX3.below
  have hYW := hY.below hX3.below
  have k0 := hX3.ca0
  have k1 := hX3.ca1
  have k2 := hX3.cb0
  have k3 := hX3.cb1
  go_region_held3 (fun w' => w'.cell? ⟨w.heap.size, 0, none⟩ = some (.bool s) ∧ w'.cell? ⟨w.heap.size, 1, none⟩ = some (.slice p n nc) ∧ w'.cell? ⟨w.heap.size + 1, 0, none⟩ = some (.bool s) ∧ w'.cell? ⟨w.heap.size + 1, 1, none⟩ = some (.slice q m mc)) (first | exact ⟨by assumption, by assumption, by assumption, by assumption⟩ | exact keepc4 (by assumption) (by assumption) | (simp [go_sem, *]; done))
    (first
      | (go_at_call 154; obtain ⟨hn, hm⟩ := HN.out; refine (radd_any p q n nc m mc xs ys _ hn hm hnb hmb hXW.drew hXu hYW.drew hYu).mono ?_; clear hn hm; rintro e w1 ⟨q1, n1, c1, D, rfl, hl1, hc1, hc2, hR1, hU1, hv1, hn1, hF1, hb1⟩; have HV1 : Hid (D.length = n1 ∧ vd D = vd xs + vd ys) := ⟨hl1, hv1⟩; clear hl1 hv1)
      | (go_at_call 43; refine (rtrim_any s q1 n1 c1 D _ HV1.out.1 hc1 hc2 hR1).mono ?_; rintro e w2 ⟨rfl, hb2⟩; obtain ⟨c0', c1', f0, f1⟩ := resbox (bnext' (undrew hb1) hb2) hX3.cr0 hX3.cr1 hX3.fr0 hX3.fr1))
  go_wp2
  have hsz := hX3.size
  refine bodyPost_ret (v := .agg #[.bool (nsg s D), .slice q1 (tlen D) (tlen D)]) (by simp [results, Tryz.results126, go_sem, c0', c1']) rfl ?_
  exact end_rn2 hX3.below (r := w.heap.size + 1 + 1) (by omega) (by omega) (undrew hb1) hb2 hR1 hF1 hU1 (by have := HV1.out.1; omega) (by omega) (by rw [rval, HV1.out.2, rval, rval]; cases s <;> simp <;> omega)
set_option maxRecDepth 100000 in
theorem rAdd_ge (s : Bool) (p q : Option Addr) (n nc m mc : Nat) (xs ys : List Int) (w : World) (hn : xs.length = n) (hm : ys.length = m) (hnb : n ≤ 1000000) (hmb : m ≤ 1000000) (tx : tlen xs = n) (ty : tlen ys = m) (hX : Rd w p .i64 xs) (hXu : U16 xs) (hY : Rd w q .i64 ys) (hYu : U16 ys) (hge : vd ys ≤ vd xs) :
    Calls Tryz.prog 126 #[.agg #[.bool s, .slice p n nc], .agg #[.bool (!s), .slice q m mc]] w (RAns (n + m + 1) (rval s xs + rval (!s) ys) w) := by
  have hss : (s == !s) = false := by cases s <;> rfl
  have hic : 0 ≤ icmp (vd xs) (vd ys) := by
    rw [icmp, if_neg (by omega)]; split <;> decide
  have hmn : m ≤ n := by
    rcases Nat.lt_or_ge n m with h | h
    · have := vd_lt_len hXu hYu (by omega); omega
    · exact h
  have HN : Hid ((xs.length = n ∧ ys.length = m) ∧ tlen xs = n ∧ tlen ys = m) := ⟨⟨hn, hm⟩, tx, ty⟩
  clear hn hm tx ty
  go_enter Tryz.func126, Tryz.ntmps126
  go_wp2_with fail
  have hX0 := boxes3' w (.bool s) (.slice p n nc) (.bool (!s)) (.slice q m mc) (.bool false) (.slice none 0 0) 30 30 30
  generalize ((w.alloc (Obj.cells #[Value.bool s, Value.slice p n nc] 30)).alloc (Obj.cells #[Value.bool !s, Value.slice q m mc] 30)).alloc (Obj.cells #[Value.bool false, Value.slice none 0 0] 30) = W0 at *
  refine (rcmp_any p q n nc m mc xs ys _ HN.out.1.1 HN.out.1.2 (by omega) (by omega) HN.out.2.1 HN.out.2.2 (hX.below hX0.below) hXu (hY.below hX0.below) hYu).mono ?_
  rintro e W ⟨rfl, hb0⟩
  have hX3 := hX0.later hb0
  clear hX0 hb0 W0
  have hXW := hX.below hX3.below
  have hYW := hY.below hX3.below
  have k0 := hX3.ca0
  have k1 := hX3.ca1
  have k2 := hX3.cb0
  have k3 := hX3.cb1
  go_wp2_with fail
  go_region_held3 (fun w' => w'.cell? ⟨w.heap.size, 0, none⟩ = some (.bool s) ∧ w'.cell? ⟨w.heap.size, 1, none⟩ = some (.slice p n nc) ∧ w'.cell? ⟨w.heap.size + 1, 0, none⟩ = some (.bool (!s)) ∧ w'.cell? ⟨w.heap.size + 1, 1, none⟩ = some (.slice q m mc)) (first | exact ⟨by assumption, by assumption, by assumption, by assumption⟩ | exact keepc4 (by assumption) (by assumption) | (simp [go_sem, *]; done))
    (first
      | (go_at_call 156; obtain ⟨⟨hn, hm⟩, tx, ty⟩ := HN.out; refine (rsub_any p q n nc m mc xs ys _ hn hm hnb hmn hge hXW.drew hXu hYW.drew hYu).mono ?_; clear hn hm tx ty; rintro e w1 ⟨q1, n1, c1, D, rfl, hl1, hc1, hc2, hR1, hU1, hv1, hn1, hF1, hb1⟩; have HV1 : Hid (D.length = n1 ∧ vd D = vd xs - vd ys) := ⟨hl1, hv1⟩; clear hl1 hv1)
      | (go_at_call 43; refine (rtrim_any s q1 n1 c1 D _ HV1.out.1 hc1 hc2 hR1).mono ?_; rintro e w2 ⟨rfl, hb2⟩; obtain ⟨c0', c1', f0, f1⟩ := resbox (bnext' (undrew hb1) hb2) hX3.cr0 hX3.cr1 hX3.fr0 hX3.fr1))
  go_wp2
  have hsz := hX3.size
  refine bodyPost_ret (v := .agg #[.bool (nsg s D), .slice q1 (tlen D) (tlen D)]) (by simp [results, Tryz.results126, go_sem, c0', c1']) rfl ?_
  exact end_rn2 hX3.below (r := w.heap.size + 1 + 1) (by omega) (by omega) (undrew hb1) hb2 hR1 hF1 hU1 (by have := HV1.out.1; omega) (by omega) (by rw [rval, HV1.out.2, rval, rval]; cases s <;> simp <;> omega)
set_option maxRecDepth 100000 in
theorem rAdd_lt (s : Bool) (p q : Option Addr) (n nc m mc : Nat) (xs ys : List Int) (w : World) (hn : xs.length = n) (hm : ys.length = m) (hnb : n ≤ 1000000) (hmb : m ≤ 1000000) (tx : tlen xs = n) (ty : tlen ys = m) (hX : Rd w p .i64 xs) (hXu : U16 xs) (hY : Rd w q .i64 ys) (hYu : U16 ys) (hge : vd xs < vd ys) :
    Calls Tryz.prog 126 #[.agg #[.bool s, .slice p n nc], .agg #[.bool (!s), .slice q m mc]] w (RAns (n + m + 1) (rval s xs + rval (!s) ys) w) := by
  have hss : (s == !s) = false := by cases s <;> rfl
  have hic : ¬ 0 ≤ icmp (vd xs) (vd ys) := by
    rw [icmp_lt hge]; decide
  have hmn : n ≤ m := by
    rcases Nat.lt_or_ge m n with h | h
    · have := vd_lt_len hYu hXu (by omega); omega
    · exact h
  have HN : Hid ((xs.length = n ∧ ys.length = m) ∧ tlen xs = n ∧ tlen ys = m) := ⟨⟨hn, hm⟩, tx, ty⟩
  clear hn hm tx ty
  go_enter Tryz.func126, Tryz.ntmps126
  go_wp2_with fail
  have hX0 := boxes3' w (.bool s) (.slice p n nc) (.bool (!s)) (.slice q m mc) (.bool false) (.slice none 0 0) 30 30 30
  generalize ((w.alloc (Obj.cells #[Value.bool s, Value.slice p n nc] 30)).alloc (Obj.cells #[Value.bool !s, Value.slice q m mc] 30)).alloc (Obj.cells #[Value.bool false, Value.slice none 0 0] 30) = W0 at *
  refine (rcmp_any p q n nc m mc xs ys _ HN.out.1.1 HN.out.1.2 (by omega) (by omega) HN.out.2.1 HN.out.2.2 (hX.below hX0.below) hXu (hY.below hX0.below) hYu).mono ?_
  rintro e W ⟨rfl, hb0⟩
  have hX3 := hX0.later hb0
  clear hX0 hb0 W0
  have hXW := hX.below hX3.below
  have hYW := hY.below hX3.below
  have k0 := hX3.ca0
  have k1 := hX3.ca1
  have k2 := hX3.cb0
  have k3 := hX3.cb1
  go_wp2_with fail
  go_region_held3 (fun w' => w'.cell? ⟨w.heap.size, 0, none⟩ = some (.bool s) ∧ w'.cell? ⟨w.heap.size, 1, none⟩ = some (.slice p n nc) ∧ w'.cell? ⟨w.heap.size + 1, 0, none⟩ = some (.bool (!s)) ∧ w'.cell? ⟨w.heap.size + 1, 1, none⟩ = some (.slice q m mc)) (first | exact ⟨by assumption, by assumption, by assumption, by assumption⟩ | exact keepc4 (by assumption) (by assumption) | (simp [go_sem, *]; done))
    (first
      | (go_at_call 156; obtain ⟨⟨hn, hm⟩, tx, ty⟩ := HN.out; refine (rsub_any q p m mc n nc ys xs _ hm hn hmb hmn (by omega) hYW.drew hYu hXW.drew hXu).mono ?_; clear hn hm tx ty; rintro e w1 ⟨q1, n1, c1, D, rfl, hl1, hc1, hc2, hR1, hU1, hv1, hn1, hF1, hb1⟩; have HV1 : Hid (D.length = n1 ∧ vd D = vd ys - vd xs) := ⟨hl1, hv1⟩; clear hl1 hv1)
      | (go_at_call 43; refine (rtrim_any (!s) q1 n1 c1 D _ HV1.out.1 hc1 hc2 hR1).mono ?_; rintro e w2 ⟨rfl, hb2⟩; obtain ⟨c0', c1', f0, f1⟩ := resbox (bnext' (undrew hb1) hb2) hX3.cr0 hX3.cr1 hX3.fr0 hX3.fr1))
  go_wp2
  have hsz := hX3.size
  refine bodyPost_ret (v := .agg #[.bool (nsg (!s) D), .slice q1 (tlen D) (tlen D)]) (by simp [results, Tryz.results126, go_sem, c0', c1']) rfl ?_
  exact end_rn2 hX3.below (r := w.heap.size + 1 + 1) (by omega) (by omega) (undrew hb1) hb2 hR1 hF1 hU1 (by have := HV1.out.1; omega) (by omega) (by rw [rval, HV1.out.2, rval, rval]; cases s <;> simp <;> omega)
theorem rAdd_rn {w : World} {s t : Bool} {p q : Option Addr} {n m : Nat} {xs ys : List Int} (h : RN w s p n xs) (k : RN w t q m ys) (hn : n ≤ 1000000) (hm : m ≤ 1000000) :
    Calls Tryz.prog 126 #[.agg #[.bool s, .slice p n n], .agg #[.bool t, .slice q m m]] w (RAns (n + m + 1) (rval s xs + rval t ys) w) := by
  by_cases e : s = t
  · subst e; exact rAdd_same s p q n n m m xs ys w h.len k.len hn hm h.rd h.u k.rd k.u
  · have : t = !s := by cases s <;> cases t <;> simp_all
    subst this
    rcases Int.lt_or_le (vd xs) (vd ys) with hv | hv
    · exact rAdd_lt s p q n n m m xs ys w h.len k.len hn hm h.nrm k.nrm h.rd h.u k.rd k.u hv
    · exact rAdd_ge s p q n n m m xs ys w h.len k.len hn hm h.nrm k.nrm h.rd h.u k.rd k.u hv
theorem EV.set2 {w : World} {K : Nat} {z : Int} {e : Ent} {g o : Nat} {u v : Value} (h : EV w K z e) (ho : 0 < e.n → Off g e.p) : EV ((w.setCell ⟨g, o, none⟩ u).setCell ⟨g, o + 1, none⟩ v) K z e := by
  obtain ⟨xs, h1, h2⟩ := h
  refine ⟨xs, ⟨h1.len, h1.cap, h1.bnd, h1.sml, fun hx => ?_, h1.u⟩, h2⟩
  have := ho (by rw [h1.len] at hx; exact hx)
  exact ((h1.rd.set_other ⟨g, o, none⟩ u this).set_other ⟨g, o + 1, none⟩ v this) hx
theorem EV.ez (w : World) (K : Nat) : EV w K 0 ez := ⟨[], ⟨rfl, Nat.le_refl _, Nat.zero_le _, Nat.zero_le _, Rd.nil, fun j => by simp [gx]⟩, rfl, Nat.zero_le _⟩
set_option maxRecDepth 100000 in
theorem entry_any {w : World} {K : Nat} {p : Option Addr} {n nc : Nat} {es : List Ent} {zs : List Int} (h : PA w K p n nc es zs) (hn : n ≤ 1000000) (i : Nat) (hi : i ≤ 1000000) :
    Calls Tryz.prog 148 #[.slice p n nc, .int .i64 i] w fun r w' => ∃ f : Ent, r = .returned (.agg #[.bool f.s, .slice f.p f.n f.c]) ∧ EV w' K (gx zs i) f ∧ Below w.heap.size w w' := by
  have hel := h.el
  have hzl := h.zl
  have hal := bel_al (o := .cells #[.bool false, .slice none 0 0] 24) (Below.refl w.heap.size w)
  have hR0 : Bx (w.alloc (.cells #[.bool false, .slice none 0 0] 24)) w.heap.size (.bool false) (.slice none 0 0) := Bx.new _ _ _ rfl
  have hw := h.below hal
  rcases Nat.lt_or_ge i n with hlt | hge
  · obtain ⟨b, o, hp, hc⟩ := hw.pl (by omega)
    obtain ⟨b', o', hp', hc'⟩ := h.pl (by omega)
    rw [hp] at hp'
    cases hp'
    have sb : b < w.heap.size := block_lt_of_cell (hc' i (by omega)).1
    subst hp
    obtain ⟨c0, c1⟩ := hc i (by omega)
    have hv := hw.ev i hlt
    obtain ⟨r0, r1, f0, f1⟩ := hR0
    clear hc hc'
    go_enter Tryz.func148, Tryz.ntmps148
    go_wp2
    refine bodyPost_ret (v := .agg #[.bool (ge es i).s, .slice (ge es i).p (ge es i).n (ge es i).c]) (by simp [results, Tryz.results148, go_sem, r0, r1]) rfl ⟨ge es i, rfl, ?_, bel_al (Below.refl _ _)⟩
    exact (h.ev i hlt).below (bel_al (Below.refl _ _))
  · obtain ⟨r0, r1, f0, f1⟩ := hR0
    have hz : Hid (gx zs i = 0) := gx_past zs n (by omega) i hge
    go_enter Tryz.func148, Tryz.ntmps148
    go_wp2
    refine bodyPost_ret (v := .agg #[.bool false, .slice none 0 0]) (by simp [results, Tryz.results148, go_sem, r0, r1]) rfl ⟨ez, rfl, ?_, bel_al (Below.refl _ _)⟩
    rw [hz.out]
    exact EV.ez _ K
def CoI (op : Int → Int → Int) (K g n k : Nat) (zs ys : List Int) (W0 wr : World) : Prop :=
  ∃ es, Row2 wr g 24 es ∧ es.length = n ∧ (∀ j, j < k → NV (g + 1) wr K (op (gx zs j) (gx ys j)) (ge es j)) ∧ Below g W0 wr
def pz (op : Int → Int → Int) (zs ys : List Int) : List Int := (List.range (max zs.length ys.length)).map fun i => op (gx zs i) (gx ys i)
set_option maxRecDepth 100000 in
theorem ucombine_any {w : World} {K L M : Nat} {p q : Option Addr} {n nc m mc : Nat} {es fs : List Ent} {zs ys : List Int} (h : PA w K p n nc es zs) (k : PA w L q m mc fs ys) (hn : n ≤ 1000000) (hm : m ≤ 1000000) (hM : M ≤ 1000) (J : Nat) (hE : ∀ args w', Sem.run Tryz.prog (callFunc J args) w' = .ok (.enter J args) w') (op : Int → Int → Int)
    (hJ : ∀ w' x y e f, EV w' K x e → EV w' L y f → Calls Tryz.prog J #[.agg #[.bool e.s, .slice e.p e.n e.c], .agg #[.bool f.s, .slice f.p f.n f.c]] w' fun r w'' => ∃ u : Ent, r = .returned (.agg #[.bool u.s, .slice u.p u.n u.c]) ∧ NV w'.heap.size w'' M (op x y) u ∧ Below w'.heap.size w' w'') :
    Calls Tryz.prog 123 #[.slice p n nc, .slice q m mc, .func (.func J) #[] #[]] w (PnP (tr (pz op (tr zs) (tr ys))) M w) := by
  have htl := tlen_le zs
  have htl' := tlen_le ys
  have hzl := h.zl
  have hyl := k.zl
  have HJ := (show Hid _ from hJ)
  clear hJ
  go_enter Tryz.func123, Tryz.ntmps123
  go_wp2_with fail
  refine (utrim_any K p n nc es zs _ h hn).mono ?_
  rintro e w1 ⟨rfl, hb1⟩
  go_wp2_with fail
  refine (utrim_any L q m mc fs ys _ (k.below hb1) hm).mono ?_
  rintro e w2 ⟨rfl, hb2⟩
  have h2 := ((h.below hb1).below hb2).trim
  have k2 := ((k.below hb1).below hb2).trim
  have hb := bnext' hb1 hb2
  have HL : Hid ((tr zs).length = tlen zs ∧ (tr ys).length = tlen ys) := ⟨length_tr zs, length_tr ys⟩
  have ha : tlen zs ≤ 1000000 := by omega
  have hc : tlen ys ≤ 1000000 := by omega
  clear hb1 hb2 h k
  generalize tr zs = A at *
  generalize tr ys = B at *
  generalize tlen zs = a at *
  generalize tlen ys = b at *
  generalize es.take a = ea at *
  generalize fs.take b = eb at *
  clear htl htl' hzl hyl hn hm
  have hmx : Hid (∃ N : Nat, N = max a b ∧ max (a : Int) (b : Int) = (N : Int) ∧ N ≤ 1000000) := ⟨max a b, rfl, by omega, by omega⟩
  obtain ⟨N, hN1, hN2, hN3⟩ := hmx.out
  have hmk := mk_poly N (by omega)
  have HN : Hid (N = max a b) := hN1
  clear hmx hN1
  go_wp2_with fail
  have hR0 := Row2.new w2 24 (ezs N)
  have hW0 : Below w2.heap.size w2 (w2.alloc (.cells (ca2 (ezs N)) 24)) := (Below.refl _ _).alloc (Nat.le_refl _) _
  have hs0 : w2.heap.size + 1 ≤ (w2.alloc (.cells (ca2 (ezs N)) 24)).heap.size := by simp
  generalize w2.alloc (.cells (ca2 (ezs N)) 24) = W0 at *
  clear hmk
  go_loopw [8, 21] (fun iv kv wr => ∃ j : Nat, j ≤ N ∧ kv = .int .i64 j ∧ Hid (CoI op M w2.heap.size N j A B W0 wr)) (fun _ kv _ => N - (intOf kv).toNat)
  case atStart => exact ⟨0, Nat.zero_le _, by go_num, ezs N, hR0, length_ezs N, fun j hj => by omega, Below.refl _ _⟩
  case round =>
    obtain ⟨j, hj, rfl, H⟩ := hrel
    rcases Nat.lt_or_ge j N with hlt | hge
    · have hBw : Below w2.heap.size w2 wr := by
        obtain ⟨es', hR, hel, hev, hB⟩ := H.out
        exact hW0.trans hB
      go_wp2_with fail
      refine (entry_any (h2.below hBw) ha j (by omega)).mono ?_
      rintro r w3 ⟨e1, rfl, hv1, hb3⟩
      go_wp2_with fail
      refine (entry_any ((k2.below hBw).below hb3) hc j (by omega)).mono ?_
      rintro r w4 ⟨e2, rfl, hv2, hb4⟩
      go_wp2_with fail
      refine (HJ.out _ _ _ e1 e2 (hv1.below hb4) hv2).mono ?_
      rintro r w5 ⟨f, rfl, hO, hb5⟩
      have hb2' := bnext' (bnext' hb3 hb4) hb5
      obtain ⟨es', hR, hel, hev, hB⟩ := H.out
      have hR1 := hR.below hb2' hR.lt
      obtain ⟨d0, d1⟩ := hR1.cell j (by omega)
      have f0 := hR1.frozen (j * 2)
      have f1 := hR1.frozen (j * 2 + 1)
      have hsz : w2.heap.size + 1 ≤ w4.heap.size := by have h1 := hB.size; have h3 := hb3.size; have h4 := hb4.size; omega
      have HI : Hid (NV (w2.heap.size + 1) w5 M (op (gx A j) (gx B j)) f ∧ Row2 w5 w2.heap.size 24 es' ∧ es'.length = N ∧ (∀ i, i < j → NV (w2.heap.size + 1) w5 M (op (gx A i) (gx B i)) (ge es' i)) ∧ Below w2.heap.size W0 w5) := ⟨hO.mono hsz, hR1, hel, fun i hi => (hev i hi).below hb2', hB.trans (hb2'.mono (by have := hBw.size; omega))⟩
      clear hO hb3 hb4 hb5 hb2' hR hel hev hB hR1 hv1 hv2 H
      go_wp2
      go_roundw
      case rel =>
        obtain ⟨hO, hR, hel, hev, hB⟩ := HI.out
        refine ⟨j + 1, by omega, by go_num, es'.set j f, hR.set j f (by omega), by simpa using hel, fun i hi => ?_, ?_⟩
        · rcases Nat.lt_or_ge i j with h' | h'
          · rw [ge_set_other _ _ _ _ (by omega)]
            exact (hev i h').set2 (by omega) _ _
          · obtain rfl : i = j := by omega
            rw [ge_set_same _ _ _ (by omega)]
            exact hO.set2 (by omega) _ _
        · exact (hB.setCell (p := ⟨w2.heap.size, j * 2, none⟩) (Nat.le_refl _) _).setCell (p := ⟨w2.heap.size, j * 2 + 1, none⟩) (Nat.le_refl _) _
      case measure => simp [intOf]; omega
    · obtain rfl : j = N := by omega
      obtain ⟨es', hR, hel, hev, hB⟩ := H.out
      have hpl : (pz op A B).length = j := by rw [pz, List.length_map, List.length_range, HL.out.1, HL.out.2]; exact HN.out.symm
      have hgx : ∀ i, i < j → gx (pz op A B) i = op (gx A i) (gx B i) := fun i hi => by
        have hi' : i < (pz op A B).length := by omega
        rw [gx_mem _ _ hi']
        simp [pz]
      have hPA : PA wr M (some ⟨w2.heap.size, 0, none⟩) j j es' (pz op A B) := ⟨hel, hpl, Nat.le_refl _, by unfold maxLen; omega, fun e => by simp at e, hR.pl, fun i hi => by rw [hgx i hi]; exact (hev i hi).ev hM⟩
      have HI : Hid (Row2 wr w2.heap.size 24 es' ∧ es'.length = j ∧ (∀ i, i < j → NV (w2.heap.size + 1) wr M (gx (pz op A B) i) (ge es' i)) ∧ Below w2.heap.size w2 wr) := ⟨hR, hel, fun i hi => by rw [hgx i hi]; exact hev i hi, hW0.trans hB⟩
      have HP : Hid ((pz op A B).length = j) := hpl
      clear H hR hel hev hB hge hj hgx hpl
      go_wp2_with fail
      refine (utrim_any M _ _ _ es' (pz op A B) _ hPA (by omega)).mono ?_
      rintro e w3 ⟨rfl, hb3⟩
      clear hPA
      go_wp2
      go_ret
      obtain ⟨hR, hel, hev, hB⟩ := HI.out
      have htl := tlen_le (pz op A B)
      have hp := HP.out
      have hs2 := hb.size
      refine ⟨_, _, es'.take (tlen (pz op A B)), rfl, ⟨by simp; omega, length_tr _, tlen_tr _, (hR.below hb3 hR.lt).pl.take _, fun a ha => by cases ha; exact hs2, fun i hi => ?_⟩, bnext' hb (bnext' hB hb3)⟩
      rw [gx_tr, ge_take _ _ _ hi]
      exact ((hev i (by omega)).below hb3).mono (by omega)
theorem callAdd' (args : Array Value) (w' : World) : Sem.run Tryz.prog (callFunc 95 args) w' = .ok (.enter 95 args) w' := by
  have h1 : ¬ Tryz.f95.name = "runtime.NumGoroutine" := of_decide_eq_false (by kernel_rfl)
  have h2 : ¬ Tryz.f95.body = none := fun h => by cases h
  simp only [callFunc, Tryz.func95, go_sem]
  simp [h1, h2, go_sem]
theorem Add_ev {w : World} {K L : Nat} {x y : Int} {e f : Ent} (h : EV w K x e) (k : EV w L y f) : Calls Tryz.prog 95 #[.agg #[.bool e.s, .slice e.p e.n e.c], .agg #[.bool f.s, .slice f.p f.n f.c]] w fun r w' => ∃ u : Ent, r = .returned (.agg #[.bool u.s, .slice u.p u.n u.c]) ∧ NV w.heap.size w' (K + L + 1) (x + y) u ∧ Below w.heap.size w w' := by
  obtain ⟨xs, h1, rfl, h3⟩ := h
  obtain ⟨ys, k1, rfl, k3⟩ := k
  refine (Add_any e.s f.s e.p f.p e.n e.c f.n f.c xs ys w h1 k1).mono ?_
  rintro r w' ⟨s', p', n', zs, g1, g2, g3, g4⟩
  exact ⟨⟨s', p', n', n'⟩, g1, ⟨zs, g2, rfl, by show n' ≤ _; omega⟩, g4⟩
theorem uAdd_any {w : World} {K L : Nat} {p q : Option Addr} {n nc m mc : Nat} {es fs : List Ent} {zs ys : List Int} (h : PA w K p n nc es zs) (k : PA w L q m mc fs ys) (hn : n ≤ 1000000) (hm : m ≤ 1000000) (hM : K + L + 1 ≤ 1000) :
    Calls Tryz.prog 77 #[.slice p n nc, .slice q m mc] w (PnP (tr (pz (· + ·) (tr zs) (tr ys))) (K + L + 1) w) := by
  have hc := fun w' (h : PA w' K p n nc es zs) (k : PA w' L q m mc fs ys) => ucombine_any h k hn hm hM 95 callAdd' (· + ·) (fun w' x y e f h k => Add_ev h k)
  go_enter Tryz.func77, Tryz.ntmps77
  go_wp2_with fail
  refine (hc w h k).mono ?_
  rintro e w1 ⟨p1, n1, e1, rfl, h1, h2⟩
  clear hc
  go_wp2
  go_ret
  exact ⟨p1, n1, e1, rfl, h1, h2⟩
end Go.Proofs.YtifebbacnlhggaaGreatDoor
