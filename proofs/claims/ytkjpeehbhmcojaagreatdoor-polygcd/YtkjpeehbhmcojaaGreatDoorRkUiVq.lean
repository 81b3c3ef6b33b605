/-
  ashlarref1.Add.
-/
import Derived.Test.YtkjpeehbhmcojaaGreatDoorRmRpDkDlDbRiRjRg
import Derived.Test.YtkjpeehbhmcojaaGreatDoorUeUfUg
namespace Go.Proofs.YtkjpeehbhmcojaaGreatDoor
open Go.RowKit
set_option linter.unusedVariables false
set_option linter.unusedSimpArgs false
set_option maxHeartbeats 8000000
set_option maxRecDepth 100000 in
theorem rAdd_same (s : Bool) (p q : Option Addr) (n nc m mc : Nat) (xs ys : List Int) (w : World) (hn : xs.length = n) (hm : ys.length = m) (hnb : n ≤ 1000000) (hmb : m ≤ 1000000) (hX : Rd w p .i64 xs) (hXu : U16 xs) (hY : Rd w q .i64 ys) (hYu : U16 ys) :
    Calls Tryz.prog 28 #[.agg #[.bool s, .slice p n nc], .agg #[.bool s, .slice q m mc]] w (RAns (n + m + 1) (rval s xs + rval s ys) w) := by
  have hss : (s == s) = true := by simp
  have HN : Hid (xs.length = n ∧ ys.length = m) := ⟨hn, hm⟩
  clear hn hm
  go_enter Tryz.func28, Tryz.ntmps28
  go_wp2_with fail
  have hX3 := boxes3' w (.bool s) (.slice p n nc) (.bool s) (.slice q m mc) (.bool false) (.slice none 0 0) 50 50 50
  generalize ((w.alloc (Obj.cells #[Value.bool s, Value.slice p n nc] 50)).alloc (Obj.cells #[Value.bool s, Value.slice q m mc] 50)).alloc (Obj.cells #[Value.bool false, Value.slice none 0 0] 50) = W at *
  have hXW := hX.below hX3.below
  have hYW := hY.below hX3.below
  have k0 := hX3.ca0
  have k1 := hX3.ca1
  have k2 := hX3.cb0
  have k3 := hX3.cb1
  go_region_held3 (fun w' => w'.cell? ⟨w.heap.size, 0, none⟩ = some (.bool s) ∧ w'.cell? ⟨w.heap.size, 1, none⟩ = some (.slice p n nc) ∧ w'.cell? ⟨w.heap.size + 1, 0, none⟩ = some (.bool s) ∧ w'.cell? ⟨w.heap.size + 1, 1, none⟩ = some (.slice q m mc)) (first | exact ⟨by assumption, by assumption, by assumption, by assumption⟩ | exact keepc4 (by assumption) (by assumption) | (simp [go_sem, *]; done))
    (first
      | (go_at_call 67; obtain ⟨hn, hm⟩ := HN.out; refine (radd_any p q n nc m mc xs ys _ hn hm hnb hmb hXW.drew hXu hYW.drew hYu).mono ?_; clear hn hm; rintro e w1 ⟨q1, n1, c1, D, rfl, hl1, hc1, hc2, hR1, hU1, hv1, hn1, hF1, hb1⟩; have HV1 : Hid (D.length = n1 ∧ vd D = vd xs + vd ys) := ⟨hl1, hv1⟩; clear hl1 hv1)
      | (go_at_call 59; refine (rtrim_any s q1 n1 c1 D _ HV1.out.1 hc1 hc2 hR1).mono ?_; rintro e w2 ⟨rfl, hb2⟩; obtain ⟨c0', c1', f0, f1⟩ := resbox (bnext' (undrew hb1) hb2) hX3.cr0 hX3.cr1 hX3.fr0 hX3.fr1))
  go_wp2
  have hsz := hX3.size
  refine bodyPost_ret (v := .agg #[.bool (nsg s D), .slice q1 (tlen D) (tlen D)]) (by simp [results, Tryz.results28, go_sem, c0', c1']) rfl ?_
  exact end_rn2 hX3.below (r := w.heap.size + 1 + 1) (by omega) (by omega) (undrew hb1) hb2 hR1 hF1 hU1 (by have := HV1.out.1; omega) (by omega) (by rw [rval, HV1.out.2, rval, rval]; cases s <;> simp <;> omega)
set_option maxRecDepth 100000 in
theorem rAdd_ge (s : Bool) (p q : Option Addr) (n nc m mc : Nat) (xs ys : List Int) (w : World) (hn : xs.length = n) (hm : ys.length = m) (hnb : n ≤ 1000000) (hmb : m ≤ 1000000) (tx : tlen xs = n) (ty : tlen ys = m) (hX : Rd w p .i64 xs) (hXu : U16 xs) (hY : Rd w q .i64 ys) (hYu : U16 ys) (hge : vd ys ≤ vd xs) :
    Calls Tryz.prog 28 #[.agg #[.bool s, .slice p n nc], .agg #[.bool (!s), .slice q m mc]] w (RAns (n + m + 1) (rval s xs + rval (!s) ys) w) := by
  have hss : (s == !s) = false := by cases s <;> rfl
  have hic : 0 ≤ icmp (vd xs) (vd ys) := by
    rw [icmp, if_neg (by omega)]; split <;> decide
  have hmn : m ≤ n := by
    rcases Nat.lt_or_ge n m with h | h
    · have := vd_lt_len hXu hYu (by omega); omega
    · exact h
  have HN : Hid ((xs.length = n ∧ ys.length = m) ∧ tlen xs = n ∧ tlen ys = m) := ⟨⟨hn, hm⟩, tx, ty⟩
  clear hn hm tx ty
  go_enter Tryz.func28, Tryz.ntmps28
  go_wp2_with fail
  have hX0 := boxes3' w (.bool s) (.slice p n nc) (.bool (!s)) (.slice q m mc) (.bool false) (.slice none 0 0) 50 50 50
  generalize ((w.alloc (Obj.cells #[Value.bool s, Value.slice p n nc] 50)).alloc (Obj.cells #[Value.bool !s, Value.slice q m mc] 50)).alloc (Obj.cells #[Value.bool false, Value.slice none 0 0] 50) = W0 at *
  refine (rcmp_any p q n nc m mc xs ys _ HN.out.1.1 HN.out.1.2 (by omega) (by omega) HN.out.2.1 HN.out.2.2 (hX.below hX0.below) hXu (hY.below hX0.below) hYu).mono ?_
  rintro e W ⟨rfl, hb0⟩
  have hX3 := hX0.later hb0
  clear hX0 hb0 W0
  have hXW := hX.below hX3.below
  have hYW := hY.below hX3.below
  have k0 := hX3.ca0
  have k1 := hX3.ca1
  have k2 := hX3.cb0
  have k3 := hX3.cb1
  go_wp2_with fail
  go_region_held3 (fun w' => w'.cell? ⟨w.heap.size, 0, none⟩ = some (.bool s) ∧ w'.cell? ⟨w.heap.size, 1, none⟩ = some (.slice p n nc) ∧ w'.cell? ⟨w.heap.size + 1, 0, none⟩ = some (.bool (!s)) ∧ w'.cell? ⟨w.heap.size + 1, 1, none⟩ = some (.slice q m mc)) (first | exact ⟨by assumption, by assumption, by assumption, by assumption⟩ | exact keepc4 (by assumption) (by assumption) | (simp [go_sem, *]; done))
    (first
      | (go_at_call 69; obtain ⟨⟨hn, hm⟩, tx, ty⟩ := HN.out; refine (rsub_any p q n nc m mc xs ys _ hn hm hnb hmn hge hXW.drew hXu hYW.drew hYu).mono ?_; clear hn hm tx ty; rintro e w1 ⟨q1, n1, c1, D, rfl, hl1, hc1, hc2, hR1, hU1, hv1, hn1, hF1, hb1⟩; have HV1 : Hid (D.length = n1 ∧ vd D = vd xs - vd ys) := ⟨hl1, hv1⟩; clear hl1 hv1)
      | (go_at_call 59; refine (rtrim_any s q1 n1 c1 D _ HV1.out.1 hc1 hc2 hR1).mono ?_; rintro e w2 ⟨rfl, hb2⟩; obtain ⟨c0', c1', f0, f1⟩ := resbox (bnext' (undrew hb1) hb2) hX3.cr0 hX3.cr1 hX3.fr0 hX3.fr1))
  go_wp2
  have hsz := hX3.size
  refine bodyPost_ret (v := .agg #[.bool (nsg s D), .slice q1 (tlen D) (tlen D)]) (by simp [results, Tryz.results28, go_sem, c0', c1']) rfl ?_
  exact end_rn2 hX3.below (r := w.heap.size + 1 + 1) (by omega) (by omega) (undrew hb1) hb2 hR1 hF1 hU1 (by have := HV1.out.1; omega) (by omega) (by rw [rval, HV1.out.2, rval, rval]; cases s <;> simp <;> omega)
set_option maxRecDepth 100000 in
theorem rAdd_lt (s : Bool) (p q : Option Addr) (n nc m mc : Nat) (xs ys : List Int) (w : World) (hn : xs.length = n) (hm : ys.length = m) (hnb : n ≤ 1000000) (hmb : m ≤ 1000000) (tx : tlen xs = n) (ty : tlen ys = m) (hX : Rd w p .i64 xs) (hXu : U16 xs) (hY : Rd w q .i64 ys) (hYu : U16 ys) (hge : vd xs < vd ys) :
    Calls Tryz.prog 28 #[.agg #[.bool s, .slice p n nc], .agg #[.bool (!s), .slice q m mc]] w (RAns (n + m + 1) (rval s xs + rval (!s) ys) w) := by
  have hss : (s == !s) = false := by cases s <;> rfl
  have hic : ¬ 0 ≤ icmp (vd xs) (vd ys) := by
    rw [icmp_lt hge]; decide
  have hmn : n ≤ m := by
    rcases Nat.lt_or_ge m n with h | h
    · have := vd_lt_len hYu hXu (by omega); omega
    · exact h
  have HN : Hid ((xs.length = n ∧ ys.length = m) ∧ tlen xs = n ∧ tlen ys = m) := ⟨⟨hn, hm⟩, tx, ty⟩
  clear hn hm tx ty
  go_enter Tryz.func28, Tryz.ntmps28
  go_wp2_with fail
  have hX0 := boxes3' w (.bool s) (.slice p n nc) (.bool (!s)) (.slice q m mc) (.bool false) (.slice none 0 0) 50 50 50
  generalize ((w.alloc (Obj.cells #[Value.bool s, Value.slice p n nc] 50)).alloc (Obj.cells #[Value.bool !s, Value.slice q m mc] 50)).alloc (Obj.cells #[Value.bool false, Value.slice none 0 0] 50) = W0 at *
  refine (rcmp_any p q n nc m mc xs ys _ HN.out.1.1 HN.out.1.2 (by omega) (by omega) HN.out.2.1 HN.out.2.2 (hX.below hX0.below) hXu (hY.below hX0.below) hYu).mono ?_
  rintro e W ⟨rfl, hb0⟩
  have hX3 := hX0.later hb0
  clear hX0 hb0 W0
  have hXW := hX.below hX3.below
  have hYW := hY.below hX3.below
  have k0 := hX3.ca0
  have k1 := hX3.ca1
  have k2 := hX3.cb0
  have k3 := hX3.cb1
  go_wp2_with fail
  go_region_held3 (fun w' => w'.cell? ⟨w.heap.size, 0, none⟩ = some (.bool s) ∧ w'.cell? ⟨w.heap.size, 1, none⟩ = some (.slice p n nc) ∧ w'.cell? ⟨w.heap.size + 1, 0, none⟩ = some (.bool (!s)) ∧ w'.cell? ⟨w.heap.size + 1, 1, none⟩ = some (.slice q m mc)) (first | exact ⟨by assumption, by assumption, by assumption, by assumption⟩ | exact keepc4 (by assumption) (by assumption) | (simp [go_sem, *]; done))
    (first
      | (go_at_call 69; obtain ⟨⟨hn, hm⟩, tx, ty⟩ := HN.out; refine (rsub_any q p m mc n nc ys xs _ hm hn hmb hmn (by omega) hYW.drew hYu hXW.drew hXu).mono ?_; clear hn hm tx ty; rintro e w1 ⟨q1, n1, c1, D, rfl, hl1, hc1, hc2, hR1, hU1, hv1, hn1, hF1, hb1⟩; have HV1 : Hid (D.length = n1 ∧ vd D = vd ys - vd xs) := ⟨hl1, hv1⟩; clear hl1 hv1)
      | (go_at_call 59; refine (rtrim_any (!s) q1 n1 c1 D _ HV1.out.1 hc1 hc2 hR1).mono ?_; rintro e w2 ⟨rfl, hb2⟩; obtain ⟨c0', c1', f0, f1⟩ := resbox (bnext' (undrew hb1) hb2) hX3.cr0 hX3.cr1 hX3.fr0 hX3.fr1))
  go_wp2
  have hsz := hX3.size
  refine bodyPost_ret (v := .agg #[.bool (nsg (!s) D), .slice q1 (tlen D) (tlen D)]) (by simp [results, Tryz.results28, go_sem, c0', c1']) rfl ?_
  exact end_rn2 hX3.below (r := w.heap.size + 1 + 1) (by omega) (by omega) (undrew hb1) hb2 hR1 hF1 hU1 (by have := HV1.out.1; omega) (by omega) (by rw [rval, HV1.out.2, rval, rval]; cases s <;> simp <;> omega)
theorem rAdd_rn {w : World} {s t : Bool} {p q : Option Addr} {n m : Nat} {xs ys : List Int} (h : RN w s p n xs) (k : RN w t q m ys) (hn : n ≤ 1000000) (hm : m ≤ 1000000) :
    Calls Tryz.prog 28 #[.agg #[.bool s, .slice p n n], .agg #[.bool t, .slice q m m]] w (RAns (n + m + 1) (rval s xs + rval t ys) w) := by
  by_cases e : s = t
  · subst e; exact rAdd_same s p q n n m m xs ys w h.len k.len hn hm h.rd h.u k.rd k.u
  · have : t = !s := by cases s <;> cases t <;> simp_all
    subst this
    rcases Int.lt_or_le (vd xs) (vd ys) with hv | hv
    · exact rAdd_lt s p q n n m m xs ys w h.len k.len hn hm h.nrm k.nrm h.rd h.u k.rd k.u hv
    · exact rAdd_ge s p q n n m m xs ys w h.len k.len hn hm h.nrm k.nrm h.rd h.u k.rd k.u hv
theorem EV.set2 {w : World} {K : Nat} {z : Int} {e : Ent} {g o : Nat} {u v : Value} (h : EV w K z e) (ho : 0 < e.n → Off g e.p) : EV ((w.setCell ⟨g, o, none⟩ u).setCell ⟨g, o + 1, none⟩ v) K z e := by
  obtain ⟨xs, h1, h2⟩ := h
  refine ⟨xs, ⟨h1.len, h1.cap, h1.bnd, h1.sml, fun hx => ?_, h1.u⟩, h2⟩
  have := ho (by rw [h1.len] at hx; exact hx)
  exact ((h1.rd.set_other ⟨g, o, none⟩ u this).set_other ⟨g, o + 1, none⟩ v this) hx
theorem EV.ez (w : World) (K : Nat) : EV w K 0 ez := ⟨[], ⟨rfl, Nat.le_refl _, Nat.zero_le _, Nat.zero_le _, Rd.nil, fun j => by simp [gx]⟩, rfl, Nat.zero_le _⟩
set_option maxRecDepth 100000 in
theorem entry_any {w : World} {K : Nat} {p : Option Addr} {n nc : Nat} {es : List Ent} {zs : List Int} (h : PA w K p n nc es zs) (hn : n ≤ 1000000) (i : Nat) (hi : i ≤ 1000000) :
    Calls Tryz.prog 104 #[.slice p n nc, .int .i64 i] w fun r w' => ∃ f : Ent, r = .returned (.agg #[.bool f.s, .slice f.p f.n f.c]) ∧ EV w' K (gx zs i) f ∧ Below w.heap.size w w' := by
  have hel := h.el
  have hzl := h.zl
  have hal := bel_al (o := .cells #[.bool false, .slice none 0 0] 47) (Below.refl w.heap.size w)
  have hR0 : Bx (w.alloc (.cells #[.bool false, .slice none 0 0] 47)) w.heap.size (.bool false) (.slice none 0 0) := Bx.new _ _ _ rfl
  have hw := h.below hal
  rcases Nat.lt_or_ge i n with hlt | hge
  · obtain ⟨b, o, hp, hc⟩ := hw.pl (by omega)
    obtain ⟨b', o', hp', hc'⟩ := h.pl (by omega)
    rw [hp] at hp'
    cases hp'
    have sb : b < w.heap.size := block_lt_of_cell (hc' i (by omega)).1
    subst hp
    obtain ⟨c0, c1⟩ := hc i (by omega)
    have hv := hw.ev i hlt
    obtain ⟨r0, r1, f0, f1⟩ := hR0
    clear hc hc'
    go_enter Tryz.func104, Tryz.ntmps104
    go_wp2
    refine bodyPost_ret (v := .agg #[.bool (ge es i).s, .slice (ge es i).p (ge es i).n (ge es i).c]) (by simp [results, Tryz.results104, go_sem, r0, r1]) rfl ⟨ge es i, rfl, ?_, bel_al (Below.refl _ _)⟩
    exact (h.ev i hlt).below (bel_al (Below.refl _ _))
  · obtain ⟨r0, r1, f0, f1⟩ := hR0
    have hz : Hid (gx zs i = 0) := gx_past zs n (by omega) i hge
    go_enter Tryz.func104, Tryz.ntmps104
    go_wp2
    refine bodyPost_ret (v := .agg #[.bool false, .slice none 0 0]) (by simp [results, Tryz.results104, go_sem, r0, r1]) rfl ⟨ez, rfl, ?_, bel_al (Below.refl _ _)⟩
    rw [hz.out]
    exact EV.ez _ K
def CoI (op : Int → Int → Int) (K g n k : Nat) (zs ys : List Int) (W0 wr : World) : Prop :=
  ∃ es, Row2 wr g 47 es ∧ es.length = n ∧ (∀ j, j < k → NV (g + 1) wr K (op (gx zs j) (gx ys j)) (ge es j)) ∧ Below g W0 wr
def pz (op : Int → Int → Int) (zs ys : List Int) : List Int := (List.range (max zs.length ys.length)).map fun i => op (gx zs i) (gx ys i)
set_option maxRecDepth 100000 in
theorem ucombine_any {w : World} {K L M : Nat} {p q : Option Addr} {n nc m mc : Nat} {es fs : List Ent} {zs ys : List Int} (h : PA w K p n nc es zs) (k : PA w L q m mc fs ys) (hn : n ≤ 1000000) (hm : m ≤ 1000000) (hM : M ≤ 1000) (J : Nat) (hE : ∀ args w', Sem.run Tryz.prog (callFunc J args) w' = .ok (.enter J args) w') (op : Int → Int → Int)
    (hJ : ∀ w' x y e f, EV w' K x e → EV w' L y f → Calls Tryz.prog J #[.agg #[.bool e.s, .slice e.p e.n e.c], .agg #[.bool f.s, .slice f.p f.n f.c]] w' fun r w'' => ∃ u : Ent, r = .returned (.agg #[.bool u.s, .slice u.p u.n u.c]) ∧ NV w'.heap.size w'' M (op x y) u ∧ Below w'.heap.size w' w'') :
    Calls Tryz.prog 56 #[.slice p n nc, .slice q m mc, .func (.func J) #[] #[]] w (PnP (tr (pz op (tr zs) (tr ys))) M w) := by
  have htl := tlen_le zs
  have htl' := tlen_le ys
  have hzl := h.zl
  have hyl := k.zl
  have HJ := (show Hid _ from hJ)
  clear hJ
  go_enter Tryz.func56, Tryz.ntmps56
  go_wp2_with fail
  refine (utrim_any K p n nc es zs _ h hn).mono ?_
  rintro e w1 ⟨rfl, hb1⟩
  go_wp2_with fail
  refine (utrim_any L q m mc fs ys _ (k.below hb1) hm).mono ?_
  rintro e w2 ⟨rfl, hb2⟩
  have h2 := ((h.below hb1).below hb2).trim
  have k2 := ((k.below hb1).below hb2).trim
  have hb := bnext' hb1 hb2
  have HL : Hid ((tr zs).length = tlen zs ∧ (tr ys).length = tlen ys) := ⟨length_tr zs, length_tr ys⟩
  have ha : tlen zs ≤ 1000000 := by omega
  have hc : tlen ys ≤ 1000000 := by omega
  clear hb1 hb2 h k
  generalize tr zs = A at *
  generalize tr ys = B at *
  generalize tlen zs = a at *
  generalize tlen ys = b at *
  generalize es.take a = ea at *
  generalize fs.take b = eb at *
  clear htl htl' hzl hyl hn hm
  have hmx : Hid (∃ N : Nat, N = max a b ∧ max (a : Int) (b : Int) = (N : Int) ∧ N ≤ 1000000) := ⟨max a b, rfl, by omega, by omega⟩
  obtain ⟨N, hN1, hN2, hN3⟩ := hmx.out
  have hmk := mk_poly N (by omega)
  have HN : Hid (N = max a b) := hN1
  clear hmx hN1
  go_wp2_with fail
  have hR0 := Row2.new w2 47 (ezs N)
  have hW0 : Below w2.heap.size w2 (w2.alloc (.cells (ca2 (ezs N)) 47)) := (Below.refl _ _).alloc (Nat.le_refl _) _
  have hs0 : w2.heap.size + 1 ≤ (w2.alloc (.cells (ca2 (ezs N)) 47)).heap.size := by simp
  generalize w2.alloc (.cells (ca2 (ezs N)) 47) = W0 at *
  clear hmk
  go_loopw [8, 21] (fun iv kv wr => ∃ j : Nat, j ≤ N ∧ kv = .int .i64 j ∧ Hid (CoI op M w2.heap.size N j A B W0 wr)) (fun _ kv _ => N - (intOf kv).toNat)
  case atStart => exact ⟨0, Nat.zero_le _, by go_num, ezs N, hR0, length_ezs N, fun j hj => by omega, Below.refl _ _⟩
  case round =>
    obtain ⟨j, hj, rfl, H⟩ := hrel
    rcases Nat.lt_or_ge j N with hlt | hge
    · have hBw : Below w2.heap.size w2 wr := by
        obtain ⟨es', hR, hel, hev, hB⟩ := H.out
        exact hW0.trans hB
      go_wp2_with fail
      refine (entry_any (h2.below hBw) ha j (by omega)).mono ?_
      rintro r w3 ⟨e1, rfl, hv1, hb3⟩
      go_wp2_with fail
      refine (entry_any ((k2.below hBw).below hb3) hc j (by omega)).mono ?_
      rintro r w4 ⟨e2, rfl, hv2, hb4⟩
      go_wp2_with fail
      refine (HJ.out _ _ _ e1 e2 (hv1.below hb4) hv2).mono ?_
      rintro r w5 ⟨f, rfl, hO, hb5⟩
      have hb2' := bnext' (bnext' hb3 hb4) hb5
      obtain ⟨es', hR, hel, hev, hB⟩ := H.out
      have hR1 := hR.below hb2' hR.lt
      obtain ⟨d0, d1⟩ := hR1.cell j (by omega)
      have f0 := hR1.frozen (j * 2)
      have f1 := hR1.frozen (j * 2 + 1)
      have hsz : w2.heap.size + 1 ≤ w4.heap.size := by have h1 := hB.size; have h3 := hb3.size; have h4 := hb4.size; omega
      have HI : Hid (NV (w2.heap.size + 1) w5 M (op (gx A j) (gx B j)) f ∧ Row2 w5 w2.heap.size 47 es' ∧ es'.length = N ∧ (∀ i, i < j → NV (w2.heap.size + 1) w5 M (op (gx A i) (gx B i)) (ge es' i)) ∧ Below w2.heap.size W0 w5) := ⟨hO.mono hsz, hR1, hel, fun i hi => (hev i hi).below hb2', hB.trans (hb2'.mono (by have := hBw.size; omega))⟩
      clear hO hb3 hb4 hb5 hb2' hR hel hev hB hR1 hv1 hv2 H
      go_wp2
      go_roundw
      case rel =>
        obtain ⟨hO, hR, hel, hev, hB⟩ := HI.out
        refine ⟨j + 1, by omega, by go_num, es'.set j f, hR.set j f (by omega), by simpa using hel, fun i hi => ?_, ?_⟩
        · rcases Nat.lt_or_ge i j with h' | h'
          · rw [ge_set_other _ _ _ _ (by omega)]
            exact (hev i h').set2 (by omega) _ _
          · obtain rfl : i = j := by omega
            rw [ge_set_same _ _ _ (by omega)]
            exact hO.set2 (by omega) _ _
        · exact (hB.setCell (p := ⟨w2.heap.size, j * 2, none⟩) (Nat.le_refl _) _).setCell (p := ⟨w2.heap.size, j * 2 + 1, none⟩) (Nat.le_refl _) _
      case measure => simp [intOf]; omega
    · obtain rfl : j = N := by omega
      obtain ⟨es', hR, hel, hev, hB⟩ := H.out
      have hpl : (pz op A B).length = j := by rw [pz, List.length_map, List.length_range, HL.out.1, HL.out.2]; exact HN.out.symm
      have hgx : ∀ i, i < j → gx (pz op A B) i = op (gx A i) (gx B i) := fun i hi => by
        have hi' : i < (pz op A B).length := by omega
        rw [gx_mem _ _ hi']
        simp [pz]
      have hPA : PA wr M (some ⟨w2.heap.size, 0, none⟩) j j es' (pz op A B) := ⟨hel, hpl, Nat.le_refl _, by unfold maxLen; omega, fun e => by simp at e, hR.pl, fun i hi => by rw [hgx i hi]; exact (hev i hi).ev hM⟩
      have HI : Hid (Row2 wr w2.heap.size 47 es' ∧ es'.length = j ∧ (∀ i, i < j → NV (w2.heap.size + 1) wr M (gx (pz op A B) i) (ge es' i)) ∧ Below w2.heap.size w2 wr) := ⟨hR, hel, fun i hi => by rw [hgx i hi]; exact hev i hi, hW0.trans hB⟩
      have HP : Hid ((pz op A B).length = j) := hpl
      clear H hR hel hev hB hge hj hgx hpl
      go_wp2_with fail
      refine (utrim_any M _ _ _ es' (pz op A B) _ hPA (by omega)).mono ?_
      rintro e w3 ⟨rfl, hb3⟩
      clear hPA
      go_wp2
      go_ret
      obtain ⟨hR, hel, hev, hB⟩ := HI.out
      have htl := tlen_le (pz op A B)
      have hp := HP.out
      have hs2 := hb.size
      refine ⟨_, _, es'.take (tlen (pz op A B)), rfl, ⟨by simp; omega, length_tr _, tlen_tr _, (hR.below hb3 hR.lt).pl.take _, fun a ha => by cases ha; exact hs2, fun i hi => ?_⟩, bnext' hb (bnext' hB hb3)⟩
      rw [gx_tr, ge_take _ _ _ hi]
      exact ((hev i (by omega)).below hb3).mono (by omega)
theorem callAdd' (args : Array Value) (w' : World) : Sem.run Tryz.prog (callFunc 57 args) w' = .ok (.enter 57 args) w' := by
  have h1 : ¬ Tryz.f57.name = "runtime.NumGoroutine" := of_decide_eq_false (by kernel_rfl)
  have h2 : ¬ Tryz.f57.body = none := fun h => by cases h
  simp only [callFunc, Tryz.func57, go_sem]
  simp [h1, h2, go_sem]
theorem Add_ev {w : World} {K L : Nat} {x y : Int} {e f : Ent} (h : EV w K x e) (k : EV w L y f) : Calls Tryz.prog 57 #[.agg #[.bool e.s, .slice e.p e.n e.c], .agg #[.bool f.s, .slice f.p f.n f.c]] w fun r w' => ∃ u : Ent, r = .returned (.agg #[.bool u.s, .slice u.p u.n u.c]) ∧ NV w.heap.size w' (K + L + 1) (x + y) u ∧ Below w.heap.size w w' := by
  obtain ⟨xs, h1, rfl, h3⟩ := h
  obtain ⟨ys, k1, rfl, k3⟩ := k
  refine (Add_any e.s f.s e.p f.p e.n e.c f.n f.c xs ys w h1 k1).mono ?_
  rintro r w' ⟨s', p', n', zs, g1, g2, g3, g4⟩
  exact ⟨⟨s', p', n', n'⟩, g1, ⟨zs, g2, rfl, by show n' ≤ _; omega⟩, g4⟩
theorem uAdd_any {w : World} {K L : Nat} {p q : Option Addr} {n nc m mc : Nat} {es fs : List Ent} {zs ys : List Int} (h : PA w K p n nc es zs) (k : PA w L q m mc fs ys) (hn : n ≤ 1000000) (hm : m ≤ 1000000) (hM : K + L + 1 ≤ 1000) :
    Calls Tryz.prog 21 #[.slice p n nc, .slice q m mc] w (PnP (tr (pz (· + ·) (tr zs) (tr ys))) (K + L + 1) w) := by
  have hc := fun w' (h : PA w' K p n nc es zs) (k : PA w' L q m mc fs ys) => ucombine_any h k hn hm hM 57 callAdd' (· + ·) (fun w' x y e f h k => Add_ev h k)
  go_enter Tryz.func21, Tryz.ntmps21
  go_wp2_with fail
  refine (hc w h k).mono ?_
  rintro e w1 ⟨p1, n1, e1, rfl, h1, h2⟩
  clear hc
  go_wp2
  go_ret
  exact ⟨p1, n1, e1, rfl, h1, h2⟩
theorem RE.wide {w : World} {N M : Nat} {z : Int} {e : Ent} (h : RE w N z e) (hM : N ≤ M) : RE w M z e := by
  obtain ⟨⟨ds, h1, h2, h3⟩, h4⟩ := h
  exact ⟨⟨ds, h1, h2, by omega⟩, h4⟩
theorem rAdd_e {w : World} {N M : Nat} {x y : Int} {e f : Ent} (h : RE w N x e) (k : RE w M y f) (hN : N ≤ 1000) (hM : M ≤ 1000) :
    Calls Tryz.prog 28 #[.agg #[.bool e.s, .slice e.p e.n e.c], .agg #[.bool f.s, .slice f.p f.n f.c]] w fun r w' => ∃ u : Ent, r = .returned (.agg #[.bool u.s, .slice u.p u.n u.c]) ∧ RE w' (N + M + 1) (x + y) u ∧ Go.Proofs.YtkjpeehbhmcojaaGreatDoor.From w.heap.size u.p ∧ Below w.heap.size w w' := by
  obtain ⟨⟨xs, h1, rfl, h3⟩, h4⟩ := h
  obtain ⟨⟨ys, k1, rfl, k3⟩, k4⟩ := k
  rw [h4, k4]
  refine (rAdd_rn h1 k1 (by omega) (by omega)).mono ?_
  rintro e w1 ⟨s1, p1, n1, d1, rfl, hR1, hv1, hn1, hF1, hb1⟩
  exact ⟨⟨s1, p1, n1, n1⟩, rfl, ⟨⟨d1, hR1, hv1, by show n1 ≤ _; omega⟩, rfl⟩, hF1, hb1⟩
set_option maxRecDepth 100000 in
theorem rpAt_out {w : World} (p : Option Addr) (n nc : Nat) (i : Nat) (hi : n ≤ i) (hn : i ≤ 1000000) :
    Calls Tryz.prog 74 #[.slice p n nc, .int .i64 i] w fun r w' => ∃ u : Ent, r = .returned (.agg #[.bool u.s, .slice u.p u.n u.c]) ∧ RE w' 4 0 u ∧ Below w.heap.size w w' := by
  have hal := bel_al (o := .cells #[.bool false, .slice none 0 0] 50) (Below.refl w.heap.size w)
  have hX : Bx (w.alloc (.cells #[.bool false, .slice none 0 0] 50)) w.heap.size (.bool false) (.slice none 0 0) := Bx.new _ _ _ rfl
  have i2 : ¬ (i : Int) < 0 := by omega
  have i3 : (n : Int) ≤ (i : Int) := by omega
  go_enter Tryz.func74, Tryz.ntmps74
  go_upto_region 1 with fail
  generalize w.alloc (.cells #[.bool false, .slice none 0 0] 50) = W at *
  go_wp2_with fail
  refine (rOf_e 0 _ (by decide) (by decide)).mono ?_
  rintro e w1 ⟨u, rfl, hO, hF, hb1⟩
  obtain ⟨r0, r1, f0, f1⟩ := hX.later hb1
  have hlt : w.heap.size < W.heap.size := block_lt_of_cell hX.c0
  have hB := bnext' hal hb1
  go_wp2
  refine bodyPost_ret (v := .agg #[.bool u.s, .slice u.p u.n u.c]) (by simp [results, Tryz.results74, go_sem, r0, r1]) rfl ⟨u, rfl, ?_, bset2 hB (Nat.le_refl _) _ _⟩
  exact hO.set2 (fun _ a ha => by have := hF a ha; omega)
theorem rpAt_any {w : World} {N : Nat} {p : Option Addr} {n nc : Nat} {es : List Ent} {zs : List Int} (h : PR w N p n nc es zs) (i : Nat) (hi : i ≤ 1000000) (hn : n ≤ 1000000) (hN : 4 ≤ N) :
    Calls Tryz.prog 74 #[.slice p n nc, .int .i64 i] w fun r w' => ∃ u : Ent, r = .returned (.agg #[.bool u.s, .slice u.p u.n u.c]) ∧ RE w' N (gx zs i) u ∧ Below w.heap.size w w' := by
  rcases Nat.lt_or_ge i n with hlt | hge
  · refine (rpAt_in h i hlt hn).mono ?_
    rintro r w1 ⟨rfl, hb⟩
    exact ⟨ge es i, rfl, (h.ev i hlt).below hb, hb⟩
  · refine (rpAt_out p n nc i hge hi).mono ?_
    rintro r w1 ⟨u, rfl, hu, hb⟩
    rw [gx_past zs n (by rw [h.zl]; exact Nat.le_refl _) i hge]
    exact ⟨u, rfl, hu.wide hN, hb⟩
theorem length_pz (op : Int → Int → Int) (zs ys : List Int) : (pz op zs ys).length = max zs.length ys.length := by simp [pz]
theorem gx_pz' (op : Int → Int → Int) (zs ys : List Int) (j : Nat) (h : j < max zs.length ys.length) : gx (pz op zs ys) j = op (gx zs j) (gx ys j) := by
  rw [gx_mem _ _ (by rw [length_pz]; exact h)]
  simp [pz]
theorem fr_snoc {B k : Nat} {es : List Ent} {u : Ent} (hl : es.length = k) (h : ∀ j, j < k → 0 < (ge es j).n → Go.Proofs.YtkjpeehbhmcojaaGreatDoor.From B (ge es j).p) (hu : Go.Proofs.YtkjpeehbhmcojaaGreatDoor.From B u.p) (j : Nat) (hj : j < k + 1) (h0 : 0 < (ge (es ++ [u]) j).n) : Go.Proofs.YtkjpeehbhmcojaaGreatDoor.From B (ge (es ++ [u]) j).p := by
  rcases Nat.lt_or_ge j k with h1 | h1
  · rw [ge_append_left _ _ _ (by omega)] at h0 ⊢
    exact h j h1 h0
  · obtain rfl : j = es.length := by omega
    rw [ge_snoc]
    exact hu
set_option maxRecDepth 100000 in
theorem rpAdd_new {w : World} {N M : Nat} {p q : Option Addr} {n nc m mc : Nat} {es0 fs0 : List Ent} {zs ys : List Int} (h : PR w N p n nc es0 zs) (h' : PR w M q m mc fs0 ys) (hn : n ≤ 100000) (hm : m ≤ 100000) (hN : N ≤ 400) (hM : M ≤ 400) (hN4 : 4 ≤ N) (hM4 : 4 ≤ M) :
    Calls Tryz.prog 35 #[.slice p n nc, .slice q m mc] w (PrF (tr (pz (· + ·) zs ys)) (N + M + 1) w) := by
  obtain ⟨i0, hi, hzz⟩ := Option.map_eq_some_iff.1 info_ref
  simp only [Prod.mk.injEq] at hzz
  obtain ⟨hz0, hz1, hz2⟩ := hzz
  have HI : Hid (Tryz.prog.info? 50 = some i0 ∧ i0.zero = some (.agg #[.bool false, .slice none 0 0]) ∧ i0.size = 2 ∧ i0.bytes = 32) := ⟨hi, hz0, hz1, hz2⟩
  have HX : Hid (PR w N p n nc es0 zs ∧ PR w M q m mc fs0 ys) := ⟨h, h'⟩
  have hvl := length_pz (· + ·) zs ys
  have hvg := gx_pz' (· + ·) zs ys
  rw [h.zl, h'.zl] at hvl hvg
  generalize hvs : pz (· + ·) zs ys = vs at *
  have HVS : Hid ((∀ j, j < max n m → gx vs j = gx zs j + gx ys j) ∧ vs.length = max n m) := ⟨hvg, hvl⟩
  clear h h' hi hz0 hz1 hz2 hvs hvg hvl
  go_enter Tryz.func35, Tryz.ntmps35
  go_wp2_with fail
  go_loopw [5, 6] (fun sv iv wr => ∃ (k : Nat) (es : List Ent), (k ≤ n ∨ k ≤ m) ∧ iv = .int .i64 (k : Int) ∧ Hid (es.length = k ∧ LG w.heap.size 50 (fun w z e => RE w (N + M + 1) z e) wr sv es (vs.take k) ∧ Below w.heap.size w wr ∧ ∀ j, j < k → 0 < (ge es j).n → Go.Proofs.YtkjpeehbhmcojaaGreatDoor.From w.heap.size (ge es j).p)) (fun _ iv _ => max n m - (intOf iv).toNat)
  case atStart => exact ⟨0, [], .inl (Nat.zero_le _), by go_num, rfl, by rw [List.take_zero]; exact LG.nil _ _ _ _, Below.refl _ _, fun j hj => absurd hj (by omega)⟩
  case round =>
    obtain ⟨k, es, hk, rfl, H⟩ := hrel
    have hk3 : k ≤ 100000 := by omega
    by_cases hlt : k < n ∨ k < m
    · have H0 := H.out.2.2.1
      obtain ⟨hi, hz0, hz1, hz2⟩ := HI.out
      rcases Nat.lt_or_ge k n with hkn | hkn
      · have i1 : (k : Int) < (n : Int) := by omega
        go_wp2_with fail
        refine (rpAt_any (HX.out.1.below H0) k (by omega) (by omega) hN4).mono ?_
        rintro e w1 ⟨x1, rfl, hx1, hb1⟩
        have hB1 := bnext' H0 hb1
        go_wp2_with fail
        refine (rpAt_any (HX.out.2.below hB1) k (by omega) (by omega) hM4).mono ?_
        rintro e w2 ⟨x2, rfl, hx2, hb2⟩
        go_wp2_with fail
        refine (rAdd_e (hx1.below hb2) hx2 (by omega) (by omega)).mono ?_
        rintro e w3 ⟨u, rfl, hN1, hF1', hb3⟩
        have hB3 := bnext' (bnext' hb1 hb2) hb3
        have hF1 : Go.Proofs.YtkjpeehbhmcojaaGreatDoor.From wr.heap.size u.p := fun a ha => Nat.le_trans (bnext' hb1 hb2).size (hF1' a ha)
        have HN1 : Hid (RE w3 (N + M + 1) (gx zs k + gx ys k) u) := hN1
        have hown0 := own_below H.out.2.1.own hB3
        rw [H.out.1] at hown0
        have HO : Hid (w3.ownsRow w.heap.size 50 2 u5 k (fl es)) := hown0
        have hsz : w.heap.size ≤ w3.heap.size := Nat.le_trans H0.size hB3.size
        clear hown0 hN1 hx1 hx2 hb1 hb2 hb3 hB1 hF1'
        go_wp2_with (refine wpList_append_lies _ rfl _ _ 27 rfl w.heap.size 50 i0 (.agg #[.bool false, .slice none 0 0]) 2 32 Tryz.underlying27 hi hz0 hz1 hz2 rfl (by decide) u5 k (fl es) rfl (HO.out.alloc _) ⟨w3.heap.size, 0, none⟩ 1 1 [.bool u.s, .slice u.p u.n u.c] rfl rfl ?_ (fun x hx => by simp at hx; rcases hx with rfl | rfl <;> rfl) (by decide) (by unfold maxLen; omega) (by omega) (by simp; omega) _ rfl ?_; exact World.news_of_block (heap_alloc_new w3 _); intro g cap w4 hown3 hgrow3 hat3 hlt3; have hB4 : Below w.heap.size w w4 := ((bnext' H0 hB3).alloc hsz _).grown hgrow3 (by simp; omega) (fun q hq => (HO.out.lt q hq).1); have HA : Hid (LG w.heap.size 50 (fun w z e => RE w (N + M + 1) z e) w4 (.slice (some ⟨g, 0, none⟩) (k + 1) cap) (es ++ [u]) (vs.take k ++ [gx zs k + gx ys k])) := LG.app (lasts_RE _) H.out.1 H.out.2.1 hB3 HN1.out (fun h0 a ha => .inr (hF1 a ha)) hown3 hgrow3 hat3; clear hown3 hgrow3 hat3)
        refine ⟨⟨k + 1, es ++ [u], by omega, by go_num, by have := H.out.1; simp; omega, ?_, hB4, ?_⟩, by simp [intOf]; omega⟩
        · have hvl := HVS.out.2
          rw [take_snocg vs k (by omega), HVS.out.1 k (by omega)]
          exact HA.out
        · exact fun j hj h0 => fr_snoc H.out.1 H.out.2.2.2 (fun a ha => Nat.le_trans H0.size (hF1 a ha)) j hj h0
      · have i1 : ¬ (k : Int) < (n : Int) := by omega
        have i2 : (k : Int) < (m : Int) := by omega
        go_wp2_with fail
        refine (rpAt_any (HX.out.1.below H0) k (by omega) (by omega) hN4).mono ?_
        rintro e w1 ⟨x1, rfl, hx1, hb1⟩
        have hB1 := bnext' H0 hb1
        go_wp2_with fail
        refine (rpAt_any (HX.out.2.below hB1) k (by omega) (by omega) hM4).mono ?_
        rintro e w2 ⟨x2, rfl, hx2, hb2⟩
        go_wp2_with fail
        refine (rAdd_e (hx1.below hb2) hx2 (by omega) (by omega)).mono ?_
        rintro e w3 ⟨u, rfl, hN1, hF1', hb3⟩
        have hB3 := bnext' (bnext' hb1 hb2) hb3
        have hF1 : Go.Proofs.YtkjpeehbhmcojaaGreatDoor.From wr.heap.size u.p := fun a ha => Nat.le_trans (bnext' hb1 hb2).size (hF1' a ha)
        have HN1 : Hid (RE w3 (N + M + 1) (gx zs k + gx ys k) u) := hN1
        have hown0 := own_below H.out.2.1.own hB3
        rw [H.out.1] at hown0
        have HO : Hid (w3.ownsRow w.heap.size 50 2 u5 k (fl es)) := hown0
        have hsz : w.heap.size ≤ w3.heap.size := Nat.le_trans H0.size hB3.size
        clear hown0 hN1 hx1 hx2 hb1 hb2 hb3 hB1 hF1'
        go_wp2_with (refine wpList_append_lies _ rfl _ _ 27 rfl w.heap.size 50 i0 (.agg #[.bool false, .slice none 0 0]) 2 32 Tryz.underlying27 hi hz0 hz1 hz2 rfl (by decide) u5 k (fl es) rfl (HO.out.alloc _) ⟨w3.heap.size, 0, none⟩ 1 1 [.bool u.s, .slice u.p u.n u.c] rfl rfl ?_ (fun x hx => by simp at hx; rcases hx with rfl | rfl <;> rfl) (by decide) (by unfold maxLen; omega) (by omega) (by simp; omega) _ rfl ?_; exact World.news_of_block (heap_alloc_new w3 _); intro g cap w4 hown3 hgrow3 hat3 hlt3; have hB4 : Below w.heap.size w w4 := ((bnext' H0 hB3).alloc hsz _).grown hgrow3 (by simp; omega) (fun q hq => (HO.out.lt q hq).1); have HA : Hid (LG w.heap.size 50 (fun w z e => RE w (N + M + 1) z e) w4 (.slice (some ⟨g, 0, none⟩) (k + 1) cap) (es ++ [u]) (vs.take k ++ [gx zs k + gx ys k])) := LG.app (lasts_RE _) H.out.1 H.out.2.1 hB3 HN1.out (fun h0 a ha => .inr (hF1 a ha)) hown3 hgrow3 hat3; clear hown3 hgrow3 hat3)
        refine ⟨⟨k + 1, es ++ [u], by omega, by go_num, by have := H.out.1; simp; omega, ?_, hB4, ?_⟩, by simp [intOf]; omega⟩
        · have hvl := HVS.out.2
          rw [take_snocg vs k (by omega), HVS.out.1 k (by omega)]
          exact HA.out
        · exact fun j hj h0 => fr_snoc H.out.1 H.out.2.2.2 (fun a ha => Nat.le_trans H0.size (hF1 a ha)) j hj h0
    · obtain ⟨hel, hLR, hB, hfr⟩ := H.out
      have hvl := HVS.out.2
      rw [List.take_of_length_le (by omega)] at hLR
      obtain ⟨r, cap, hv, hPR, hF⟩ := hLR.pr
      subst hv
      rw [hel] at hPR ⊢
      have HB : Hid (Below w.heap.size w wr) := hB
      have HF : Hid (∀ j, j < k → 0 < (ge es j).n → Go.Proofs.YtkjpeehbhmcojaaGreatDoor.From w.heap.size (ge es j).p) := hfr
      have i1 : ¬ (k : Int) < (n : Int) := by omega
      have i2 : ¬ (k : Int) < (m : Int) := by omega
      clear H hLR hB hk hvl hfr
      go_wp2_with fail
      refine (rTrim_any (N + M + 1) r k cap es vs _ hPR (by omega)).mono ?_
      rintro e w1 ⟨rfl, hb1⟩
      have HP : Hid (PR wr (N + M + 1) r k cap es vs) := hPR
      clear hPR
      go_wp2
      go_ret
      have htl := tlen_le vs
      have hcap := HP.out.cap
      have hvk := HP.out.zl
      have hT := (HP.out.below hb1).take (tlen vs) (tlen vs) (by omega) (Nat.le_refl _) (by omega)
      refine ⟨r, tlen vs, es.take (tlen vs), rfl, hT, hF, tlen_tr vs, fun j hj h0 => ?_, bnext' HB.out hb1⟩
      rw [ge_take _ _ _ hj] at h0 ⊢
      exact HF.out j (by omega) h0
theorem rpAdd_any {w : World} {N M : Nat} {p q : Option Addr} {n nc m mc : Nat} {es0 fs0 : List Ent} {zs ys : List Int} (h : PR w N p n nc es0 zs) (h' : PR w M q m mc fs0 ys) (hn : n ≤ 100000) (hm : m ≤ 100000) (hN : N ≤ 400) (hM : M ≤ 400) (hN4 : 4 ≤ N) (hM4 : 4 ≤ M) :
    Calls Tryz.prog 35 #[.slice p n nc, .slice q m mc] w (PrP (tr (pz (· + ·) zs ys)) (N + M + 1) w) :=
  (rpAdd_new h h' hn hm hN hM hN4 hM4).mono fun _ _ h => h.any
end Go.Proofs.YtkjpeehbhmcojaaGreatDoor
