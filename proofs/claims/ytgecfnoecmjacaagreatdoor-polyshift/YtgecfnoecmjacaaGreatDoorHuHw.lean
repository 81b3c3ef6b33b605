/-
  Plain facts on p(x + a): Horner's scheme, round by round, against composition.
-/
import Derived.Test.YtgecfnoecmjacaaGreatDoorHgVrPm
import Derived.Test.YtgecfnoecmjacaaGreatDoorRkUgUi
namespace Go.Proofs.YtgecfnoecmjacaaGreatDoor
open Go.RowKit
set_option linter.unusedVariables false
set_option linter.unusedSimpArgs false

/-- The entries of p(x + a), as composition makes them. -/
def co (a : Int) : List Int → Nat → Int
  | [], _ => 0
  | c :: cs, 0 => c + a * co a cs 0
  | c :: cs, j + 1 => co a cs j + a * co a cs (j + 1)
/-- A round of Horner's scheme. -/
def hor (a : Int) : List Int → List Int
  | [] => []
  | c :: cs => (c + a * gx (hor a cs) 0) :: hor a cs
theorem length_hor (a : Int) : ∀ zs, (hor a zs).length = zs.length
  | [] => rfl
  | c :: cs => by simp [hor, length_hor a cs]
theorem gx_cons_zero (c : Int) (cs : List Int) : gx (c :: cs) 0 = c := by simp [gx]
theorem gx_cons_succ (c : Int) (cs : List Int) (j : Nat) : gx (c :: cs) (j + 1) = gx cs j := by simp [gx]
theorem gx_hor (a : Int) : ∀ (zs : List Int) (j : Nat), gx (hor a zs) j = gx zs j + a * gx (hor a zs) (j + 1)
  | [], j => by simp [hor, gx]
  | c :: cs, 0 => by rw [hor, gx_cons_zero, gx_cons_zero, gx_cons_succ]
  | c :: cs, j + 1 => by rw [hor, gx_cons_succ, gx_cons_succ, gx_cons_succ]; exact gx_hor a cs j
/-- The rest of a round is the value, and the quotient goes on. -/
theorem co_hor (a : Int) : ∀ (cs : List Int) (c : Int), (∀ j, co a (c :: cs) (j + 1) = co a (hor a cs) j) ∧ co a (c :: cs) 0 = c + a * gx (hor a cs) 0
  | [], c => ⟨fun j => by simp [co, hor], by simp [co, hor, gx]⟩
  | d :: ds, c => by
    obtain ⟨h1, h2⟩ := co_hor a ds d
    have h0 : co a (d :: ds) 0 = gx (hor a (d :: ds)) 0 := by rw [h2, hor, gx_cons_zero]
    refine ⟨fun j => ?_, by rw [co, h0]⟩
    have e : co a (c :: d :: ds) (j + 1) = co a (d :: ds) j + a * co a (d :: ds) (j + 1) := rfl
    rw [e, h1, hor]
    cases j with
    | zero => rw [h2]; rfl
    | succ j => rw [h1]; rfl
/-- The entries behind i rounds. -/
def shr (a : Int) : Nat → List Int → List Int
  | 0, zs => zs
  | i + 1, zs => (shr a i zs).take i ++ hor a ((shr a i zs).drop i)
theorem length_shr (a : Int) (zs : List Int) : ∀ i, (shr a i zs).length = zs.length
  | 0 => rfl
  | i + 1 => by rw [shr, List.length_append, length_hor, List.length_take, List.length_drop, length_shr a zs i]; omega
theorem gx_app_lo (xs ys : List Int) (j : Nat) (h : j < xs.length) : gx (xs ++ ys) j = gx xs j := by simp [gx, List.getElem?_append_left h]
theorem gx_app_hi (xs ys : List Int) (j : Nat) : gx (xs ++ ys) (xs.length + j) = gx ys j := by
  simp [gx, List.getElem?_append_right]
theorem drop_app (xs ys : List Int) : (xs ++ ys).drop xs.length = ys := by simp
/-- Behind i rounds: the first i entries are done, the rest is the quotient. -/
theorem co_shr (a : Int) (zs : List Int) : ∀ i, i ≤ zs.length → (∀ j, j < i → gx (shr a i zs) j = co a zs j) ∧ (∀ j, co a ((shr a i zs).drop i) j = co a zs (i + j))
  | 0, _ => ⟨fun j hj => by omega, fun j => by rw [shr, List.drop_zero, Nat.zero_add]⟩
  | i + 1, h => by
    obtain ⟨h1, h2⟩ := co_shr a zs i (by omega)
    have hl := length_shr a zs i
    have hlt : ((shr a i zs).take i).length = i := by rw [List.length_take, hl]; omega
    obtain ⟨c, cs, hc⟩ : ∃ c cs, (shr a i zs).drop i = c :: cs := by
      cases hd : (shr a i zs).drop i with
      | nil => have := congrArg List.length hd; rw [List.length_drop, hl, List.length_nil] at this; omega
      | cons c cs => exact ⟨c, cs, rfl⟩
    obtain ⟨g1, g2⟩ := co_hor a cs c
    have hdrop : (shr a (i + 1) zs).drop (i + 1) = hor a cs := by
      rw [shr, hc, hor, List.drop_append, hlt, List.drop_eq_nil_of_le (by rw [hlt]; omega)]
      simp
    refine ⟨fun j hj => ?_, fun j => ?_⟩
    · rw [shr]
      rcases Nat.lt_or_ge j i with h3 | h3
      · rw [gx_app_lo _ _ _ (by omega), gx_take _ _ _ h3]
        exact h1 j h3
      · obtain rfl : j = i := by omega
        have h4 := gx_app_hi ((shr a j zs).take j) (hor a ((shr a j zs).drop j)) 0
        rw [hlt, Nat.add_zero] at h4
        rw [h4, hc, hor, gx_cons_zero, ← g2, ← hc, h2]
        rfl
    · rw [hdrop, ← g1, ← hc, h2]
      congr 1
      omega
/-- All rounds make p(x + a). -/
theorem gx_shr_all (a : Int) (zs : List Int) (j : Nat) : gx (shr a zs.length zs) j = co a zs j := by
  obtain ⟨h1, h2⟩ := co_shr a zs zs.length (Nat.le_refl _)
  rcases Nat.lt_or_ge j zs.length with h | h
  · exact h1 j h
  · have h3 := h2 (j - zs.length)
    rw [List.drop_eq_nil_of_le (by rw [length_shr]; exact Nat.le_refl _), show zs.length + (j - zs.length) = j by omega] at h3
    rw [gx_past _ zs.length (by rw [length_shr]; exact Nat.le_refl _) j h, ← h3]
    rfl
theorem co_zero : ∀ (zs : List Int) (j : Nat), co 0 zs j = gx zs j
  | [], j => by simp [co, gx]
  | c :: cs, 0 => by rw [co, gx_cons_zero]; omega
  | c :: cs, j + 1 => by rw [co, gx_cons_succ, co_zero cs j]; omega
theorem co_past (a : Int) : ∀ (zs : List Int) (j : Nat), zs.length ≤ j → co a zs j = 0
  | [], _, _ => rfl
  | c :: cs, 0, h => by simp at h
  | c :: cs, j + 1, h => by
    simp only [List.length_cons] at h
    rw [co, co_past a cs j (by omega), co_past a cs (j + 1) (by omega)]
    omega
theorem co_top (a : Int) : ∀ (cs : List Int) (c : Int), co a (c :: cs) cs.length = gx (c :: cs) cs.length
  | [], c => by rw [List.length_nil, co, gx_cons_zero]; simp [co]
  | d :: ds, c => by
    rw [List.length_cons, co, gx_cons_succ, co_top a ds d, co_past a (d :: ds) (ds.length + 1) (by simp)]
    omega
end Go.Proofs.YtgecfnoecmjacaaGreatDoor
/-
  upoly.each and Norm, with where the list lies.
-/
namespace Go.Proofs.YtgecfnoecmjacaaGreatDoor
open Go.RowKit
set_option linter.unusedVariables false
set_option linter.unusedSimpArgs false

set_option maxHeartbeats 2000000 in
set_option maxRecDepth 100000 in
/-- upoly.each. -/
theorem each_row (K : Nat) (p : Option Addr) (n nc : Nat) (es : List Ent) (zs : List Int) (w : World) (h : PA w K p n nc es zs) (hn : n ≤ 1000000) (J : Nat) (C : Array Value) (hE : ∀ args w', Sem.run Tryz.prog (callFunc J args) w' = .ok (.enter J args) w')
    (O : World → Int → Ent → Prop) (φ : Int → Int) (hOb : ∀ w w' z e, O w z e → Below w.heap.size w w' → O w' z e) (hOs : ∀ w z e g o u v, O w z e → (0 < e.n → Off g e.p) → O ((w.setCell ⟨g, o, none⟩ u).setCell ⟨g, o + 1, none⟩ v) z e)
    (hJ : ∀ w' z e, Below w.heap.size w w' → EV w' K z e → Calls Tryz.prog J (#[.agg #[.bool e.s, .slice e.p e.n e.c]] ++ C) w' fun r w'' => ∃ f : Ent, r = .returned (.agg #[.bool f.s, .slice f.p f.n f.c]) ∧ O w'' (φ z) f ∧ (0 < f.n → f.p = e.p ∧ f.n ≤ e.n ∨ Go.Proofs.YtgecfnoecmjacaaGreatDoor.From w'.heap.size f.p) ∧ Below w'.heap.size w' w'') :
    Calls Tryz.prog 67 #[.slice p n nc, .func (.func J) #[] C] w fun r w' => ∃ q fs, r = .returned (.slice q n n) ∧ fs.length = n ∧ PL w' q fs ∧ Go.Proofs.YtgecfnoecmjacaaGreatDoor.From w.heap.size q ∧ (∀ j, j < n → O w' (φ (gx zs j)) (ge fs j)) ∧ Below w.heap.size w w' ∧ q = some ⟨w.heap.size, 0, none⟩ ∧ Row2 w' w.heap.size 26 fs ∧ (∀ j, j < n → 0 < (ge fs j).n → Off w.heap.size (ge fs j).p) := by
  have hmk := mk_poly n (by omega)
  have hle := h.el
  have HOb := (show Hid _ from hOb)
  have HOs := (show Hid _ from hOs)
  have HJ := (show Hid _ from hJ)
  clear hOb hOs hJ
  go_enter Tryz.func67, Tryz.ntmps67
  go_wp2_with fail
  have hR0 := Row2.new w 26 (ezs n)
  have hW0 : Below w.heap.size w (w.alloc (.cells (ca2 (ezs n)) 26)) := (Below.refl _ _).alloc (Nat.le_refl _) _
  have hs0 : w.heap.size + 1 ≤ (w.alloc (.cells (ca2 (ezs n)) 26)).heap.size := by simp
  generalize w.alloc (.cells (ca2 (ezs n)) 26) = W0 at *
  clear hmk
  go_loopw [6, 7, 13] (fun iv cv kv wr => ∃ k : Nat, k ≤ n ∧ kv = .int .i64 k ∧ Hid (EaI O φ w.heap.size n k zs W0 wr)) (fun _ _ kv _ => n - (intOf kv).toNat)
  case atStart => exact ⟨0, Nat.zero_le _, by go_num, ezs n, hR0, length_ezs n, fun j hj => by omega, Below.refl _ _⟩
  case round =>
    obtain ⟨k, hk, rfl, H⟩ := hrel
    rcases Nat.lt_or_ge k n with hlt | hge
    · obtain ⟨es', hR, hel, hev, hB⟩ := H.out
      have hBw : Below w.heap.size w wr := hW0.trans hB
      have hPA := h.below hBw
      obtain ⟨b, o, hp, hc⟩ := hPA.pl (by omega)
      subst hp
      obtain ⟨c0, c1⟩ := hc k (by omega)
      have hv := hPA.ev k hlt
      have HH : Hid (EaI O φ w.heap.size n k zs W0 wr) := H.out
      clear H hR hel hev hB hc hPA
      go_wp2_with fail
      have hal := bel_al (o := .cells #[.bool (ge es k).s, .slice (ge es k).p (ge es k).n (ge es k).c] 26) (Below.refl wr.heap.size wr)
      refine (HJ.out _ (gx zs k) (ge es k) (bnext hBw (Nat.le_refl _) hal) (hv.below hal)).mono ?_
      rintro e w1 ⟨f, rfl, hO, hF, hb1⟩
      have hb2 := bnext' hal hb1
      obtain ⟨es', hR, hel, hev, hB⟩ := HH.out
      have hR1 := hR.below hb2 hR.lt
      obtain ⟨d0, d1⟩ := hR1.cell k (by omega)
      have f0 := hR1.frozen (k * 2)
      have f1 := hR1.frozen (k * 2 + 1)
      have hoff : Hid (0 < f.n → Off w.heap.size f.p) := fun h0 => by
        rcases hF h0 with ⟨e1, e2⟩ | e1
        · rw [e1]
          obtain ⟨xs, k1, -⟩ := h.ev k hlt
          exact k1.rd.off (Nat.le_refl _) (by rw [k1.len]; omega)
        · have hs1 := hB.size
          have hs2 := hal.size
          exact off_from e1 (by omega)
      have HI : Hid (O w1 (φ (gx zs k)) f ∧ Row2 w1 w.heap.size 26 es' ∧ es'.length = n ∧ (∀ j, j < k → O w1 (φ (gx zs j)) (ge es' j) ∧ (0 < (ge es' j).n → Off w.heap.size (ge es' j).p)) ∧ Below w.heap.size W0 w1) := ⟨hO, hR1, hel, fun j hj => ⟨HOb.out _ _ _ _ (hev j hj).1 hb2, (hev j hj).2⟩, hB.trans (hb2.mono (by have := hBw.size; omega))⟩
      clear hO hF hb1 hb2 hR hel hev hB hR1 hal hv c0 c1 HH
      go_wp2
      go_roundw
      case rel =>
        obtain ⟨hO, hR, hel, hev, hB⟩ := HI.out
        refine ⟨k + 1, by omega, by go_num, es'.set k f, hR.set k f (by omega), by simpa using hel, fun j hj => ?_, ?_⟩
        · rcases Nat.lt_or_ge j k with h' | h'
          · rw [ge_set_other _ _ _ _ (by omega)]
            exact ⟨HOs.out _ _ _ _ _ _ _ (hev j h').1 (hev j h').2, (hev j h').2⟩
          · obtain rfl : j = k := by omega
            rw [ge_set_same _ _ _ (by omega)]
            exact ⟨HOs.out _ _ _ _ _ _ _ hO hoff.out, hoff.out⟩
        · exact (hB.setCell (p := ⟨w.heap.size, k * 2, none⟩) (Nat.le_refl _) _).setCell (p := ⟨w.heap.size, k * 2 + 1, none⟩) (Nat.le_refl _) _
      case measure => simp [intOf]; omega
    · obtain rfl : k = n := by omega
      obtain ⟨es', hR, hel, hev, hB⟩ := H.out
      have HI : Hid (Row2 wr w.heap.size 26 es' ∧ es'.length = k ∧ (∀ j, j < k → O wr (φ (gx zs j)) (ge es' j) ∧ (0 < (ge es' j).n → Off w.heap.size (ge es' j).p)) ∧ Below w.heap.size w wr) := ⟨hR, hel, hev, hW0.trans hB⟩
      clear H hR hel hev hB hge hk
      go_wp2
      go_ret
      obtain ⟨hR, hel, hev, hB⟩ := HI.out
      exact ⟨_, es', rfl, hel, hR.pl, fun a ha => by cases ha; exact Nat.le_refl _, fun j hj => (hev j hj).1, hB, rfl, hR, fun j hj => (hev j hj).2⟩
set_option maxHeartbeats 2000000 in
set_option maxRecDepth 100000 in
/-- upoly.Norm, and where its list lies. -/
theorem uNorm_row (K : Nat) (p : Option Addr) (n nc : Nat) (es : List Ent) (zs : List Int) (w : World) (h : PA w K p n nc es zs) (hn : n ≤ 1000000) (hK : K ≤ 1000) :
    Calls Tryz.prog 25 #[.slice p n nc] w fun r w' => ∃ (g : Nat) (fs : List Ent), r = .returned (.slice (some ⟨g, 0, none⟩) (tlen zs) (tlen zs)) ∧ w.heap.size ≤ g ∧ Row2 w' g 26 fs ∧ fs.length = tlen zs ∧ (∀ j, j < tlen zs → NV w.heap.size w' K (gx (tr zs) j) (ge fs j) ∧ (0 < (ge fs j).n → Off g (ge fs j).p)) ∧ Below w.heap.size w w' := by
  have htl := tlen_le zs
  have hzl := h.zl
  go_enter Tryz.func25, Tryz.ntmps25
  go_wp2_with fail
  refine (utrim_any K p n nc es zs _ h hn).mono ?_
  rintro e w1 ⟨rfl, hb1⟩
  have h1 := (h.below hb1).trim
  have he := each_row K _ _ _ _ _ w1 h1 (by omega) 72 #[] callOwn (fun w z e => NV w1.heap.size w K z e) id (fun _ _ _ _ h hb => h.below hb) (fun _ _ _ _ _ _ _ h ho => h.set2o ho) (fun w' z e hb hv => (own_any hv hK).mono fun r w'' ⟨f, a, b, c⟩ => ⟨f, a, b.mono hb.size, fun _ => .inr (by obtain ⟨xs, k, -⟩ := b; exact k.fr), c⟩)
  go_wp2_with fail
  refine he.mono ?_
  rintro e w2 ⟨q, fs, rfl, k1, k2, k3, k4, hb2, rfl, k5, k6⟩
  clear he
  go_wp2
  go_ret
  have hs := hb1.size
  exact ⟨w1.heap.size, fs, rfl, hs, k5, k1, fun j hj => ⟨(k4 j hj).mono hs, k6 j hj⟩, bnext' hb1 hb2⟩
end Go.Proofs.YtgecfnoecmjacaaGreatDoor
