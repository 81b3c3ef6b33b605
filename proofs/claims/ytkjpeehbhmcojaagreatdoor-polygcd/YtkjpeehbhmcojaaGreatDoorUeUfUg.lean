/-
  upoly.bare, own.
-/
import Derived.Test.YtkjpeehbhmcojaaGreatDoorBbCvNjUbUcUdOwRaWmBe
import Derived.Test.YtkjpeehbhmcojaaGreatDoorRdLnWrIbWg
import Derived.StillTailTactics
namespace Go.Proofs.YtkjpeehbhmcojaaGreatDoor
open Go.RowKit
set_option linter.unusedVariables false
set_option linter.unusedSimpArgs false
set_option maxHeartbeats 8000000
def EN (w : World) (K : Nat) (z : Int) (e : Ent) : Prop := ∃ xs, AI w e.p e.n e.c xs ∧ ival e.s xs = z ∧ tlen xs = e.n ∧ (e.n = 0 → e.s = false) ∧ e.n ≤ K
theorem EN.ev {w : World} {K : Nat} {z : Int} {e : Ent} (h : EN w K z e) : EV w K z e := by
  obtain ⟨xs, h1, h2, h3, h4, h5⟩ := h
  exact ⟨xs, h1, h2, h5⟩
theorem EN.below {w w' : World} {K : Nat} {z : Int} {e : Ent} (h : EN w K z e) (hb : Below w.heap.size w w') : EN w' K z e := by
  obtain ⟨xs, h1, h2⟩ := h
  exact ⟨xs, h1.below hb, h2⟩
theorem NV.en {B : Nat} {w : World} {K : Nat} {z : Int} {e : Ent} (h : NV B w K z e) (hK : K ≤ 1000) : EN w K z e := by
  obtain ⟨xs, h1, h2, h3⟩ := h
  exact ⟨xs, by rw [h2]; exact h1.ai (by omega), h1.v, h1.nrm, h1.sg, h3⟩
theorem nbits_len {xs : List Int} (hU : U32 xs) : (nbits xs + 31) / 32 = (tlen xs : Int) ∧ 0 ≤ nbits xs ∧ nbits xs ≤ 32 * (tlen xs : Int) := by
  unfold nbits
  split
  · rename_i h; rw [h]; decide
  · rename_i h
    have h1 := tlen_top xs (by omega)
    obtain ⟨x0, x1⟩ := hU (tlen xs - 1)
    have hb := bitLenAux_ib 64 (gx xs (tlen xs - 1)).toNat (by omega)
    have e : Lib.bitLen (gx xs (tlen xs - 1)).toNat = Lib.bitLenAux 64 (gx xs (tlen xs - 1)).toNat := rfl
    rw [e]
    generalize Lib.bitLenAux 64 (gx xs (tlen xs - 1)).toNat = b at *
    obtain ⟨b0, b1, b2⟩ := hb
    have hb0 : b ≠ 0 := fun e => by subst e; simp at b1; omega
    have hb32 : b ≤ 32 := by
      rcases b2 with h | h
      · omega
      · rcases Nat.lt_or_ge 32 b with h' | h'
        · have := p2_mono (show 32 ≤ b - 1 by omega)
          have e2 : (2 : Int) ^ 32 = 4294967296 := by decide
          omega
        · exact h'
    omega
theorem bset2d {B g : Nat} {a b : World} {u v : Value} (h : Below B a b) (hg : B ≤ g) : Below B a ((b.drew.setCell ⟨g, 0, none⟩ u).setCell ⟨g, 1, none⟩ v) := bset2 (show Below B a b.drew from ⟨h.os, h.tape, h.output, h.size, h.block⟩) hg _ _
theorem en_set {w : World} {K : Nat} {z : Int} {s' : Bool} {p : Option Addr} {n c g : Nat} {xs : List Int} {u v : Value} (h : AI w p n c xs) (hv : ival s' xs = z) (ho : 0 < tlen xs → Off g p) (hs : tlen xs = 0 → s' = false) (hK : tlen xs ≤ K) : EN ((w.drew.setCell ⟨g, 0, none⟩ u).setCell ⟨g, 1, none⟩ v) K z ⟨s', p, tlen xs, c⟩ := by
  have h1 := h.tr.drew
  refine ⟨tr xs, ?_, by rw [ival_tr]; exact hv, tlen_tr xs, hs, hK⟩
  exact ⟨h1.len, h1.cap, h1.bnd, h1.sml, fun hx => ((h1.rd.set_other ⟨g, 0, none⟩ u (ho (by rw [length_tr] at hx; exact hx))).set_other ⟨g, 1, none⟩ v (ho (by rw [length_tr] at hx; exact hx))) hx, h1.u⟩
set_option maxRecDepth 100000 in
theorem bare_any {w : World} {K : Nat} {z : Int} {e : Ent} (h : EV w K z e) (hK : K ≤ 1000) :
    Calls Tryz.prog 60 #[.agg #[.bool e.s, .slice e.p e.n e.c]] w fun r w' => ∃ f : Ent, r = .returned (.agg #[.bool f.s, .slice f.p f.n f.c]) ∧ f.p = e.p ∧ f.n ≤ e.n ∧ EN w' K z f ∧ Below w.heap.size w w' := by
  obtain ⟨xs, h1, h2, h3⟩ := h
  obtain ⟨es, ep, en, ec⟩ := e
  simp only at h1 h2 h3 ⊢
  have HV : Hid (ival es xs = z) := h2
  obtain ⟨q1, q2, q3⟩ := nbits_len h1.u
  have tx := tlen_le xs
  have lx := h1.len
  have hcap := h1.cap
  have hbnd := h1.bnd
  unfold maxLen at hbnd
  have HX : Hid (U32 xs) := h1.u
  clear h2
  generalize hN : nbits xs = N at *
  have HN := (show Hid _ from hN)
  have v1 : IntKind.i64.wrap (N + 31) = N + 31 := by rw [IntKind.wrap_i64]; omega
  have v2 : (N + 31).tdiv 32 = (tlen xs : Int) := by rw [Int.tdiv_eq_ediv_of_nonneg (by omega)]; exact q1
  have v3 : IntKind.i64.wrap (tlen xs : Int) = (tlen xs : Int) := by rw [IntKind.wrap_i64]; omega
  clear hN
  go_enter Tryz.func60, Tryz.ntmps60
  go_wp2_with fail
  have hA0 : Bx ((w.alloc (.cells #[.bool es, .slice ep en ec] 47)).alloc (.cells #[.bool false, .slice none 0 0] 47)) w.heap.size (.bool es) (.slice ep en ec) := (Bx.new _ _ _ rfl).alloc _
  have hR0 : Bx ((w.alloc (.cells #[.bool es, .slice ep en ec] 47)).alloc (.cells #[.bool false, .slice none 0 0] 47)) (w.heap.size + 1) (.bool false) (.slice none 0 0) := Bx.new _ _ _ (by simp)
  have hW0 : Below w.heap.size w ((w.alloc (.cells #[.bool es, .slice ep en ec] 47)).alloc (.cells #[.bool false, .slice none 0 0] 47)) := ((Below.refl _ _).alloc (Nat.le_refl _) _).alloc (by simp) _
  generalize (w.alloc (.cells #[.bool es, .slice ep en ec] 47)).alloc (.cells #[.bool false, .slice none 0 0] 47) = W0 at *
  have hbt := Bits_any es ep en ec xs W0 (h1.below hW0)
  rw [HN.out] at hbt
  refine hbt.mono ?_
  rintro e w1 ⟨rfl, hb1⟩
  clear hbt
  have a0 := (hA0.later hb1).c0
  have a1 := (hA0.later hb1).c1
  obtain ⟨r0, r1, f0, f1⟩ := hR0.later hb1
  have hsl : (tlen xs : Int) ≤ (ec : Int) := by omega
  have hcs : Hid (tlen xs = 0 ∨ 0 < tlen xs) := Nat.eq_zero_or_pos _
  have sR : w.heap.size + 1 < W0.heap.size := block_lt_of_cell hR0.c0
  have hoff : Hid (∀ m, m ≤ en → (0 < m → Off (w.heap.size + 1) ep)) := fun m hm h0 => (h1.rd.off (by omega) (by rw [h1.len]; omega))
  have HA : Hid (AI w1 ep en ec xs) := (h1.below hW0).below hb1
  have HW : Hid (Below w.heap.size w w1) := bnext' hW0 hb1
  cases es
  · go_wp2_with fail
    go_still_tail 11, (by kernel_rfl)
    go_wp2
    refine bodyPost_ret (v := .agg #[.bool false, .slice ep (tlen xs) ec]) (by simp [results, Tryz.results60, go_sem, r0, r1]) rfl ⟨⟨false, ep, tlen xs, ec⟩, rfl, rfl, by show tlen xs ≤ en; omega, ?_, ?_⟩
    · exact en_set HA.out HV.out (hoff.out _ (by omega)) (fun _ => rfl) (by omega)
    · exact bset2d HW.out (by omega)
  · rcases hcs.out with hz | hz
    · have hz' : (tlen xs : Int) = 0 := by omega
      have hg : decide (0 < (tlen xs : Int)) = false := by rw [hz]; rfl
      have HZ : Hid (tlen xs = 0) := hz
      clear hz hcs
      go_wp2_with fail
      go_still_tail 11, (by kernel_rfl)
      go_wp2
      refine bodyPost_ret (v := .agg #[.bool false, .slice ep 0 ec]) (by simp [results, Tryz.results60, go_sem, r0, r1]) rfl ⟨⟨false, ep, 0, ec⟩, rfl, rfl, Nat.zero_le _, ?_, ?_⟩
      · have hv0 : ival false xs = z := by
          have h0 := (tlen_zero_iff HX.out).1 HZ.out
          rw [← HV.out, ival, ival, h0]
          rfl
        have h5 := en_set (K := K) (g := w.heap.size + 1) (u := .bool false) (v := .slice ep 0 ec) HA.out hv0 (hoff.out _ (by omega)) (fun _ => rfl) (by omega)
        rwa [HZ.out] at h5
      · exact bset2d HW.out (by omega)
    · have hg : decide (0 < (tlen xs : Int)) = true := decide_eq_true (by omega)
      have HZ : Hid (0 < tlen xs) := hz
      clear hz hcs
      go_wp2_with fail
      go_still_tail 11, (by kernel_rfl)
      go_wp2
      refine bodyPost_ret (v := .agg #[.bool true, .slice ep (tlen xs) ec]) (by simp [results, Tryz.results60, go_sem, r0, r1, HZ.out]) rfl ⟨⟨true, ep, tlen xs, ec⟩, rfl, rfl, by show tlen xs ≤ en; omega, ?_, ?_⟩
      · exact en_set HA.out HV.out (hoff.out _ (by omega)) (fun h => absurd h (Nat.ne_of_gt HZ.out)) (by omega)
      · exact bset2d HW.out (by omega)
set_option maxRecDepth 100000 in
theorem own_any {w : World} {K : Nat} {z : Int} {e : Ent} (h : EV w K z e) (hK : K ≤ 1000) :
    Calls Tryz.prog 52 #[.agg #[.bool e.s, .slice e.p e.n e.c]] w fun r w' => ∃ f : Ent, r = .returned (.agg #[.bool f.s, .slice f.p f.n f.c]) ∧ NV w.heap.size w' K z f ∧ Below w.heap.size w w' := by
  obtain ⟨xs, h1, h2, h3⟩ := h
  obtain ⟨es, ep, en, ec⟩ := e
  simp only at h1 h2 h3 ⊢
  have HV : Hid (ival es xs = z) := h2
  clear h2
  go_enter Tryz.func52, Tryz.ntmps52
  go_wp2_with fail
  have hR0 : Bx ((w.alloc (.cells #[.bool es, .slice ep en ec] 47)).alloc (.cells #[.bool false, .slice none 0 0] 47)) (w.heap.size + 1) (.bool false) (.slice none 0 0) := Bx.new _ _ _ (by simp)
  have hW0 : Below w.heap.size w ((w.alloc (.cells #[.bool es, .slice ep en ec] 47)).alloc (.cells #[.bool false, .slice none 0 0] 47)) := ((Below.refl _ _).alloc (Nat.le_refl _) _).alloc (by simp) _
  generalize (w.alloc (.cells #[.bool es, .slice ep en ec] 47)).alloc (.cells #[.bool false, .slice none 0 0] 47) = W0 at *
  have hz : AI W0 none 0 0 [] := ⟨rfl, Nat.le_refl _, Nat.zero_le _, Nat.zero_le _, Rd.nil, fun j => by simp [gx]⟩
  refine (Add_any es false ep none en ec 0 0 xs [] _ (h1.below hW0) hz).mono ?_
  rintro e w1 ⟨s1, p1, n1, x1, rfl, hN1, hn1, hb1⟩
  have hv : ival es xs + ival false [] = z := by rw [HV.out]; simp [ival, val]
  rw [hv] at hN1
  have hle : n1 ≤ K := hN1.le (by have h5 := h1.lt es; rw [HV.out] at h5; have := pw_mono h3; omega)
  have HN : Hid (NI W0.heap.size w1 s1 p1 n1 x1 z) := hN1
  have sR : w.heap.size + 1 < W0.heap.size := block_lt_of_cell hR0.c0
  obtain ⟨r0, r1, f0, f1⟩ := hR0.later hb1
  clear hv hN1 hz
  go_wp2
  refine bodyPost_ret (v := .agg #[.bool s1, .slice p1 n1 n1]) (by simp [results, Tryz.results52, go_sem, r0, r1]) rfl ⟨⟨s1, p1, n1, n1⟩, rfl, ⟨x1, ?_, rfl, hle⟩, ?_⟩
  · exact ((HN.out.set (a := ⟨w.heap.size + 1, 0, none⟩) sR _).set (a := ⟨w.heap.size + 1, 1, none⟩) sR _).mono hW0.size
  · exact bset2 (bnext' hW0 hb1) (by omega) _ _
def EaI (O : World → Int → Ent → Prop) (φ : Int → Int) (g n k : Nat) (zs : List Int) (W0 wr : World) : Prop :=
  ∃ es, Row2 wr g 47 es ∧ es.length = n ∧ (∀ j, j < k → O wr (φ (gx zs j)) (ge es j) ∧ (0 < (ge es j).n → Off g (ge es j).p)) ∧ Below g W0 wr
set_option maxRecDepth 100000 in
theorem each_any (K : Nat) (p : Option Addr) (n nc : Nat) (es : List Ent) (zs : List Int) (w : World) (h : PA w K p n nc es zs) (hn : n ≤ 1000000) (J : Nat) (C : Array Value) (hE : ∀ args w', Sem.run Tryz.prog (callFunc J args) w' = .ok (.enter J args) w')
    (O : World → Int → Ent → Prop) (φ : Int → Int) (hOb : ∀ w w' z e, O w z e → Below w.heap.size w w' → O w' z e) (hOs : ∀ w z e g o u v, O w z e → (0 < e.n → Off g e.p) → O ((w.setCell ⟨g, o, none⟩ u).setCell ⟨g, o + 1, none⟩ v) z e)
    (hJ : ∀ w' z e, Below w.heap.size w w' → EV w' K z e → Calls Tryz.prog J (#[.agg #[.bool e.s, .slice e.p e.n e.c]] ++ C) w' fun r w'' => ∃ f : Ent, r = .returned (.agg #[.bool f.s, .slice f.p f.n f.c]) ∧ O w'' (φ z) f ∧ (0 < f.n → f.p = e.p ∧ f.n ≤ e.n ∨ Go.Proofs.YtkjpeehbhmcojaaGreatDoor.From w'.heap.size f.p) ∧ Below w'.heap.size w' w'') :
    Calls Tryz.prog 58 #[.slice p n nc, .func (.func J) #[] C] w fun r w' => ∃ q fs, r = .returned (.slice q n n) ∧ fs.length = n ∧ PL w' q fs ∧ Go.Proofs.YtkjpeehbhmcojaaGreatDoor.From w.heap.size q ∧ (∀ j, j < n → O w' (φ (gx zs j)) (ge fs j)) ∧ Below w.heap.size w w' := by
  have hmk := mk_poly n (by omega)
  have hle := h.el
  have HOb := (show Hid _ from hOb)
  have HOs := (show Hid _ from hOs)
  have HJ := (show Hid _ from hJ)
  clear hOb hOs hJ
  go_enter Tryz.func58, Tryz.ntmps58
  go_wp2_with fail
  have hR0 := Row2.new w 47 (ezs n)
  have hW0 : Below w.heap.size w (w.alloc (.cells (ca2 (ezs n)) 47)) := (Below.refl _ _).alloc (Nat.le_refl _) _
  have hs0 : w.heap.size + 1 ≤ (w.alloc (.cells (ca2 (ezs n)) 47)).heap.size := by simp
  generalize w.alloc (.cells (ca2 (ezs n)) 47) = W0 at *
  clear hmk
  go_loopw [6, 7, 13] (fun iv cv kv wr => ∃ k : Nat, k ≤ n ∧ kv = .int .i64 k ∧ Hid (EaI O φ w.heap.size n k zs W0 wr)) (fun _ _ kv _ => n - (intOf kv).toNat)
  case atStart => exact ⟨0, Nat.zero_le _, by go_num, ezs n, hR0, length_ezs n, fun j hj => by omega, Below.refl _ _⟩
  case round =>
    obtain ⟨k, hk, rfl, H⟩ := hrel
    rcases Nat.lt_or_ge k n with hlt | hge
    · obtain ⟨es', hR, hel, hev, hB⟩ := H.out
      have hBw : Below w.heap.size w wr := hW0.trans hB
      have hPA := h.below hBw
      obtain ⟨b, o, hp, hc⟩ := hPA.pl (by omega)
      subst hp
      obtain ⟨c0, c1⟩ := hc k (by omega)
      have hv := hPA.ev k hlt
      have HH : Hid (EaI O φ w.heap.size n k zs W0 wr) := H.out
      clear H hR hel hev hB hc hPA
      go_wp2_with fail
      have hal := bel_al (o := .cells #[.bool (ge es k).s, .slice (ge es k).p (ge es k).n (ge es k).c] 47) (Below.refl wr.heap.size wr)
      refine (HJ.out _ (gx zs k) (ge es k) (bnext hBw (Nat.le_refl _) hal) (hv.below hal)).mono ?_
      rintro e w1 ⟨f, rfl, hO, hF, hb1⟩
      have hb2 := bnext' hal hb1
      obtain ⟨es', hR, hel, hev, hB⟩ := HH.out
      have hR1 := hR.below hb2 hR.lt
      obtain ⟨d0, d1⟩ := hR1.cell k (by omega)
      have f0 := hR1.frozen (k * 2)
      have f1 := hR1.frozen (k * 2 + 1)
      have hoff : Hid (0 < f.n → Off w.heap.size f.p) := fun h0 => by
        rcases hF h0 with ⟨e1, e2⟩ | e1
        · rw [e1]
          obtain ⟨xs, k1, -⟩ := h.ev k hlt
          exact k1.rd.off (Nat.le_refl _) (by rw [k1.len]; omega)
        · have hs1 := hB.size
          have hs2 := hal.size
          exact off_from e1 (by omega)
      have HI : Hid (O w1 (φ (gx zs k)) f ∧ Row2 w1 w.heap.size 47 es' ∧ es'.length = n ∧ (∀ j, j < k → O w1 (φ (gx zs j)) (ge es' j) ∧ (0 < (ge es' j).n → Off w.heap.size (ge es' j).p)) ∧ Below w.heap.size W0 w1) := ⟨hO, hR1, hel, fun j hj => ⟨HOb.out _ _ _ _ (hev j hj).1 hb2, (hev j hj).2⟩, hB.trans (hb2.mono (by have := hBw.size; omega))⟩
      clear hO hF hb1 hb2 hR hel hev hB hR1 hal hv c0 c1 HH
      go_wp2
      go_roundw
      case rel =>
        obtain ⟨hO, hR, hel, hev, hB⟩ := HI.out
        refine ⟨k + 1, by omega, by go_num, es'.set k f, hR.set k f (by omega), by simpa using hel, fun j hj => ?_, ?_⟩
        · rcases Nat.lt_or_ge j k with h' | h'
          · rw [ge_set_other _ _ _ _ (by omega)]
            exact ⟨HOs.out _ _ _ _ _ _ _ (hev j h').1 (hev j h').2, (hev j h').2⟩
          · obtain rfl : j = k := by omega
            rw [ge_set_same _ _ _ (by omega)]
            exact ⟨HOs.out _ _ _ _ _ _ _ hO hoff.out, hoff.out⟩
        · exact (hB.setCell (p := ⟨w.heap.size, k * 2, none⟩) (Nat.le_refl _) _).setCell (p := ⟨w.heap.size, k * 2 + 1, none⟩) (Nat.le_refl _) _
      case measure => simp [intOf]; omega
    · obtain rfl : k = n := by omega
      obtain ⟨es', hR, hel, hev, hB⟩ := H.out
      have HI : Hid (Row2 wr w.heap.size 47 es' ∧ es'.length = k ∧ (∀ j, j < k → O wr (φ (gx zs j)) (ge es' j)) ∧ Below w.heap.size w wr) := ⟨hR, hel, fun j hj => (hev j hj).1, hW0.trans hB⟩
      clear H hR hel hev hB hge hk
      go_wp2
      go_ret
      obtain ⟨hR, hel, hev, hB⟩ := HI.out
      exact ⟨_, es', rfl, hel, hR.pl, fun a ha => by cases ha; exact Nat.le_refl _, hev, hB⟩
structure PB (B : Nat) (w : World) (K : Nat) (p : Option Addr) (n : Nat) (es : List Ent) (zs : List Int) : Prop where
  el : es.length = n
  zl : zs.length = n
  nrm : tlen zs = n
  pl : PL w p es
  fr : Go.Proofs.YtkjpeehbhmcojaaGreatDoor.From B p
  ev : ∀ j, j < n → EN w K (gx zs j) (ge es j)
theorem EN.set2 {w : World} {K : Nat} {z : Int} {e : Ent} {g o : Nat} {u v : Value} (h : EN w K z e) (ho : 0 < e.n → Off g e.p) : EN ((w.setCell ⟨g, o, none⟩ u).setCell ⟨g, o + 1, none⟩ v) K z e := by
  obtain ⟨xs, h1, h2⟩ := h
  refine ⟨xs, ⟨h1.len, h1.cap, h1.bnd, h1.sml, fun hx => ?_, h1.u⟩, h2⟩
  have := ho (by rw [h1.len] at hx; exact hx)
  exact ((h1.rd.set_other ⟨g, o, none⟩ u this).set_other ⟨g, o + 1, none⟩ v this) hx
theorem PB.below {B : Nat} {w w' : World} {K : Nat} {p : Option Addr} {n : Nat} {es : List Ent} {zs : List Int} (h : PB B w K p n es zs) (hb : Below w.heap.size w w') : PB B w' K p n es zs := ⟨h.el, h.zl, h.nrm, h.pl.below hb, h.fr, fun j hj => (h.ev j hj).below hb⟩
theorem PB.pa {B : Nat} {w : World} {K : Nat} {p : Option Addr} {n : Nat} {es : List Ent} {zs : List Int} (h : PB B w K p n es zs) (hn : n ≤ 1000000) : PA w K p n n es zs :=
  ⟨h.el, h.zl, Nat.le_refl _, by unfold maxLen; omega, fun e => by
    rcases Nat.eq_zero_or_pos n with h0 | h0
    · exact h0
    · obtain ⟨b, o, hp, -⟩ := h.pl (by rw [h.el]; exact h0)
      rw [hp] at e
      exact absurd e (by simp), h.pl, fun j hj => (h.ev j hj).ev⟩
def PbP (zs : List Int) (K : Nat) (w : World) (e : Ending) (w' : World) : Prop :=
  ∃ p n es, e = .returned (.slice p n n) ∧ PB w.heap.size w' K p n es zs ∧ Below w.heap.size w w'
theorem PA.trim {w : World} {K : Nat} {p : Option Addr} {n nc : Nat} {es : List Ent} {zs : List Int} (h : PA w K p n nc es zs) : PA w K p (tlen zs) (tlen zs) (es.take (tlen zs)) (tr zs) := by
  have htl := tlen_le zs
  have hz := h.zl
  have hc := h.cap
  exact (h.take (tlen zs) (by omega)).clip fun e => by have := h.pn e; omega
theorem callBare (args : Array Value) (w' : World) : Sem.run Tryz.prog (callFunc 60 args) w' = .ok (.enter 60 args) w' := by
  have h1 : ¬ Tryz.f60.name = "runtime.NumGoroutine" := of_decide_eq_false (by kernel_rfl)
  have h2 : ¬ Tryz.f60.body = none := fun h => by cases h
  simp only [callFunc, Tryz.func60, go_sem]
  simp [h1, h2, go_sem]
theorem callOwn (args : Array Value) (w' : World) : Sem.run Tryz.prog (callFunc 52 args) w' = .ok (.enter 52 args) w' := by
  have h1 : ¬ Tryz.f52.name = "runtime.NumGoroutine" := of_decide_eq_false (by kernel_rfl)
  have h2 : ¬ Tryz.f52.body = none := fun h => by cases h
  simp only [callFunc, Tryz.func52, go_sem]
  simp [h1, h2, go_sem]
theorem NV.set2o {B : Nat} {w : World} {K : Nat} {z : Int} {e : Ent} {g o : Nat} {u v : Value} (h : NV B w K z e) (ho : 0 < e.n → Off g e.p) : NV B ((w.setCell ⟨g, o, none⟩ u).setCell ⟨g, o + 1, none⟩ v) K z e := by
  obtain ⟨xs, h1, h2⟩ := h
  refine ⟨xs, ⟨h1.len, fun hx => ?_, h1.u, h1.nrm, h1.sg, h1.pn, h1.v, h1.fr, (h1.fz.set _ _).set _ _⟩, h2⟩
  have := ho (by rw [h1.len] at hx; exact hx)
  exact ((h1.rd.set_other ⟨g, o, none⟩ u this).set_other ⟨g, o + 1, none⟩ v this) hx
set_option maxRecDepth 100000 in
theorem read_any (K : Nat) (p : Option Addr) (n nc : Nat) (es : List Ent) (zs : List Int) (w : World) (h : PA w K p n nc es zs) (hn : n ≤ 1000000) (hK : K ≤ 1000) :
    Calls Tryz.prog 25 #[.slice p n nc] w (PbP (tr zs) K w) := by
  have htl := tlen_le zs
  have hzl := h.zl
  go_enter Tryz.func25, Tryz.ntmps25
  go_wp2_with fail
  refine (utrim_any K p n nc es zs _ h hn).mono ?_
  rintro e w1 ⟨rfl, hb1⟩
  have h1 := (h.below hb1).trim
  have he := each_any K _ _ _ _ _ w1 h1 (by omega) 60 #[] callBare (fun w z e => EN w K z e) id (fun _ _ _ _ h hb => h.below hb) (fun _ _ _ _ _ _ _ h ho => h.set2 ho) (fun w' z e _ hv => (bare_any hv hK).mono fun r w'' ⟨f, a, b, c, d, e'⟩ => ⟨f, a, d, fun _ => .inl ⟨b, c⟩, e'⟩)
  go_wp2_with fail
  refine he.mono ?_
  rintro e w2 ⟨q, fs, rfl, k1, k2, k3, k4, hb2⟩
  clear he
  go_wp2
  go_ret
  have hs := hb1.size
  exact ⟨q, tlen zs, fs, rfl, ⟨k1, length_tr zs, tlen_tr zs, k2, fun a ha => Nat.le_trans hs (k3 a ha), k4⟩, bnext' hb1 hb2⟩
set_option maxRecDepth 100000 in
theorem uNorm_any (K : Nat) (p : Option Addr) (n nc : Nat) (es : List Ent) (zs : List Int) (w : World) (h : PA w K p n nc es zs) (hn : n ≤ 1000000) (hK : K ≤ 1000) :
    Calls Tryz.prog 22 #[.slice p n nc] w (PnP (tr zs) K w) := by
  have htl := tlen_le zs
  have hzl := h.zl
  go_enter Tryz.func22, Tryz.ntmps22
  go_wp2_with fail
  refine (utrim_any K p n nc es zs _ h hn).mono ?_
  rintro e w1 ⟨rfl, hb1⟩
  have h1 := (h.below hb1).trim
  have he := each_any K _ _ _ _ _ w1 h1 (by omega) 52 #[] callOwn (fun w z e => NV w1.heap.size w K z e) id (fun _ _ _ _ h hb => h.below hb) (fun _ _ _ _ _ _ _ h ho => h.set2o ho) (fun w' z e hb hv => (own_any hv hK).mono fun r w'' ⟨f, a, b, c⟩ => ⟨f, a, b.mono hb.size, fun _ => .inr (by obtain ⟨xs, k, -⟩ := b; exact k.fr), c⟩)
  go_wp2_with fail
  refine he.mono ?_
  rintro e w2 ⟨q, fs, rfl, k1, k2, k3, k4, hb2⟩
  clear he
  go_wp2
  go_ret
  have hs := hb1.size
  exact ⟨q, tlen zs, fs, rfl, ⟨k1, length_tr zs, tlen_tr zs, k2, fun a ha => Nat.le_trans hs (k3 a ha), fun j hj => (k4 j hj).mono hs⟩, bnext' hb1 hb2⟩
theorem uDeg_any (K : Nat) (p : Option Addr) (n nc : Nat) (es : List Ent) (zs : List Int) (w : World) (h : PA w K p n nc es zs) (hn : n ≤ 1000000) :
    Calls Tryz.prog 19 #[.slice p n nc] w fun e w' => e = .returned (.int .i64 ((tlen zs : Int) - 1)) ∧ Below w.heap.size w w' := by
  have htl := tlen_le zs
  have hzl := h.zl
  have v : IntKind.i64.wrap ((tlen zs : Int) - 1) = (tlen zs : Int) - 1 := by rw [IntKind.wrap_i64]; omega
  go_enter Tryz.func19, Tryz.ntmps19
  go_wp2_with fail
  refine (utrim_any K p n nc es zs _ h hn).mono ?_
  rintro e w1 ⟨rfl, hb1⟩
  go_wp2
  go_ret
  exact ⟨rfl, hb1⟩
end Go.Proofs.YtkjpeehbhmcojaaGreatDoor
