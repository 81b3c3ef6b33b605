/-
  upoly.Of.
-/
import Derived.Test.YtebdbfbicbndlaaGreatDoorUbUc
namespace Go.Proofs.YtebdbfbicbndlaaGreatDoor
open Go.RowKit
set_option linter.unusedVariables false
set_option linter.unusedSimpArgs false

/-- The number of an element that is answered. -/
def NV (B : Nat) (w : World) (K : Nat) (z : Int) (e : Ent) : Prop := ∃ xs, NI B w e.s e.p e.n xs z ∧ e.c = e.n ∧ e.n ≤ K
/-- A polynomial that is answered: in normal form, in memory from block B on. -/
structure PN (B : Nat) (w : World) (K : Nat) (p : Option Addr) (n : Nat) (es : List Ent) (zs : List Int) : Prop where
  el : es.length = n
  zl : zs.length = n
  nrm : tlen zs = n
  pl : PL w p es
  fr : Go.Proofs.YtebdbfbicbndlaaGreatDoor.From B p
  ev : ∀ j, j < n → NV B w K (gx zs j) (ge es j)
section
variable {B : Nat} {w w' : World} {K : Nat} {z : Int} {e : Ent} {p : Option Addr} {n : Nat} {es : List Ent} {zs : List Int}
theorem NV.below (h : NV B w K z e) (hb : Below w.heap.size w w') : NV B w' K z e := by
  obtain ⟨xs, h1, h2⟩ := h
  exact ⟨xs, h1.below hb, h2⟩
theorem NV.mono {B' : Nat} (h : NV B w K z e) (hB : B' ≤ B) : NV B' w K z e := by
  obtain ⟨xs, h1, h2⟩ := h
  exact ⟨xs, h1.mono hB, h2⟩
theorem NV.ez (B : Nat) (w : World) (K : Nat) : NV B w K 0 ez := ⟨[], ⟨rfl, Rd.nil, fun j => by simp [gx], by decide, fun _ => rfl, fun _ => rfl, by decide, (fun a ha => by cases ha), Fz.nil _⟩, rfl, Nat.zero_le _⟩
theorem NV.set2 (h : NV B w K z e) {g o : Nat} (hg : g < B) (u v : Value) : NV B ((w.setCell ⟨g, o, none⟩ u).setCell ⟨g, o + 1, none⟩ v) K z e := by
  obtain ⟨xs, h1, h2⟩ := h
  exact ⟨xs, (h1.set (a := ⟨g, o, none⟩) hg u).set (a := ⟨g, o + 1, none⟩) hg v, h2⟩
theorem NV.ev (h : NV B w K z e) (hK : K ≤ 1000) : EV w K z e := by
  obtain ⟨xs, h1, h2, h3⟩ := h
  exact ⟨xs, by rw [h2]; exact h1.ai (by omega), h1.v, h3⟩
theorem PN.below (h : PN B w K p n es zs) (hb : Below w.heap.size w w') : PN B w' K p n es zs := ⟨h.el, h.zl, h.nrm, h.pl.below hb, h.fr, fun j hj => (h.ev j hj).below hb⟩
theorem PN.mono {B' : Nat} (h : PN B w K p n es zs) (hB : B' ≤ B) : PN B' w K p n es zs := ⟨h.el, h.zl, h.nrm, h.pl, fun a ha => Nat.le_trans hB (h.fr a ha), fun j hj => (h.ev j hj).mono hB⟩
theorem PN.pa (h : PN B w K p n es zs) (hK : K ≤ 1000) (hn : n ≤ 1000000) : PA w K p n n es zs :=
  ⟨h.el, h.zl, Nat.le_refl _, by unfold maxLen; omega, fun e => by
    rcases Nat.eq_zero_or_pos n with h0 | h0
    · exact h0
    · obtain ⟨b, o, hp, -⟩ := h.pl (by rw [h.el]; exact h0)
      rw [hp] at e
      exact absurd e (by simp), h.pl, fun j hj => (h.ev j hj).ev hK⟩
end
/-- What a function answers that gives a polynomial. -/
def PnP (zs : List Int) (K : Nat) (w : World) (e : Ending) (w' : World) : Prop :=
  ∃ p n es, e = .returned (.slice p n n) ∧ PN w.heap.size w' K p n es zs ∧ Below w.heap.size w w'
/-- Behind some rounds of Of. -/
def OfI (w W0 : World) (xs : List Int) (n k : Nat) (wr : World) : Prop :=
  ∃ es, Row2 wr w.heap.size 43 es ∧ es.length = n ∧ (∀ j, j < k → NV (w.heap.size + 1) wr 2 (gx xs j) (ge es j)) ∧ Below (w.heap.size) W0 wr
theorem below_mix {w W0 wr : World} (h : Below w.heap.size w W0) (k : Below w.heap.size W0 wr) : Below w.heap.size w wr := h.trans k
set_option maxHeartbeats 2000000 in
set_option maxRecDepth 100000 in
/-- upoly.Of. -/
theorem uOf_any (p : Option Addr) (n nc : Nat) (xs : List Int) (w : World) (hl : xs.length = n) (hn : n ≤ 1000000) (hX : Rd w p .i64 xs) (hx : ∀ j, -9223372036854775808 ≤ gx xs j ∧ gx xs j ≤ 9223372036854775807) :
    Calls Tryz.prog 6 #[.slice p n nc] w (PnP (tr xs) 2 w) := by
  have hmk := mk_poly n (by omega)
  have HX : Hid (Rd w p .i64 xs ∧ ∀ j, -9223372036854775808 ≤ gx xs j ∧ gx xs j ≤ 9223372036854775807) := ⟨hX, hx⟩
  clear hX hx
  go_enter Tryz.func6, Tryz.ntmps6
  go_wp2_with fail
  have hR0 := Row2.new w 43 (ezs n)
  have hW0 : Below w.heap.size w (w.alloc (.cells (ca2 (ezs n)) 43)) := (Below.refl _ _).alloc (Nat.le_refl _) _
  have hs0 : w.heap.size + 1 ≤ (w.alloc (.cells (ca2 (ezs n)) 43)).heap.size := by simp
  generalize w.alloc (.cells (ca2 (ezs n)) 43) = W0 at *
  clear hmk
  go_loopw [4, 5, 11] (fun iv nv kv wr => ∃ k : Nat, k ≤ n ∧ kv = .int .i64 k ∧ Hid (OfI w W0 xs n k wr)) (fun _ _ kv _ => n - (intOf kv).toNat)
  case atStart => exact ⟨0, Nat.zero_le _, by go_num, ezs n, hR0, length_ezs n, fun j hj => by omega, Below.refl _ _⟩
  case round =>
    obtain ⟨k, hk, rfl, H⟩ := hrel
    rcases Nat.lt_or_ge k n with hlt | hge
    · obtain ⟨es, hR, hel, hev, hB⟩ := H.out
      have hBw := below_mix hW0 hB
      obtain ⟨b, o, hp, hc⟩ := (HX.out.1.below hBw) (by omega)
      subst hp
      have c0 := hc k (by omega)
      obtain ⟨x0, x1⟩ := HX.out.2 k
      have HH : Hid (OfI w W0 xs n k wr) := H.out
      clear H hR hel hev hB hBw hc
      go_wp2_with fail
      refine (Of_any (gx xs k) _ x0 x1).mono ?_
      rintro e w1 ⟨s1, p1, n1, z1, rfl, hN1, hn1, hb1⟩
      obtain ⟨es, hR, hel, hev, hB⟩ := HH.out
      have hR1 := hR.below hb1 hR.lt
      obtain ⟨d0, d1⟩ := hR1.cell k (by omega)
      have f0 := hR1.frozen (k * 2)
      have f1 := hR1.frozen (k * 2 + 1)
      have hsz : w.heap.size + 1 ≤ wr.heap.size := Nat.le_trans hs0 hB.size
      have HN : Hid (NI wr.heap.size w1 s1 p1 n1 z1 (gx xs k)) := hN1
      have HI : Hid (Row2 w1 w.heap.size 43 es ∧ es.length = n ∧ (∀ j, j < k → NV (w.heap.size + 1) w1 2 (gx xs j) (ge es j)) ∧ Below w.heap.size W0 w1) := ⟨hR1, hel, fun j hj => (hev j hj).below hb1, hB.trans (hb1.mono (by omega))⟩
      clear hN1 hR hel hev hB hR1 hb1 HH c0
      go_wp2
      go_roundw
      case rel =>
        obtain ⟨hR, hel, hev, hB⟩ := HI.out
        refine ⟨k + 1, by omega, by go_num, es.set k ⟨s1, p1, n1, n1⟩, hR.set k ⟨s1, p1, n1, n1⟩ (by omega), by simpa using hel, fun j hj => ?_, ?_⟩
        · rcases Nat.lt_or_ge j k with h | h
          · rw [ge_set_other _ _ _ _ (by omega)]
            exact (hev j h).set2 (by omega) _ _
          · obtain rfl : j = k := by omega
            rw [ge_set_same _ _ _ (by omega)]
            exact NV.set2 ⟨z1, HN.out.mono hsz, rfl, hn1⟩ (by omega) _ _
        · exact (hB.setCell (p := ⟨w.heap.size, k * 2, none⟩) (Nat.le_refl _) _).setCell (p := ⟨w.heap.size, k * 2 + 1, none⟩) (Nat.le_refl _) _
      case measure => simp [intOf]; omega
    · obtain rfl : k = n := by omega
      obtain ⟨es, hR, hel, hev, hB⟩ := H.out
      have hPA : PA wr 2 (some ⟨w.heap.size, 0, none⟩) k k es xs := ⟨hel, hl, Nat.le_refl _, by unfold maxLen; omega, fun e => by simp at e, hR.pl, fun j hj => (hev j hj).ev (by decide)⟩
      have HI : Hid (Row2 wr w.heap.size 43 es ∧ es.length = k ∧ (∀ j, j < k → NV (w.heap.size + 1) wr 2 (gx xs j) (ge es j)) ∧ Below w.heap.size W0 wr) := ⟨hR, hel, hev, hB⟩
      clear H hR hel hev hB hge hk
      go_wp2_with fail
      refine (utrim_any 2 _ _ _ es xs _ hPA hn).mono ?_
      rintro e w1 ⟨rfl, hb1⟩
      clear hPA
      go_wp2
      go_ret
      obtain ⟨hR, hel, hev, hB⟩ := HI.out
      have hsz : wr.heap.size ≥ w.heap.size := Nat.le_trans hW0.size hB.size
      have htl := tlen_le xs
      refine ⟨_, _, es.take (tlen xs), rfl, ⟨by simp; omega, length_tr xs, tlen_tr xs, (hR.below hb1 hR.lt).pl.take _, fun a ha => by cases ha; exact Nat.le_refl _, fun j hj => ?_⟩, (below_mix hW0 hB).trans (hb1.mono hsz)⟩
      rw [gx_tr, ge_take _ _ _ hj]
      exact ((hev j (by omega)).below hb1).mono (by omega)
end Go.Proofs.YtebdbfbicbndlaaGreatDoor
