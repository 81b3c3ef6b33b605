/-
  Plain facts on the stretched polynomial: a sum over powers of x + a.
-/
import Derived.Test.YtgecfnoecmjacaaGreatDoorVsVtVy
import Derived.Test.YtgecfnoecmjacaaGreatDoorPyHfIhIi
import Derived.Test.YtgecfnoecmjacaaGreatDoorRbCyVi
import Derived.Test.YtgecfnoecmjacaaGreatDoorRoUcVbVcCx
import Derived.Test.YtgecfnoecmjacaaGreatDoorUqRm
import Derived.Test.YtgecfnoecmjacaaGreatDoorRwNjUbVaVg
import Derived.Test.YtgecfnoecmjacaaGreatDoorVuVvUdLnWrIb
import Derived.Test.YtgecfnoecmjacaaGreatDoorCuOaOfJpRzCw
import Derived.Test.YtgecfnoecmjacaaGreatDoorVqUj
namespace Go.Proofs.YtgecfnoecmjacaaGreatDoor
open Go.RowKit
set_option linter.unusedVariables false
set_option linter.unusedSimpArgs false

/-- (x + a)^u, its entries. -/
def pwl (a : Int) : Nat → List Int
  | 0 => [1]
  | u + 1 => mulp (pwl a u) [a, 1]
/-- And as a function. -/
def pwf (a : Int) : Nat → Nat → Int
  | 0, t => if t = 0 then 1 else 0
  | u + 1, t => a * pwf a u t + (if t = 0 then 0 else pwf a u (t - 1))
theorem gx_pwl (a : Int) : ∀ u t, gx (pwl a u) t = pwf a u t
  | 0, t => by
    rw [pwl, pwf]
    cases t with
    | zero => rfl
    | succ t => rw [gx_cons_succ, if_neg (by omega)]; simp [gx]
  | u + 1, t => by
    rw [pwl, pwf, gx_mulp, ps_line, gx_pwl a u t]
    split
    · rfl
    · rw [gx_pwl a u (t - 1)]
theorem length_pwl (a : Int) : ∀ u, (pwl a u).length = u + 1
  | 0 => rfl
  | u + 1 => by
    have ih := length_pwl a u
    rw [pwl, mulp, if_neg (by rw [ih]; simp), length_mulz, ih]
    simp
theorem pwl_nrm (a : Int) : ∀ u, tlen (pwl a u) = (pwl a u).length
  | 0 => rfl
  | u + 1 => by
    have ih := pwl_nrm a u
    have hl := length_pwl a u
    rw [pwl, mulp, if_neg (by rw [hl]; simp), mulz_top ih (by rfl) (by omega) (by simp), length_mulz]
/-- The first i summands. -/
def spf (a : Int) (zs : List Int) : Nat → Nat → Int
  | 0, _ => 0
  | i + 1, t => spf a zs i t + gx zs i * pwf a i t
theorem spf_cons (a c : Int) (cs : List Int) (t : Nat) : ∀ i, spf a (c :: cs) (i + 1) t = c * pwf a 0 t + (a * spf a cs i t + (if t = 0 then 0 else spf a cs i (t - 1)))
  | 0 => by
    rw [spf, spf, spf, spf, gx_cons_zero]
    split <;> omega
  | i + 1 => by
    have e1 : spf a (c :: cs) (i + 1 + 1) t = spf a (c :: cs) (i + 1) t + gx (c :: cs) (i + 1) * pwf a (i + 1) t := rfl
    have e2 : pwf a (i + 1) t = a * pwf a i t + (if t = 0 then 0 else pwf a i (t - 1)) := rfl
    have e3 : spf a cs (i + 1) t = spf a cs i t + gx cs i * pwf a i t := rfl
    have e4 : spf a cs (i + 1) (t - 1) = spf a cs i (t - 1) + gx cs i * pwf a i (t - 1) := rfl
    rw [e1, spf_cons a c cs t i, gx_cons_succ, e2, e3, e4]
    generalize pwf a 0 t = P at *
    generalize spf a cs i t = S at *
    generalize spf a cs i (t - 1) = S1 at *
    generalize pwf a i t = Q at *
    generalize pwf a i (t - 1) = Q1 at *
    generalize gx cs i = g at *
    by_cases h : t = 0
    · rw [if_pos h, if_pos h, if_pos h]
      clear e1 e2 e3 e4
      grind
    · rw [if_neg h, if_neg h, if_neg h]
      clear e1 e2 e3 e4
      grind
/-- Composition is the sum over powers. -/
theorem co_spf (a : Int) : ∀ (zs : List Int) (t : Nat), co a zs t = spf a zs zs.length t
  | [], t => rfl
  | c :: cs, t => by
    rw [List.length_cons, spf_cons, ← co_spf a cs t]
    cases t with
    | zero =>
      rw [if_pos rfl, pwf, if_pos rfl]
      show c + a * co a cs 0 = _
      omega
    | succ t =>
      rw [if_neg (by omega), pwf, if_neg (by omega), Nat.add_sub_cancel, ← co_spf a cs t]
      show co a cs t + a * co a cs (t + 1) = _
      omega
end Go.Proofs.YtgecfnoecmjacaaGreatDoor
/-
  Two numbers behind Cut, as the laws hold them.
-/
namespace Go.Proofs.YtgecfnoecmjacaaGreatDoor
open Go.RowKit
set_option linter.unusedVariables false
set_option linter.unusedSimpArgs false

/-- Two numbers in variables of their own, behind Cut. -/
structure C2 (w wc : World) (sa sb : Bool) (pa pb : Option Addr) (na nac nb nbc : Nat) (xa xb : List Int) : Prop where
  a : Vr wc w.heap.size sa pa na nac (w.heap.size + 1 + 1) xa
  b : Vr wc (w.heap.size + 1) sb pb nb nbc (w.heap.size + 1 + 1) xb
  la : na ≤ 24
  lb : nb ≤ 24
  bel : Below w.heap.size w wc
theorem C2.later {w wc w' : World} {sa sb : Bool} {pa pb : Option Addr} {na nac nb nbc : Nat} {xa xb : List Int} (h : C2 w wc sa sb pa pb na nac nb nbc xa xb) (hb : Below wc.heap.size wc w') : C2 w w' sa sb pa pb na nac nb nbc xa xb :=
  ⟨h.a.later hb, h.b.later hb, h.la, h.lb, bnext h.bel (Nat.le_refl _) hb⟩


theorem keepc8 {w1 w2 : World} {a b c d e f g h : Addr} {u v x y z t r s : Value} (k : w1.cell? a = some u ∧ w1.cell? b = some v ∧ w1.cell? c = some x ∧ w1.cell? d = some y ∧ w1.cell? e = some z ∧ w1.cell? f = some t ∧ w1.cell? g = some r ∧ w1.cell? h = some s) (hb : Below w1.heap.size w1 w2) :
    w2.cell? a = some u ∧ w2.cell? b = some v ∧ w2.cell? c = some x ∧ w2.cell? d = some y ∧ w2.cell? e = some z ∧ w2.cell? f = some t ∧ w2.cell? g = some r ∧ w2.cell? h = some s :=
  ⟨cell_later hb k.1, cell_later hb k.2.1, cell_later hb k.2.2.1, cell_later hb k.2.2.2.1, cell_later hb k.2.2.2.2.1, cell_later hb k.2.2.2.2.2.1, cell_later hb k.2.2.2.2.2.2.1, cell_later hb k.2.2.2.2.2.2.2⟩
theorem unfr {W : World} {p : Option Addr} (h : Go.Proofs.YtgecfnoecmjacaaGreatDoor.From W.drew.heap.size p) : Go.Proofs.YtgecfnoecmjacaaGreatDoor.From W.heap.size p := h
theorem s4set {w : World} {b c g : Nat} {u v x y r s : Value} (h : w.cell? ⟨b, 0, none⟩ = some u ∧ w.cell? ⟨b, 1, none⟩ = some v ∧ w.cell? ⟨c, 0, none⟩ = some x ∧ w.cell? ⟨c, 1, none⟩ = some y) (h1 : b ≠ g) (h2 : c ≠ g) :
    ((w.setCell ⟨g, 0, none⟩ r).setCell ⟨g, 1, none⟩ s).cell? ⟨b, 0, none⟩ = some u ∧ ((w.setCell ⟨g, 0, none⟩ r).setCell ⟨g, 1, none⟩ s).cell? ⟨b, 1, none⟩ = some v ∧ ((w.setCell ⟨g, 0, none⟩ r).setCell ⟨g, 1, none⟩ s).cell? ⟨c, 0, none⟩ = some x ∧ ((w.setCell ⟨g, 0, none⟩ r).setCell ⟨g, 1, none⟩ s).cell? ⟨c, 1, none⟩ = some y := by
  obtain ⟨a1, a2, a3, a4⟩ := h
  refine ⟨?_, ?_, ?_, ?_⟩
  · rw [World.cell?_of_block (heap_setCell_other _ _ _ _ h1), World.cell?_of_block (heap_setCell_other _ _ _ _ h1)]; exact a1
  · rw [World.cell?_of_block (heap_setCell_other _ _ _ _ h1), World.cell?_of_block (heap_setCell_other _ _ _ _ h1)]; exact a2
  · rw [World.cell?_of_block (heap_setCell_other _ _ _ _ h2), World.cell?_of_block (heap_setCell_other _ _ _ _ h2)]; exact a3
  · rw [World.cell?_of_block (heap_setCell_other _ _ _ _ h2), World.cell?_of_block (heap_setCell_other _ _ _ _ h2)]; exact a4
/-- A reference number in a variable of its own, with its value. -/
structure Vx (w : World) (g : Nat) (s : Bool) (p : Option Addr) (n : Nat) (ds : List Int) (z : Int) : Prop where
  b : Bx w g (.bool s) (.slice p n n)
  r : RN w s p n ds
  v : rval s ds = z
  l : n ≤ 48
theorem Vx.later {w w' : World} {g : Nat} {s : Bool} {p : Option Addr} {n : Nat} {ds : List Int} {z : Int} (h : Vx w g s p n ds z) (hb : Below w.heap.size w w') : Vx w' g s p n ds z := ⟨h.b.later hb, h.r.below hb, h.v, h.l⟩
end Go.Proofs.YtgecfnoecmjacaaGreatDoor
/-
  ashlarref1.Power.
-/
namespace Go.Proofs.YtgecfnoecmjacaaGreatDoor
open Go.RowKit
set_option linter.unusedVariables false
set_option linter.unusedSimpArgs false

/-- What Power's variables hold. -/
structure Pv (w wr : World) (g : Nat) (s : Bool) (p : Option Addr) (n : Nat) (ds : List Int) (s1 : Bool) (p1 : Option Addr) (n1 : Nat) (d1 : List Int) : Prop where
  ba : Bx wr w.heap.size (.bool s) (.slice p n n)
  br : Bx wr (w.heap.size + 1) (.bool false) (.slice none 0 0)
  bp : Bx wr g (.bool s1) (.slice p1 n1 n1)
  ra : RN wr s p n ds
  r1 : RN wr s1 p1 n1 d1
  hg : w.heap.size + 2 ≤ g
  f1 : Go.Proofs.YtgecfnoecmjacaaGreatDoor.From (w.heap.size + 2) p1
  bel : Below w.heap.size w wr
theorem Pv.later {w wr w' : World} {g : Nat} {s : Bool} {p : Option Addr} {n : Nat} {ds : List Int} {s1 : Bool} {p1 : Option Addr} {n1 : Nat} {d1 : List Int} (h : Pv w wr g s p n ds s1 p1 n1 d1) (hb : Below wr.heap.size wr w') : Pv w w' g s p n ds s1 p1 n1 d1 :=
  ⟨h.ba.later hb, h.br.later hb, h.bp.later hb, h.ra.below hb, h.r1.below hb, h.hg, h.f1, h.bel.trans (hb.mono h.bel.size)⟩
/-- p = what is answered. -/
theorem Pv.put {w wr w' : World} {g : Nat} {s : Bool} {p : Option Addr} {n : Nat} {ds : List Int} {s1 : Bool} {p1 : Option Addr} {n1 : Nat} {d1 : List Int} {s2 : Bool} {p2 : Option Addr} {n2 : Nat} {d2 : List Int}
    (h : Pv w wr g s p n ds s1 p1 n1 d1) (hb : Below wr.heap.size wr w') (hp : 0 < n → ∀ x, p = some x → x.block < w.heap.size) (hr : RN w' s2 p2 n2 d2) (hf : Go.Proofs.YtgecfnoecmjacaaGreatDoor.From wr.heap.size p2) :
    Pv w ((w'.setCell ⟨g, 0, none⟩ (.bool s2)).setCell ⟨g, 1, none⟩ (.slice p2 n2 n2)) g s p n ds s2 p2 n2 d2 := by
  have k := h.later hb
  have hgw : g < wr.heap.size := block_lt_of_cell h.bp.c0
  have hg := h.hg
  exact ⟨Bx_oth k.ba (by omega), Bx_oth k.br (by omega), Bx_set k.bp, RN_st2 hp (by show _ ≤ g; omega) (RN_st2 hp (by show _ ≤ g; omega) k.ra), RN_st3 hf (by show g < _; omega) (RN_st3 hf (by show g < _; omega) hr), hg, hf.mono (by have := h.bel.size; omega), bset2 k.bel (by omega) _ _⟩

set_option maxRecDepth 100000 in
set_option maxHeartbeats 2000000 in
/-- ashlarref1.Power. -/
theorem rPower_any (s : Bool) (p : Option Addr) (n k : Nat) (ds : List Int) (w : World) (hA : RN w s p n ds) (hn : n ≤ 48) (hk : k ≤ 20) :
    Calls Tryz.prog 48 #[.agg #[.bool s, .slice p n n], .int .i64 k] w (RAns 1000 (rval s ds ^ k) w) := by
  have hpl := hA.lt
  have b1 : Bx ((w.alloc (.cells #[.bool s, .slice p n n] 35)).alloc (.cells #[.bool false, .slice none 0 0] 35)) w.heap.size (.bool s) (.slice p n n) := (Bx.new _ _ _ rfl).alloc _
  have b2 : Bx ((w.alloc (.cells #[.bool s, .slice p n n] 35)).alloc (.cells #[.bool false, .slice none 0 0] 35)) (w.heap.size + 1) (.bool false) (.slice none 0 0) := Bx.new _ _ _ (by rw [World.size_alloc])
  have hbw : Below w.heap.size w ((w.alloc (.cells #[.bool s, .slice p n n] 35)).alloc (.cells #[.bool false, .slice none 0 0] 35)) := bel_al (bel_al (Below.refl _ _))
  have hsz : w.heap.size + 2 ≤ ((w.alloc (.cells #[.bool s, .slice p n n] 35)).alloc (.cells #[.bool false, .slice none 0 0] 35)).heap.size := by simp
  go_enter Tryz.func48, Tryz.ntmps48
  go_wp2_with fail
  generalize ((w.alloc (.cells #[.bool s, .slice p n n] 35)).alloc (.cells #[.bool false, .slice none 0 0] 35)) = wc at *
  have hA1 := hA.below hbw
  refine (rOf_any 1 _ (by decide) (by decide)).mono ?_
  rintro e w4 ⟨s4, p4, n4, d4, rfl, hR4, hv4, hn4, hF4, hb4⟩
  have HP : Hid (Pv w (w4.alloc (.cells #[.bool s4, .slice p4 n4 n4] 35)) w4.heap.size s p n ds s4 p4 n4 d4 ∧ rval s4 d4 = rval s ds ^ 0 ∧ n4 ≤ 4) :=
    ⟨⟨(b1.later hb4).alloc _, (b2.later hb4).alloc _, Bx.new _ _ _ rfl, (hA1.below hb4).alloc _, hR4.alloc _, Nat.le_trans hsz hb4.size, hF4.mono hsz, (bnext hbw (Nat.le_refl _) hb4).alloc (Nat.le_trans hbw.size hb4.size) _⟩, by rw [hv4, Int.pow_zero], hn4⟩
  have HO : Hid (0 < n → ∀ x, p = some x → x.block < w.heap.size) := hpl
  clear hv4 hR4 hF4 hb4 b1 b2 hA1 hbw hpl hsz hn4
  go_wp2
  generalize w4.alloc (.cells #[.bool s4, .slice p4 n4 n4] 35) = wd at *
  generalize w4.heap.size = g at *
  go_loopw [6] (fun kv wr => ∃ (j : Nat) (s1 : Bool) (p1 : Option Addr) (n1 : Nat) (d1 : List Int), kv = .int .i64 j ∧ j ≤ k ∧ n1 ≤ 4 + 49 * j ∧ Hid (Pv w wr g s p n ds s1 p1 n1 d1 ∧ rval s1 d1 = rval s ds ^ j)) (fun kv _ => (k - intOf kv).toNat)
  case atStart => exact ⟨0, s4, p4, n4, d4, rfl, Nat.zero_le _, HP.out.2.2, HP.out.1, HP.out.2.1⟩
  case round =>
    obtain ⟨j, s1, p1, n1, d1, rfl, hj, hn1, H⟩ := hrel
    have c0 := H.out.1.bp.c0
    have c1 := H.out.1.bp.c1
    by_cases hjk : j = k
    · subst hjk
      have z0 := H.out.1.br.c0
      have z1 := H.out.1.br.c1
      have f0 := H.out.1.br.f0
      have f1 := H.out.1.br.f1
      go_wp2
      refine bodyPost_ret (v := .agg #[.bool s1, .slice p1 n1 n1]) (by simp [results, Tryz.results48, go_sem, c0, c1, z0, z1]) rfl ⟨_, _, _, d1, rfl, ?_, H.out.2, by omega, ?_, ?_⟩
      · exact RN_st3 H.out.1.f1 (Nat.lt_succ_self _) (RN_st3 H.out.1.f1 (Nat.lt_succ_self _) H.out.1.r1)
      · exact H.out.1.f1.mono (by omega)
      · exact bset2 H.out.1.bel (by omega) _ _
    · have hlt : j < k := by omega
      have a0 := H.out.1.ba.c0
      have a1 := H.out.1.ba.c1
      have hml := rMul_rn H.out.1.r1 H.out.1.ra (by omega) (by omega)
      go_wp2_with fail
      refine hml.mono ?_
      rintro e w1 ⟨s2, p2, n2, d2, rfl, hR2, hv2, hn2, hF2, hb2⟩
      have HQ : Hid (Pv w ((w1.setCell ⟨g, 0, none⟩ (.bool s2)).setCell ⟨g, 1, none⟩ (.slice p2 n2 n2)) g s p n ds s2 p2 n2 d2 ∧ rval s2 d2 = rval s ds ^ (j + 1)) :=
        ⟨H.out.1.put hb2 HO.out hR2 hF2, by rw [hv2, H.out.2, Int.pow_succ]⟩
      have hV1 := H.out.1.later hb2
      obtain ⟨x0, x1, x2, x3⟩ := hV1.bp
      clear c0 c1 a0 a1 hml hv2 hV1
      go_wp2
      refine ⟨⟨j + 1, s2, p2, n2, d2, by go_num, by omega, by omega, HQ.out⟩, by simp [intOf]; omega⟩
end Go.Proofs.YtgecfnoecmjacaaGreatDoor
/-
  ashlarref3.Is of an answer that is right.
-/
namespace Go.Proofs.YtgecfnoecmjacaaGreatDoor
open Go.RowKit
set_option linter.unusedVariables false
set_option linter.unusedSimpArgs false

theorem rIs_e {B : Nat} {w : World} {K N : Nat} {z : Int} {e f : Ent} (h : NV B w K z e) (hK : K ≤ 1000) (k : RE w N z f) (hN : N ≤ 1000) :
    Calls Tryz.prog 26 #[.agg #[.bool e.s, .slice e.p e.n e.c], .agg #[.bool f.s, .slice f.p f.n f.c]] w fun r w' => r = .returned (.bool true) ∧ Below w.heap.size w w' := by
  obtain ⟨xs, h1, h2, h3⟩ := h
  obtain ⟨⟨ds, k1, k2, k3⟩, k4⟩ := k
  rw [h2, k4]
  exact rIs_any h1 (by omega) k1.len (by omega) k1.rd k1.u k1.nrm k1.sg k2
theorem NV.drew {B : Nat} {w : World} {K : Nat} {z : Int} {e : Ent} (h : NV B w K z e) : NV B w.drew K z e := by
  obtain ⟨xs, h1, h2⟩ := h
  exact ⟨xs, h1.drew, h2⟩
set_option maxHeartbeats 2000000 in
set_option maxRecDepth 100000 in
/-- ashlarref3.Is. -/
theorem rpIs_any {B : Nat} {w : World} {K N : Nat} {p q : Option Addr} {n nc : Nat} {es fs : List Ent} {zs : List Int} (h : PN B w K p n es zs) (k : PR w N q n nc fs zs) (hK : K ≤ 1000) (hN : N ≤ 1000) (hn : n ≤ 1000000) :
    Calls Tryz.prog 14 #[.slice p n n, .slice q n nc] w fun r w' => r = .returned (.bool true) ∧ Below w.heap.size w w' := by
  have hel := h.el
  have hfl := k.el
  go_enter Tryz.func14, Tryz.ntmps14
  go_wp2_with fail
  go_loopw [5, 6] (fun iv sv wr => ∃ j : Nat, j ≤ n ∧ iv = .int .i64 j ∧ Hid (Below w.heap.size w wr)) (fun iv _ _ => n - (intOf iv).toNat)
  case atStart => exact ⟨0, Nat.zero_le _, by go_num, Below.refl _ _⟩
  case round =>
    obtain ⟨j, hj, rfl, H⟩ := hrel
    rcases Nat.lt_or_ge j n with hlt | hge
    · have hh := h.below H.out
      have hk := k.below H.out
      have hv := hh.ev j hlt
      have hw := hk.ev j hlt
      obtain ⟨b, o, hp, hc⟩ := hh.pl (by omega)
      obtain ⟨c, r, hq, hd⟩ := hk.pl (by omega)
      subst hp hq
      obtain ⟨c0, c1⟩ := hc j (by omega)
      obtain ⟨d0, d1⟩ := hd j (by omega)
      clear hc hd hh hk
      go_wp2_with fail
      go_region_held3 (fun w' => w'.cell? ⟨b, o + j * 2, none⟩ = some (.bool (ge es j).s) ∧ w'.cell? ⟨b, o + j * 2 + 1, none⟩ = some (.slice (ge es j).p (ge es j).n (ge es j).c) ∧ w'.cell? ⟨c, r + j * 2, none⟩ = some (.bool (ge fs j).s) ∧ w'.cell? ⟨c, r + j * 2 + 1, none⟩ = some (.slice (ge fs j).p (ge fs j).n (ge fs j).c)) (first | with_reducible exact ⟨c0, c1, d0, d1⟩ | with_reducible exact keepc4 ⟨c0, c1, d0, d1⟩ hV1 | (simp [go_sem, *]; done))
        (first
          | (go_at_call 26; refine (rIs_e (hv.drew) hK hw.drew hN).mono ?_; rintro e w1 ⟨rfl, hb1⟩; have hV1 := undrew hb1))
      have hB := bnext' H.out hV1
      clear c0 c1 d0 d1 hv hw
      go_wp2
      go_roundw
      case rel => exact ⟨j + 1, by omega, by go_num, hB⟩
      case measure => simp [intOf]; omega
    · obtain rfl : j = n := by omega
      go_wp2
      go_ret
      exact ⟨rfl, H.out⟩
end Go.Proofs.YtgecfnoecmjacaaGreatDoor
/-
  ashlarref1.Bits, and that it is limbs.Bits' number.
-/
namespace Go.Proofs.YtgecfnoecmjacaaGreatDoor
open Go.RowKit
set_option linter.unusedVariables false
set_option linter.unusedSimpArgs false

set_option maxHeartbeats 1000000 in
/-- ashlarref1.Bits. -/
theorem rBits_any (s : Bool) (p : Option Addr) (n nc : Nat) (ds : List Int) (w : World) (hl : ds.length = n) (hs : n ≤ 1000000) (ht : tlen ds = n) (hX : Rd w p .i64 ds) (hU : U16 ds) :
    Calls Tryz.prog 76 #[.agg #[.bool s, .slice p n nc]] w fun e w' => ∃ b : Nat, e = .returned (.int .i64 (b : Int)) ∧ Hid (IB b (vd ds)) ∧ Below w.heap.size w w' := by
  rcases Nat.eq_zero_or_pos n with h0 | h0
  · subst h0
    obtain rfl : ds = [] := List.eq_nil_of_length_eq_zero hl
    go_enter Tryz.func76, Tryz.ntmps76
    go_wp2
    go_ret
    exact ⟨0, rfl, ⟨by decide, by decide, .inl rfl⟩, (Below.refl _ _).alloc (Nat.le_refl _) _⟩
  · obtain ⟨j, rfl⟩ : ∃ j, n = j + 1 := ⟨n - 1, by omega⟩
    have HL : Hid (ds.length = j + 1 ∧ tlen ds = j + 1) := ⟨hl, ht⟩
    obtain ⟨b, off, rfl, hc⟩ := (hX.alloc (.cells #[.bool s, .slice p (j + 1) nc] 35)) (by omega)
    have hcj := hc j (by omega)
    obtain ⟨b0, b1⟩ := hU j
    clear hc hl ht
    have hz : (((j + 1 : Nat) : Int) == 0) = false := beq_eq_false_iff_ne.2 (by omega)
    have hz' : ((j : Int) + 1 == 0) = false := beq_eq_false_iff_ne.2 (by omega)
    go_enter Tryz.func76, Tryz.ntmps76
    go_wp2
    go_loop [4, 5] (fun kv tv => ∃ (k : Nat) (t : Int), kv = .int .i64 k ∧ tv = .int .i64 t ∧ 0 ≤ t ∧ t < 65536 ∧ k ≤ 16 ∧ Hid (t = gx ds j / 2 ^ k ∧ (k = 0 ∨ (2 : Int) ^ (k - 1) ≤ gx ds j))) (fun _ tv => (intOf tv).toNat)
    case atStart => exact ⟨0, gx ds j, rfl, rfl, b0, b1, by decide, by simp, .inl rfl⟩
    case round =>
      obtain ⟨k, t, rfl, rfl, t0, t1, hk, H⟩ := hrel
      have hp : (0 : Int) < 2 ^ k := Int.pow_pos (by decide)
      have hdm := Int.emod_add_mul_ediv (gx ds j) (2 ^ k)
      have hm0 := Int.emod_nonneg (gx ds j) (show (2 : Int) ^ k ≠ 0 by omega)
      have hm1 := Int.emod_lt_of_pos (gx ds j) hp
      have HD : Hid (gx ds j % 2 ^ k + 2 ^ k * (gx ds j / 2 ^ k) = gx ds j ∧ 0 ≤ gx ds j % 2 ^ k ∧ gx ds j % 2 ^ k < 2 ^ k ∧ (0 : Int) < 2 ^ k) := ⟨hdm, hm0, hm1, hp⟩
      clear hp hdm hm0 hm1
      by_cases ht : 0 < t
      · have q1 : t.tdiv 2 = t / 2 := Int.tdiv_eq_ediv_of_nonneg t0
        have hge : Hid ((2 : Int) ^ k ≤ gx ds j) := by
          obtain ⟨e1, e2, e3, e4⟩ := HD.out
          have e5 := H.out.1
          have : (2 : Int) ^ k * 1 ≤ 2 ^ k * (gx ds j / 2 ^ k) := Int.mul_le_mul_of_nonneg_left (by omega) (by omega)
          show _ ≤ _
          omega
        have hk15 : k + 1 ≤ 16 := by
          rcases Nat.lt_or_ge k 16 with h | h
          · omega
          · exfalso
            have h2 := p2_mono h
            have h3 := hge.out
            have h4 : (2 : Int) ^ 16 = 65536 := rfl
            omega
        go_wp2
        go_round
        case rel =>
          refine ⟨k + 1, t / 2, by go_num, rfl, by omega, by omega, hk15, ?_, .inr (by rw [Nat.add_sub_cancel]; exact hge.out)⟩
          rw [H.out.1, Int.ediv_ediv_of_nonneg (Int.le_of_lt HD.out.2.2.2), Int.pow_succ]
        case measure => simp [intOf]; omega
      · obtain rfl : t = 0 := by omega
        go_wp2
        go_ret
        refine ⟨16 * j + k, by go_num, ?_, (Below.refl _ _).alloc (Nat.le_refl _) _⟩
        have hL := HL.out
        have hib : IB k (gx ds (ds.length - 1)) := by
          rw [hL.1, Nat.add_sub_cancel]
          refine ⟨b0, ?_, H.out.2⟩
          obtain ⟨e1, e2, e3, e4⟩ := HD.out
          have e5 := H.out.1
          rw [← e5, Int.mul_zero] at e1
          omega
        have := digits_ib hU (by omega) (by omega) hib
        rw [hL.1, Nat.add_sub_cancel] at this
        exact this
theorem vd_val {s t : Bool} {ds xs : List Int} (h : rval s ds = ival t xs) (hd : U16 ds) (hx : U32 xs) : vd ds = val xs := by
  have h1 := vd_nonneg hd
  have h2 := val_nonneg hx
  cases s <;> cases t <;> simp [rval, ival] at h <;> omega
/-- Both tell the same. -/
theorem bits_same {xs ds : List Int} {b : Nat} (h : U32 xs) (hv : vd ds = val xs) (hb : IB b (vd ds)) : nbits xs = (b : Int) := by
  obtain ⟨c, hc, hI⟩ := nbits_ib h
  rw [hc, hb.uniq (hv ▸ hI)]
end Go.Proofs.YtgecfnoecmjacaaGreatDoor
/-
  ashlarref3.Deg, Bits.
-/
namespace Go.Proofs.YtgecfnoecmjacaaGreatDoor
open Go.RowKit
set_option linter.unusedVariables false
set_option linter.unusedSimpArgs false

theorem rBits_w {w : World} {N : Nat} {x : Int} {s : Bool} {p : Option Addr} {n : Nat} (h : RV w N x s p n) (hN : N ≤ 1000) :
    Calls Tryz.prog 76 #[.agg #[.bool s, .slice p n n]] w fun e w' => ∃ b : Nat, e = .returned (.int .i64 (b : Int)) ∧ b ≤ 16 * N ∧ Hid (IB b (x.natAbs : Int)) ∧ Below w.heap.size w w' := by
  have hbd := h.bd
  obtain ⟨ds, h1, rfl, h3⟩ := h
  have a := vd_nonneg h1.u
  have e : ((rval s ds).natAbs : Int) = vd ds := by unfold rval; split <;> omega
  rw [e] at hbd ⊢
  refine (rBits_any s p n n ds w h1.len (by omega) h1.nrm h1.rd h1.u).mono ?_
  rintro e w' ⟨b, g1, g2, g3⟩
  refine ⟨b, g1, ?_, g2, g3⟩
  have hp : pd N = 2 ^ (16 * N) := by rw [pd, show (65536 : Int) = 2 ^ 16 from rfl, ← Int.pow_mul]
  rcases Nat.lt_or_ge (16 * N) b with hb | hb
  · rcases g2.out.2.2 with k | k
    · omega
    · have := p2_mono (show 16 * N ≤ b - 1 by omega)
      omega
  · exact hb
theorem rBits_e {w : World} {N : Nat} {z : Int} {e : Ent} (h : RE w N z e) (hN : N ≤ 1000) :
    Calls Tryz.prog 76 #[.agg #[.bool e.s, .slice e.p e.n e.c]] w fun r w' => r = .returned (.int .i64 (zb z)) ∧ zb z ≤ 16 * N ∧ Below w.heap.size w w' := by
  obtain ⟨h1, h2⟩ := h
  rw [h2]
  refine (rBits_w h1 hN).mono ?_
  rintro r w' ⟨b, rfl, hl, hI, hb⟩
  have e2 := hI.out.uniq (zb_ib z)
  subst e2
  exact ⟨rfl, hl, hb⟩
set_option maxHeartbeats 2000000 in
set_option maxRecDepth 100000 in
/-- ashlarref3.Deg. -/
theorem rpDeg_any (p : Option Addr) (n nc : Nat) (w : World) (hn : n ≤ 1000000) :
    Calls Tryz.prog 30 #[.slice p n nc] w fun r w' => r = .returned (.int .i64 ((n : Int) - 1)) ∧ Below w.heap.size w w' := by
  have v1 : IntKind.i64.wrap ((n : Int) - 1) = (n : Int) - 1 := by rw [IntKind.wrap_i64]; omega
  go_enter Tryz.func30, Tryz.ntmps30
  go_wp2
  go_ret
  exact ⟨rfl, Below.refl _ _⟩
set_option maxHeartbeats 2000000 in
set_option maxRecDepth 100000 in
/-- ashlarref3.Bits. -/
theorem rpBits_any {w : World} {N : Nat} {q : Option Addr} {n nc : Nat} {fs : List Ent} {zs : List Int} (k : PR w N q n nc fs zs) (hN : N ≤ 1000) (hn : n ≤ 1000000) :
    Calls Tryz.prog 32 #[.slice q n nc] w fun r w' => r = .returned (.int .i64 (pb zs)) ∧ Below w.heap.size w w' := by
  have hfl := k.el
  have hzl := k.zl
  go_enter Tryz.func32, Tryz.ntmps32
  go_wp2_with fail
  go_loopw [3, 4, 5] (fun mv kv cv wr => ∃ j : Nat, j ≤ n ∧ kv = .int .i64 j ∧ mv = .int .i64 (pb (zs.take j)) ∧ Hid (pb (zs.take j) ≤ 16 * N ∧ Below w.heap.size w wr)) (fun _ kv _ _ => n - (intOf kv).toNat)
  case atStart => exact ⟨0, Nat.zero_le _, by go_num, by simp [pb], by simp [pb], Below.refl _ _⟩
  case round =>
    obtain ⟨j, hj, rfl, rfl, H⟩ := hrel
    rcases Nat.lt_or_ge j n with hlt | hge
    · have hh := k.below H.out.2
      have hv := hh.ev j hlt
      obtain ⟨b, o, hp, hc⟩ := hh.pl (by omega)
      subst hp
      obtain ⟨c0, c1⟩ := hc j (by omega)
      have HT : Hid (pb (zs.take (j + 1)) = max (pb (zs.take j)) (zb (gx zs j))) := pb_take zs j (by omega)
      clear hc hh
      go_wp2_with fail
      refine (rBits_e hv hN).mono ?_
      rintro e w1 ⟨rfl, hz, hb1⟩
      have hB := bnext' H.out.2 hb1
      clear c0 c1 hv hb1
      by_cases hgt : (pb (zs.take j) : Int) < (zb (gx zs j) : Int)
      · have e1 : pb (zs.take (j + 1)) = zb (gx zs j) := by rw [HT.out]; omega
        have HE : Hid (pb (zs.take (j + 1)) = zb (gx zs j)) := e1
        clear e1
        go_wp2
        go_roundw
        case rel => exact ⟨j + 1, by omega, by go_num, by rw [HE.out], by rw [HE.out]; exact hz, hB⟩
        case measure => simp [intOf]; omega
      · have e1 : pb (zs.take (j + 1)) = pb (zs.take j) := by rw [HT.out]; omega
        have HE : Hid (pb (zs.take (j + 1)) = pb (zs.take j)) := e1
        clear e1
        go_wp2
        go_roundw
        case rel => exact ⟨j + 1, by omega, by go_num, by rw [HE.out], by rw [HE.out]; exact H.out.1, hB⟩
        case measure => simp [intOf]; omega
    · obtain rfl : j = n := by omega
      have HT : Hid (zs.take j = zs) := List.take_of_length_le (by omega)
      clear hge
      go_wp2
      go_ret
      obtain ⟨h1, h2⟩ := H.out
      exact ⟨by rw [HT.out]; rfl, h2⟩
end Go.Proofs.YtgecfnoecmjacaaGreatDoor
