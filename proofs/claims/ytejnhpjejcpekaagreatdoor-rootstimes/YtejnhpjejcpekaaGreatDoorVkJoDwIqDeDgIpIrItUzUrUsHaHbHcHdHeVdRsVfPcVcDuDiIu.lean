/-
  ashlarlaw3.few.
-/
import Derived.Test.YtejnhpjejcpekaaGreatDoorVbDaCxRbCyViVuWxUpUq
import Derived.Test.YtejnhpjejcpekaaGreatDoorKdRzCwDj
import Derived.Test.YtejnhpjejcpekaaGreatDoorOaOfJpDhFr
import Derived.Test.YtejnhpjejcpekaaGreatDoorUjBsLeUkUiWiWjUlDdReRxRfRhCqRrRw
import Derived.Test.YtejnhpjejcpekaaGreatDoorGfGgUnWfUuUxUtUvUwUyInU0TaTbTc
import Derived.Test.YtejnhpjejcpekaaGreatDoorDfVlVsVtVvVnVr
import Derived.Test.YtejnhpjejcpekaaGreatDoorVaVgRo
import Derived.Test.YtejnhpjejcpekaaGreatDoorBxBbCvNjUbUcUdOw
import Derived.Deep.DeepFit
import Derived.Test.YtejnhpjejcpekaaGreatDoorDnU7W1U9
import Derived.StillTailTactics
import Derived.Deep.RegionHeld3
import Derived.Test.YtejnhpjejcpekaaGreatDoorDcUmUoDmDvPmDqGaGbKpGcGdGeQa
import Derived.Test.YtejnhpjejcpekaaGreatDoorUeUfUg
import Derived.RangeFuncNested
import Derived.RangeFuncBound
import Derived.RangeFuncCalls
import Derived.RangeFuncLeaves
import Derived.Shelf.Abstract
import Derived.Shelf.RegionOpen
import Derived.WalkKit
import Derived.OwnWalkIn
import Derived.TacticsInMore
import Derived.LoopNIn
import Derived.LoopIn
import Derived.Test.YtejnhpjejcpekaaGreatDoorU5WvUh
import Derived.Test.YtejnhpjejcpekaaGreatDoorRjRg
import Derived.Test.YtejnhpjejcpekaaGreatDoorRmRpDkDlDbRi
import Derived.Test.YtejnhpjejcpekaaGreatDoorRvCzTeZaYa
namespace Go.Proofs.YtejnhpjejcpekaaGreatDoor
open Go.RowKit
set_option linter.unusedVariables false
set_option linter.unusedSimpArgs false
set_option maxHeartbeats 8000000
theorem pz_lit {W : World} {g : Nat} {e : Ent} (h0 : W.cell? ⟨g, 0, none⟩ = some (.bool e.s)) (h1 : W.cell? ⟨g, 1, none⟩ = some (.slice e.p e.n e.c)) (hr : RawE W e) : PZ W (some ⟨g, 0, none⟩) 1 1 [e] :=
  ⟨rfl, Nat.le_refl _, by decide, nofun, fun _ => ⟨g, 0, rfl, fun j hj => by
    obtain rfl : j = 0 := by simp at hj; omega
    exact ⟨h0, h1⟩⟩, fun j hj => by
    obtain rfl : j = 0 := by omega
    exact hr⟩
theorem cells_lit (w : World) (x y : Value) (t : Nat) : (w.alloc (.cells #[x, y] t)).cell? ⟨w.heap.size, 0, none⟩ = some x ∧ (w.alloc (.cells #[x, y] t)).cell? ⟨w.heap.size, 1, none⟩ = some y := ⟨by simp [go_sem], by simp [go_sem]⟩
theorem rFrom_e {w : World} {K : Nat} {z : Int} {e : Ent} (h : EV w K z e) :
    Calls Tryz.prog 12 #[.agg #[.bool e.s, .slice e.p e.n e.c]] w fun r w' => ∃ u : Ent, r = .returned (.agg #[.bool u.s, .slice u.p u.n u.c]) ∧ RE w' (2 * K) z u ∧ Go.Proofs.YtejnhpjejcpekaaGreatDoor.From w.heap.size u.p ∧ Below w.heap.size w w' := by
  obtain ⟨xs, h1, h2, h3⟩ := h
  refine (From_ansF e.s e.p e.n e.c xs w h1).mono ?_
  rintro r w1 ⟨s, p, n, d, rfl, h4, h5, h6, h7, h8⟩
  exact ⟨⟨s, p, n, n⟩, rfl, ⟨⟨d, h4, by rw [h5, h2], by show n ≤ _; omega⟩, rfl⟩, h7, h8⟩
theorem rTo_e {w : World} {N K : Nat} {z : Int} {e : Ent} (h : RE w N z e) (hN : N ≤ 1000) (hK : N ≤ 2 * K) :
    Calls Tryz.prog 40 #[.agg #[.bool e.s, .slice e.p e.n e.c]] w fun r w' => ∃ u : Ent, r = .returned (.agg #[.bool u.s, .slice u.p u.n u.c]) ∧ EV w' K z u ∧ Go.Proofs.YtejnhpjejcpekaaGreatDoor.From w.heap.size u.p ∧ Below w.heap.size w w' := by
  obtain ⟨⟨ds, h1, h2, h3⟩, h4⟩ := h
  refine (rTo_anyF e.s e.p e.n e.c ds w h1.len (by omega) h1.rd h1.u).mono ?_
  rintro r w' ⟨p', m, cap, g1, g2, g3, g4, g5⟩
  have hm := g3.out
  refine ⟨⟨e.s, p', m, cap⟩, g1, ⟨jn ds m, g2, ?_, by show m ≤ K; omega⟩, g4, g5⟩
  show ival e.s (jn ds m) = z
  rw [← h2, ival, rval, val_jn, List.take_of_length_le (by rw [h1.len]; omega)]
def ToP (zs : List Int) (K : Nat) (w : World) (e : Ending) (w' : World) : Prop :=
  ∃ q m mc fs, e = .returned (.slice q m mc) ∧ PA w' K q m mc fs zs ∧ Below w.heap.size w w'
set_option maxRecDepth 100000 in
theorem rpTo_any {w : World} {N K : Nat} {p : Option Addr} {n nc : Nat} {es0 : List Ent} {zs : List Int} (h : PR w N p n nc es0 zs) (hn : n ≤ 100000) (hN : N ≤ 1000) (hK : N ≤ 2 * K) :
    Calls Tryz.prog 16 #[.slice p n nc] w (ToP zs K w) := by
  obtain ⟨i0, hi, hzz⟩ := Option.map_eq_some_iff.1 info_apiI
  simp only [Prod.mk.injEq] at hzz
  obtain ⟨hz0, hz1, hz2⟩ := hzz
  have HI : Hid (Tryz.prog.info? 26 = some i0 ∧ i0.zero = some (.agg #[.bool false, .slice none 0 0]) ∧ i0.size = 2 ∧ i0.bytes = 32) := ⟨hi, hz0, hz1, hz2⟩
  have HX : Hid (PR w N p n nc es0 zs) := h
  have hzl := h.zl
  clear h hi hz0 hz1 hz2
  go_enter Tryz.func16, Tryz.ntmps16
  go_wp2_with fail
  go_loopw [3, 4] (fun qv iv wr => ∃ (k : Nat) (es : List Ent), k ≤ n ∧ iv = .int .i64 k ∧ Hid (es.length = k ∧ LG w.heap.size 26 (fun w z e => EV w K z e) wr qv es (zs.take k) ∧ Below w.heap.size w wr)) (fun _ iv _ => n - (intOf iv).toNat)
  case atStart => exact ⟨0, [], Nat.zero_le _, by go_num, rfl, by rw [List.take_zero]; exact LG.nil _ _ _ _, Below.refl _ _⟩
  case round =>
    obtain ⟨k, es, hk, rfl, H⟩ := hrel
    rcases Nat.lt_or_ge k n with hlt | hge
    · obtain ⟨hel, hLR, hB⟩ := H.out
      have hPR := HX.out.below hB
      obtain ⟨b, o, hp, hc⟩ := hPR.pl (by rw [hPR.el]; omega)
      subst hp
      obtain ⟨c0, c1⟩ := hc k (by rw [hPR.el]; omega)
      have hto := rTo_e (hPR.ev k hlt) hN hK
      clear hel hLR hB hc hPR
      go_wp2_with fail
      refine hto.mono ?_
      rintro e w1 ⟨u, rfl, hu, hF1, hb1⟩
      clear c0 c1 hto
      obtain ⟨hi, hz0, hz1, hz2⟩ := HI.out
      have hown0 := own_below H.out.2.1.own hb1
      rw [H.out.1] at hown0
      have HO : Hid (w1.ownsRow w.heap.size 26 2 u3 k (fl es)) := hown0
      have hsz : w.heap.size ≤ w1.heap.size := Nat.le_trans H.out.2.2.size hb1.size
      have HE : Hid (EV w1 K (gx zs k) u) := hu
      clear hown0 hu
      go_wp2_with (refine wpList_append_lies _ rfl _ _ 23 rfl w.heap.size 26 i0 (.agg #[.bool false, .slice none 0 0]) 2 32 Tryz.underlying23 hi hz0 hz1 hz2 rfl (by decide) u3 k (fl es) rfl (HO.out.alloc _) ⟨w1.heap.size, 0, none⟩ 1 1 [.bool u.s, .slice u.p u.n u.c] rfl rfl ?_ (fun x hx => by simp at hx; rcases hx with rfl | rfl <;> rfl) (by decide) (by unfold maxLen; omega) (by omega) (by simp; omega) _ rfl ?_; exact World.news_of_block (heap_alloc_new w1 _); intro g cap w3 hown3 hgrow3 hat3 hlt3; have hB3 : Below w.heap.size w w3 := ((bnext' H.out.2.2 hb1).alloc hsz _).grown hgrow3 (by simp; omega) (fun q hq => (HO.out.lt q hq).1); have HA : Hid (LG w.heap.size 26 (fun w z e => EV w K z e) w3 (.slice (some ⟨g, 0, none⟩) (k + 1) cap) (es ++ [u]) (zs.take k ++ [gx zs k])) := LG.app (lasts_EV K) H.out.1 H.out.2.1 hb1 HE.out (fun h0 a ha => .inr (hF1 a ha)) hown3 hgrow3 hat3; clear hown3 hgrow3 hat3)
      refine ⟨⟨k + 1, es ++ [u], by omega, by go_num, by have := H.out.1; simp; omega, by rw [take_snocg zs k (by omega)]; exact HA.out, hB3⟩, by simp [intOf]; omega⟩
    · obtain rfl : k = n := by omega
      obtain ⟨hel, hLR, hB⟩ := H.out
      rw [List.take_of_length_le (by omega)] at hLR
      obtain ⟨q, cap, hv, hc1, hc2, hPL, hF, hpn⟩ := hLR.pl
      have hev := hLR.ev
      subst hv
      rw [hel] at hev hc1 ⊢
      have HR : Hid (ToP zs K w (.returned (.slice q k cap)) wr) := ⟨q, _, cap, es, rfl, ⟨hel, hzl, hc1, hc2, hpn, hPL, hev⟩, hB⟩
      clear H hLR hev hPL hF hB hge
      go_wp2
      go_ret
      exact HR.out
section
variable (L : Int) (b : List Int) (m K0 : Nat) (a : Nat → Int)
end
section
variable {w wr w' : World} {g gp M n KL s : Nat} {us : List Ent} {F G : Nat → Int} {L : Int} {l f u : Ent} {N N' : Nat → Prop}
end
section
variable {w wr w' : World} {g gp g2 M m R KL k k1 : Nat} {us vs : List Ent} {F G H : Nat → Int} {L : Int} {l f u : Ent}
end
open Go.RowKit Go.Shelf
attribute [local go_sem] Oper.semAt_some
attribute [local go_sem] Oper.semAt_some
theorem rIs_e {B : Nat} {w : World} {K N : Nat} {z : Int} {e f : Ent} (h : NV B w K z e) (hK : K ≤ 1000) (k : RE w N z f) (hN : N ≤ 1000) :
    Calls Tryz.prog 52 #[.agg #[.bool e.s, .slice e.p e.n e.c], .agg #[.bool f.s, .slice f.p f.n f.c]] w fun r w' => r = .returned (.bool true) ∧ Below w.heap.size w w' := by
  obtain ⟨xs, h1, h2, h3⟩ := h
  obtain ⟨⟨ds, k1, k2, k3⟩, k4⟩ := k
  rw [h2, k4]
  exact rIs_any h1 (by omega) k1.len (by omega) k1.rd k1.u k1.nrm k1.sg k2
theorem NV.drew {B : Nat} {w : World} {K : Nat} {z : Int} {e : Ent} (h : NV B w K z e) : NV B w.drew K z e := by
  obtain ⟨xs, h1, h2⟩ := h
  exact ⟨xs, h1.drew, h2⟩
structure Pv (w wr : World) (g : Nat) (s : Bool) (p : Option Addr) (n : Nat) (ds : List Int) (s1 : Bool) (p1 : Option Addr) (n1 : Nat) (d1 : List Int) : Prop where
  ba : Bx wr w.heap.size (.bool s) (.slice p n n)
  br : Bx wr (w.heap.size + 1) (.bool false) (.slice none 0 0)
  bp : Bx wr g (.bool s1) (.slice p1 n1 n1)
  ra : RN wr s p n ds
  r1 : RN wr s1 p1 n1 d1
  hg : w.heap.size + 2 ≤ g
  f1 : Go.Proofs.YtejnhpjejcpekaaGreatDoor.From (w.heap.size + 2) p1
  bel : Below w.heap.size w wr
set_option maxRecDepth 100000 in
theorem rpIs_c {B : Nat} {w : World} {K N : Nat} {p q : Option Addr} {n n' pc nc : Nat} {es fs : List Ent} {zs : List Int} (h : PN B w K p n es zs) (k : PR w N q n' nc fs zs) (hK : K ≤ 1000) (hN : N ≤ 1000) (hn : n ≤ 1000000) :
    Calls Tryz.prog 19 #[.slice p n pc, .slice q n' nc] w fun r w' => r = .returned (.bool true) ∧ Below w.heap.size w w' := by
  obtain rfl : n' = n := by rw [← h.zl, ← k.zl]
  have hel := h.el
  have hfl := k.el
  go_enter Tryz.func19, Tryz.ntmps19
  go_wp2_with fail
  go_loopw [5, 6] (fun iv sv wr => ∃ j : Nat, j ≤ n' ∧ iv = .int .i64 j ∧ Hid (Below w.heap.size w wr)) (fun iv _ _ => n' - (intOf iv).toNat)
  case atStart => exact ⟨0, Nat.zero_le _, by go_num, Below.refl _ _⟩
  case round =>
    obtain ⟨j, hj, rfl, H⟩ := hrel
    rcases Nat.lt_or_ge j n' with hlt | hge
    · have hh := h.below H.out
      have hk := k.below H.out
      have hv := hh.ev j hlt
      have hw := hk.ev j hlt
      obtain ⟨b, o, hp, hc⟩ := hh.pl (by omega)
      obtain ⟨c, r, hq, hd⟩ := hk.pl (by omega)
      subst hp hq
      obtain ⟨c0, c1⟩ := hc j (by omega)
      obtain ⟨d0, d1⟩ := hd j (by omega)
      clear hc hd hh hk
      go_wp2_with fail
      go_region_held3 (fun w' => w'.cell? ⟨b, o + j * 2, none⟩ = some (.bool (ge es j).s) ∧ w'.cell? ⟨b, o + j * 2 + 1, none⟩ = some (.slice (ge es j).p (ge es j).n (ge es j).c) ∧ w'.cell? ⟨c, r + j * 2, none⟩ = some (.bool (ge fs j).s) ∧ w'.cell? ⟨c, r + j * 2 + 1, none⟩ = some (.slice (ge fs j).p (ge fs j).n (ge fs j).c)) (first | with_reducible exact ⟨c0, c1, d0, d1⟩ | with_reducible exact keepc4 ⟨c0, c1, d0, d1⟩ hV1 | (simp [go_sem, *]; done))
        (first
          | (go_at_call 52; refine (rIs_e (hv.drew) hK hw.drew hN).mono ?_; rintro e w1 ⟨rfl, hb1⟩; have hV1 := undrew hb1))
      have hB := bnext' H.out hV1
      clear c0 c1 d0 d1 hv hw
      go_wp2
      go_roundw
      case rel => exact ⟨j + 1, by omega, by go_num, hB⟩
      case measure => simp [intOf]; omega
    · obtain rfl : j = n' := by omega
      go_wp2
      go_ret
      exact ⟨rfl, H.out⟩
end Go.Proofs.YtejnhpjejcpekaaGreatDoor
