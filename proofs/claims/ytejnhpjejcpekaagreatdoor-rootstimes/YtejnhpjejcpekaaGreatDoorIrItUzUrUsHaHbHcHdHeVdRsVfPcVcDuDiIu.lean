/-
  upoly.pseudoQuotient: the walk.
-/
import Derived.Test.YtejnhpjejcpekaaGreatDoorKdRzCwDjVkJoDwIqDeDgIp
import Derived.Deep.DeepFit
import Derived.Test.YtejnhpjejcpekaaGreatDoorDnU7W1U9
import Derived.Test.YtejnhpjejcpekaaGreatDoorUyInU0TaTbTc
import Derived.Test.YtejnhpjejcpekaaGreatDoorVbDaCxRbCyViVuWxUpUq
import Derived.StillTailTactics
import Derived.Deep.RegionHeld3
import Derived.Test.YtejnhpjejcpekaaGreatDoorDcUmUoDmDvPmDqGaGbKpGcGdGeQa
import Derived.Test.YtejnhpjejcpekaaGreatDoorUfUgUjBsLeUkUiWiWj
import Derived.RangeFuncNested
import Derived.RangeFuncBound
import Derived.RangeFuncCalls
import Derived.RangeFuncLeaves
import Derived.Shelf.Abstract
import Derived.Shelf.RegionOpen
import Derived.WalkKit
import Derived.OwnWalkIn
import Derived.TacticsInMore
import Derived.LoopNIn
import Derived.LoopIn
import Derived.Test.YtejnhpjejcpekaaGreatDoorU3W0U4U5WvUh
import Derived.Test.YtejnhpjejcpekaaGreatDoorRhCqRrRwVaVg
import Derived.Test.YtejnhpjejcpekaaGreatDoorBbCvNjUbUcUdOwRaWmBe
import Derived.Test.YtejnhpjejcpekaaGreatDoorRjRg
import Derived.Test.YtejnhpjejcpekaaGreatDoorRo
import Derived.Test.YtejnhpjejcpekaaGreatDoorRmRpDkDlDbRi
import Derived.Test.YtejnhpjejcpekaaGreatDoorRvCzTeZaYa
import Derived.Test.YtejnhpjejcpekaaGreatDoorDfVlVsVtVvVnVr
import Derived.Test.YtejnhpjejcpekaaGreatDoorOaOfJpDhFr
namespace Go.Proofs.YtejnhpjejcpekaaGreatDoor
open Go.RowKit
set_option linter.unusedVariables false
set_option linter.unusedSimpArgs false
set_option maxHeartbeats 8000000
structure PsR (xs ys qz rz : List Int) : Prop where
  eq : tr (xs.map (gx ys (ys.length - 1) ^ (xs.length + 1 - ys.length) * ·)) = tr (pz (· + ·) (mulp qz ys) rz)
  lt : rz.length < ys.length
  qn : qz.length ≤ xs.length
theorem PN.pb {B : Nat} {w : World} {K : Nat} {p : Option Addr} {n : Nat} {es : List Ent} {zs : List Int} (h : PN B w K p n es zs) (hK : K ≤ 1000) : PB B w K p n es zs :=
  ⟨h.el, h.zl, h.nrm, h.pl, h.fr, fun j hj => (h.ev j hj).en hK⟩
theorem gx_set_ne' (Z : List Int) (i j : Nat) (v : Int) (h : i ≠ j) : gx (Z.set i v) j = gx Z j := by
  unfold gx
  rw [List.getD_eq_getElem?_getD, List.getD_eq_getElem?_getD, List.getElem?_set_ne h]
def Res (m : Int) (xs : List Int) : Prop := ∀ j, 0 ≤ gx xs j ∧ gx xs j < m
theorem Res.set {m : Int} {xs : List Int} (h : Res m xs) (i : Nat) (v : Int) (h0 : 0 ≤ v) (h1 : v < m) : Res m (xs.set i v) := fun j => by
  by_cases e : i = j
  · subst e
    rcases Nat.lt_or_ge i xs.length with hl | hl
    · rw [gx_mem _ _ (by rw [List.length_set]; exact hl)]
      simp [h0, h1]
    · have := h i
      rw [gx_past xs xs.length (Nat.le_refl _) i hl] at this
      rw [gx_past (xs.set i v) xs.length (by simp) i hl]
      exact this
  · rw [gx_set_ne' _ _ _ _ e]
    exact h j
theorem Res.take {m : Int} {xs : List Int} (h : Res m xs) (n : Nat) : Res m (xs.take n) := fun j => by
  rcases Nat.lt_or_ge j n with hj | hj
  · rw [gx_take _ _ _ hj]; exact h j
  · have h0 := h xs.length
    rw [gx_past xs xs.length (Nat.le_refl _) _ (Nat.le_refl _)] at h0
    rw [gx_past (xs.take n) n (by simp; omega) j hj]
    exact h0
open Go.RowKit Go.Shelf
attribute [local go_sem] Oper.semAt_some
attribute [local go_sem] Oper.semAt_some
theorem rIs_e {B : Nat} {w : World} {K N : Nat} {z : Int} {e f : Ent} (h : NV B w K z e) (hK : K ≤ 1000) (k : RE w N z f) (hN : N ≤ 1000) :
    Calls Tryz.prog 52 #[.agg #[.bool e.s, .slice e.p e.n e.c], .agg #[.bool f.s, .slice f.p f.n f.c]] w fun r w' => r = .returned (.bool true) ∧ Below w.heap.size w w' := by
  obtain ⟨xs, h1, h2, h3⟩ := h
  obtain ⟨⟨ds, k1, k2, k3⟩, k4⟩ := k
  rw [h2, k4]
  exact rIs_any h1 (by omega) k1.len (by omega) k1.rd k1.u k1.nrm k1.sg k2
theorem NV.drew {B : Nat} {w : World} {K : Nat} {z : Int} {e : Ent} (h : NV B w K z e) : NV B w.drew K z e := by
  obtain ⟨xs, h1, h2⟩ := h
  exact ⟨xs, h1.drew, h2⟩
structure Pv (w wr : World) (g : Nat) (s : Bool) (p : Option Addr) (n : Nat) (ds : List Int) (s1 : Bool) (p1 : Option Addr) (n1 : Nat) (d1 : List Int) : Prop where
  ba : Bx wr w.heap.size (.bool s) (.slice p n n)
  br : Bx wr (w.heap.size + 1) (.bool false) (.slice none 0 0)
  bp : Bx wr g (.bool s1) (.slice p1 n1 n1)
  ra : RN wr s p n ds
  r1 : RN wr s1 p1 n1 d1
  hg : w.heap.size + 2 ≤ g
  f1 : Go.Proofs.YtejnhpjejcpekaaGreatDoor.From (w.heap.size + 2) p1
  bel : Below w.heap.size w wr
theorem Pv.later {w wr w' : World} {g : Nat} {s : Bool} {p : Option Addr} {n : Nat} {ds : List Int} {s1 : Bool} {p1 : Option Addr} {n1 : Nat} {d1 : List Int} (h : Pv w wr g s p n ds s1 p1 n1 d1) (hb : Below wr.heap.size wr w') : Pv w w' g s p n ds s1 p1 n1 d1 :=
  ⟨h.ba.later hb, h.br.later hb, h.bp.later hb, h.ra.below hb, h.r1.below hb, h.hg, h.f1, h.bel.trans (hb.mono h.bel.size)⟩
set_option maxRecDepth 100000 in
theorem rpIs_c {B : Nat} {w : World} {K N : Nat} {p q : Option Addr} {n n' pc nc : Nat} {es fs : List Ent} {zs : List Int} (h : PN B w K p n es zs) (k : PR w N q n' nc fs zs) (hK : K ≤ 1000) (hN : N ≤ 1000) (hn : n ≤ 1000000) :
    Calls Tryz.prog 19 #[.slice p n pc, .slice q n' nc] w fun r w' => r = .returned (.bool true) ∧ Below w.heap.size w w' := by
  obtain rfl : n' = n := by rw [← h.zl, ← k.zl]
  have hel := h.el
  have hfl := k.el
  go_enter Tryz.func19, Tryz.ntmps19
  go_wp2_with fail
  go_loopw [5, 6] (fun iv sv wr => ∃ j : Nat, j ≤ n' ∧ iv = .int .i64 j ∧ Hid (Below w.heap.size w wr)) (fun iv _ _ => n' - (intOf iv).toNat)
  case atStart => exact ⟨0, Nat.zero_le _, by go_num, Below.refl _ _⟩
  case round =>
    obtain ⟨j, hj, rfl, H⟩ := hrel
    rcases Nat.lt_or_ge j n' with hlt | hge
    · have hh := h.below H.out
      have hk := k.below H.out
      have hv := hh.ev j hlt
      have hw := hk.ev j hlt
      obtain ⟨b, o, hp, hc⟩ := hh.pl (by omega)
      obtain ⟨c, r, hq, hd⟩ := hk.pl (by omega)
      subst hp hq
      obtain ⟨c0, c1⟩ := hc j (by omega)
      obtain ⟨d0, d1⟩ := hd j (by omega)
      clear hc hd hh hk
      go_wp2_with fail
      go_region_held3 (fun w' => w'.cell? ⟨b, o + j * 2, none⟩ = some (.bool (ge es j).s) ∧ w'.cell? ⟨b, o + j * 2 + 1, none⟩ = some (.slice (ge es j).p (ge es j).n (ge es j).c) ∧ w'.cell? ⟨c, r + j * 2, none⟩ = some (.bool (ge fs j).s) ∧ w'.cell? ⟨c, r + j * 2 + 1, none⟩ = some (.slice (ge fs j).p (ge fs j).n (ge fs j).c)) (first | with_reducible exact ⟨c0, c1, d0, d1⟩ | with_reducible exact keepc4 ⟨c0, c1, d0, d1⟩ hV1 | (simp [go_sem, *]; done))
        (first
          | (go_at_call 52; refine (rIs_e (hv.drew) hK hw.drew hN).mono ?_; rintro e w1 ⟨rfl, hb1⟩; have hV1 := undrew hb1))
      have hB := bnext' H.out hV1
      clear c0 c1 d0 d1 hv hw
      go_wp2
      go_roundw
      case rel => exact ⟨j + 1, by omega, by go_num, hB⟩
      case measure => simp [intOf]; omega
    · obtain rfl : j = n' := by omega
      go_wp2
      go_ret
      exact ⟨rfl, H.out⟩
structure PP (w wc : World) (px py pq pr : Option Addr) (nx ny nq cq nr : Nat) (ex ey eq er : List Ent) (xs ys qz rz : List Int) : Prop where
  x : PR wc 4 px nx nx ex xs
  y : PR wc 4 py ny ny ey ys
  q : PN w.heap.size wc 26 pq nq eq qz
  r : PN w.heap.size wc 26 pr nr er rz
  c1 : nq ≤ cq
  c2 : cq ≤ maxLen
  c3 : pq = none → cq = 0
  ps : PsR xs ys qz rz
  bw : Below w.heap.size w wc
  yb : ∀ i, ((gx ys i).natAbs : Int) < pw 2
  yn : tlen ys = ys.length
theorem PP.later {w wc w' : World} {px py pq pr : Option Addr} {nx ny nq cq nr : Nat} {ex ey eq er : List Ent} {xs ys qz rz : List Int} (h : PP w wc px py pq pr nx ny nq cq nr ex ey eq er xs ys qz rz) (hb : Below wc.heap.size wc w') : PP w w' px py pq pr nx ny nq cq nr ex ey eq er xs ys qz rz :=
  ⟨h.x.below hb, h.y.below hb, h.q.below hb, h.r.below hb, h.c1, h.c2, h.c3, h.ps, bnext' h.bw hb, h.yb, h.yn⟩
end Go.Proofs.YtejnhpjejcpekaaGreatDoor
