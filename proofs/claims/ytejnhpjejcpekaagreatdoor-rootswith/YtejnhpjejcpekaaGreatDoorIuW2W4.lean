/-
  PolyPseudo's walk.
-/
import Derived.Test.YtejnhpjejcpekaaGreatDoorVkJoDwIqDeDgIpIrItUzUrUsHaHbHcHdHeVdRsVfPcVcDuDi
import Derived.Test.YtejnhpjejcpekaaGreatDoorDfVlVsVtVvVnVr
import Derived.Test.YtejnhpjejcpekaaGreatDoorCuOaOfJpDhFr
import Derived.Deep.DeepFit
import Derived.Test.YtejnhpjejcpekaaGreatDoorDnU7W1U9
import Derived.Test.YtejnhpjejcpekaaGreatDoorKdRzCwDj
import Derived.Test.YtejnhpjejcpekaaGreatDoorVbDaCxRbCyViVuWxUpUq
import Derived.Test.YtejnhpjejcpekaaGreatDoorHuVyVzRqPqPrPsPtPuDtPvPwPxKa
import Derived.Test.YtejnhpjejcpekaaGreatDoorPmDqGaGbKpGcGdGeQaQb
namespace Go.Proofs.YtejnhpjejcpekaaGreatDoor
open Go.RowKit
set_option linter.unusedVariables false
set_option linter.unusedSimpArgs false
set_option maxHeartbeats 8000000
set_option maxRecDepth 100000 in
theorem rpIs_c {B : Nat} {w : World} {K N : Nat} {p q : Option Addr} {n n' pc nc : Nat} {es fs : List Ent} {zs : List Int} (h : PN B w K p n es zs) (k : PR w N q n' nc fs zs) (hK : K ≤ 1000) (hN : N ≤ 1000) (hn : n ≤ 1000000) :
    Calls Tryz.prog 19 #[.slice p n pc, .slice q n' nc] w fun r w' => r = .returned (.bool true) ∧ Below w.heap.size w w' := by
  obtain rfl : n' = n := by rw [← h.zl, ← k.zl]
  have hel := h.el
  have hfl := k.el
  go_enter Tryz.func19, Tryz.ntmps19
  go_wp2_with fail
  go_loopw [5, 6] (fun iv sv wr => ∃ j : Nat, j ≤ n' ∧ iv = .int .i64 j ∧ Hid (Below w.heap.size w wr)) (fun iv _ _ => n' - (intOf iv).toNat)
  case atStart => exact ⟨0, Nat.zero_le _, by go_num, Below.refl _ _⟩
  case round =>
    obtain ⟨j, hj, rfl, H⟩ := hrel
    rcases Nat.lt_or_ge j n' with hlt | hge
    · have hh := h.below H.out
      have hk := k.below H.out
      have hv := hh.ev j hlt
      have hw := hk.ev j hlt
      obtain ⟨b, o, hp, hc⟩ := hh.pl (by omega)
      obtain ⟨c, r, hq, hd⟩ := hk.pl (by omega)
      subst hp hq
      obtain ⟨c0, c1⟩ := hc j (by omega)
      obtain ⟨d0, d1⟩ := hd j (by omega)
      clear hc hd hh hk
      go_wp2_with fail
      go_region_held3 (fun w' => w'.cell? ⟨b, o + j * 2, none⟩ = some (.bool (ge es j).s) ∧ w'.cell? ⟨b, o + j * 2 + 1, none⟩ = some (.slice (ge es j).p (ge es j).n (ge es j).c) ∧ w'.cell? ⟨c, r + j * 2, none⟩ = some (.bool (ge fs j).s) ∧ w'.cell? ⟨c, r + j * 2 + 1, none⟩ = some (.slice (ge fs j).p (ge fs j).n (ge fs j).c)) (first | with_reducible exact ⟨c0, c1, d0, d1⟩ | with_reducible exact keepc4 ⟨c0, c1, d0, d1⟩ hV1 | (simp [go_sem, *]; done))
        (first
          | (go_at_call 52; refine (rIs_e (hv.drew) hK hw.drew hN).mono ?_; rintro e w1 ⟨rfl, hb1⟩; have hV1 := undrew hb1))
      have hB := bnext' H.out hV1
      clear c0 c1 d0 d1 hv hw
      go_wp2
      go_roundw
      case rel => exact ⟨j + 1, by omega, by go_num, hB⟩
      case measure => simp [intOf]; omega
    · obtain rfl : j = n' := by omega
      go_wp2
      go_ret
      exact ⟨rfl, H.out⟩
structure PP (w wc : World) (px py pq pr : Option Addr) (nx ny nq cq nr : Nat) (ex ey eq er : List Ent) (xs ys qz rz : List Int) : Prop where
  x : PR wc 4 px nx nx ex xs
  y : PR wc 4 py ny ny ey ys
  q : PN w.heap.size wc 26 pq nq eq qz
  r : PN w.heap.size wc 26 pr nr er rz
  c1 : nq ≤ cq
  c2 : cq ≤ maxLen
  c3 : pq = none → cq = 0
  ps : PsR xs ys qz rz
  bw : Below w.heap.size w wc
  yb : ∀ i, ((gx ys i).natAbs : Int) < pw 2
  yn : tlen ys = ys.length
theorem PP.later {w wc w' : World} {px py pq pr : Option Addr} {nx ny nq cq nr : Nat} {ex ey eq er : List Ent} {xs ys qz rz : List Int} (h : PP w wc px py pq pr nx ny nq cq nr ex ey eq er xs ys qz rz) (hb : Below wc.heap.size wc w') : PP w w' px py pq pr nx ny nq cq nr ex ey eq er xs ys qz rz :=
  ⟨h.x.below hb, h.y.below hb, h.q.below hb, h.r.below hb, h.c1, h.c2, h.c3, h.ps, bnext' h.bw hb, h.yb, h.yn⟩
theorem cutOne_any {w W : World} {e : Ent} {g : Nat} (he : RawE w e) (hW : Below w.heap.size w W) (c0 : W.cell? ⟨g, 0, none⟩ = some (.bool e.s)) (c1 : W.cell? ⟨g, 1, none⟩ = some (.slice e.p e.n e.c)) (L : Nat) (hL : L ≤ 24) :
    Calls Tryz.prog 11 #[.slice (some ⟨g, 0, none⟩) (1 : Nat) (1 : Nat), .int .i64 1, .int .i64 L] W fun r w' => ∃ (b o c : Nat) (u : Ent) (y : Int), r = .returned (.slice (some ⟨b, o, none⟩) (1 : Nat) c) ∧ w'.cell? ⟨b, o, none⟩ = some (.bool u.s) ∧ w'.cell? ⟨b, o + 1, none⟩ = some (.slice u.p u.n u.c) ∧ EV w' L y u ∧ (0 < u.n → Go.Proofs.YtejnhpjejcpekaaGreatDoor.From W.heap.size u.p) ∧ Below W.heap.size W w' := by
  refine (Cut3_any (pz_lit c0 c1 (he.below hW)) 1 L (by decide) hL).mono ?_
  rintro r w' ⟨q, m, mc, fs, zs, rfl, hP, hm, hF, hF2, hb⟩
  obtain rfl : m = 1 := by omega
  obtain ⟨b, o, hp, hc⟩ := hP.pl (by rw [hP.el]; decide)
  subst hp
  obtain ⟨d0, d1⟩ := hc 0 (by rw [hP.el]; decide)
  simp only [Nat.zero_mul, Nat.add_zero] at d0 d1
  exact ⟨b, o, mc, ge fs 0, gx zs 0, rfl, d0, d1, hP.ev 0 (by decide), hF2 0 (by decide), hb⟩
def mlk (x : Int) (zs : List Int) : Nat → List Int
  | 0 => zs
  | i + 1 => mulp (mlk x zs i) (lin x)
structure RtS (w v : World) (gn : Nat) (xe ne : Ent) (x : Int) : Prop where
  xv : EV v 2 x xe
  xb : Bx v w.heap.size (.bool xe.s) (.slice xe.p xe.n xe.c)
  nv : RE v 4 x ne
  nb : Bx v gn (.bool ne.s) (.slice ne.p ne.n ne.c)
  b : Below w.heap.size w v
theorem RtS.later {w v v' : World} {gn : Nat} {xe ne : Ent} {x : Int} (k : RtS w v gn xe ne x) (hb : Below v.heap.size v v') : RtS w v' gn xe ne x := ⟨k.xv.below hb, k.xb.later hb, k.nv.below hb, k.nb.later hb, bnext' k.b hb⟩
structure RtL (w v : World) (gn : Nat) (xe ne : Ent) (x : Int) (zs : List Int) (i : Nat) (q : Option Addr) (m : Nat) (qs : List Ent) : Prop where
  s : RtS w v gn xe ne x
  p : PR v 40 q m m qs (mlk x zs i)
theorem RtL.later {w v v' : World} {gn : Nat} {xe ne : Ent} {x : Int} {zs : List Int} {i : Nat} {q : Option Addr} {m : Nat} {qs : List Ent} (k : RtL w v gn xe ne x zs i q m qs) (hb : Below v.heap.size v v') : RtL w v' gn xe ne x zs i q m qs := ⟨k.s.later hb, k.p.below hb⟩
theorem without_told {w : World} {K L : Nat} {p : Option Addr} {n nc : Nat} {es : List Ent} {zs : List Int} {xp : Option Addr} {nx xc : Nat} {xes : List Ent} {xs : List Int} (h : PA w K p n nc es zs) (hx : PA w L xp nx xc xes xs) (hn : n ≤ 1000) (hK : K + (nx + 1) * n ≤ 70) (hL : L ≤ 70) (hnx : nx ≤ 1000) :
    Calls Tryz.prog 17 #[.slice p n nc, .slice xp nx xc] w fun r w' => ∃ (q : Option Addr) (m c : Nat) (er : Int), r = .returned (.tuple #[.slice q m c, .int .i64 er]) ∧ Hid ((tlen zs = 0 → m = 0 ∧ er = 2) ∧ (tlen zs ≠ 0 → er = 0 ∧ ∃ qs ys, PC w.heap.size w' (K + nx * n) q m c qs ys ∧ m ≤ n ∧ chn xs nx (tr zs) ys)) ∧ Below w.heap.size w w' := by
  refine (rtWithout_any h hx hn hK hL hnx).mono ?_
  rintro r w' ⟨h1, h2, h3⟩
  by_cases h0 : tlen zs = 0
  · exact ⟨none, 0, 0, 2, h1 h0, ⟨fun _ => ⟨rfl, rfl⟩, fun h => absurd h0 h⟩, h3⟩
  · obtain ⟨q, m, c, qs, ys, h4, h5, h6, h7⟩ := h2 h0
    exact ⟨q, m, c, 0, h4, ⟨fun h => absurd h h0, fun _ => ⟨rfl, qs, ys, h5, h6, h7⟩⟩, h3⟩
theorem evz_same (x : Int) {a b : List Int} (h : ∀ t, gx a t = gx b t) : evz x a = evz x b := by
  have e : ∀ (c : List Int) (n : Nat), c.length ≤ n → evz x c = evf x (gx c) n := fun c n hn => by
    rw [evz_evf, ← evf_more x (gx c) c.length (fun j hj => gx_past c _ (Nat.le_refl _) j hj) (n - c.length), show c.length + (n - c.length) = n by omega]
  rw [e a (a.length + b.length) (by omega), e b (a.length + b.length) (by omega)]
  exact evf_congr x _ fun j _ => h j
theorem evz_lin (x y : Int) : evz x (lin y) = x - y := by
  simp only [lin, evz]
  omega
theorem hor_evz (x : Int) : ∀ zs : List Int, gx (hor x zs) 0 = evz x zs
  | [] => rfl
  | c :: cs => by rw [hor, gx_cons_zero, hor_evz x cs, evz]; grind
theorem dvd_root {x : Int} {zs : List Int} : Dvd zs (lin x) ↔ evz x zs = 0 := by
  constructor
  · rintro ⟨q, hq⟩
    rw [evz_same x hq, evz_mulp, evz_lin, Int.sub_self, Int.mul_zero]
  · intro h
    refine ⟨(hor x zs).drop 1, fun t => ?_⟩
    rw [gx_mlin]
    simp only [gx_drop1]
    rcases t with _ | t
    · rw [if_pos rfl]
      have h1 := gx_hor x zs 0
      rw [hor_evz, h] at h1
      omega
    · rw [if_neg (by omega), Nat.add_sub_cancel]
      have h1 := gx_hor x zs (t + 1)
      omega
theorem not_dvd_mul {x y : Int} (hxy : x ≠ y) {zs : List Int} (h : ¬ Dvd zs (lin x)) : ¬ Dvd (mulp zs (lin y)) (lin x) := by
  rw [dvd_root] at h ⊢
  rw [evz_mulp, evz_lin]
  exact Int.mul_ne_zero h (by omega)
theorem mlin_swap (x y : Int) (zs : List Int) (t : Nat) : gx (mulp (mulp zs (lin x)) (lin y)) t = gx (mulp (mulp zs (lin y)) (lin x)) t := by
  simp only [gx_mlin]
  rcases t with _ | _ | t
  · simp
    grind
  · simp
    grind
  · simp
    grind
theorem outs_mul {x y : Int} : ∀ {k : Nat} {f u : List Int}, outs x k f u → outs x k (mulp f (lin y)) (mulp u (lin y))
  | 0, f, u, h => by
    have h' : f = u := h
    subst h'
    exact rfl
  | k + 1, f, u, ⟨q, h1, h2, h3⟩ => ⟨mulp q (lin y), mlin_nrm y h1, fun t => by
      rw [mlin_swap, gx_mlin, gx_mlin, h2 t]
      congr 1
      split
      · rfl
      · exact h2 (t - 1), outs_mul h3⟩
theorem rsd_other {x y : Int} (hxy : x ≠ y) {f u : List Int} {k : Nat} (h : Rsd x f u k) : Rsd x (mulp f (lin y)) (mulp u (lin y)) k := ⟨outs_mul h.1, not_dvd_mul hxy h.2⟩
theorem rsd_same {x : Int} {f u : List Int} {k : Nat} (hf : tlen f = f.length) (h : Rsd x f u k) : Rsd x (mulp f (lin x)) u (k + 1) := ⟨⟨f, hf, fun _ => rfl, h.1⟩, h.2⟩
theorem rsd_nrm {x : Int} : ∀ {k : Nat} {f u : List Int}, tlen f = f.length → outs x k f u → tlen u = u.length
  | 0, f, u, hf, h => by
    have h' : f = u := h
    rwa [← h']
  | k + 1, f, u, hf, ⟨q, h1, h2, h3⟩ => rsd_nrm h1 h3
theorem chn_nrm {xs : List Int} : ∀ {i : Nat} {f u : List Int}, tlen f = f.length → chn xs i f u → tlen u = u.length
  | 0, f, u, hf, h => by
    have h' : u = f := h
    rwa [h']
  | i + 1, f, u, hf, ⟨v, k, h1, h2⟩ => rsd_nrm (chn_nrm hf h1) h2.1
theorem chn_line {xs : List Int} {y : Int} : ∀ {i : Nat} {f u : List Int}, tlen f = f.length → chn xs i f u → chn xs i (mulp f (lin y)) (if ∃ j, j < i ∧ gx xs j = y then u else mulp u (lin y))
  | 0, f, u, hf, h => by
    have h' : u = f := h
    subst h'
    rw [if_neg (by rintro ⟨j, hj, -⟩; omega)]
    exact rfl
  | i + 1, f, u, hf, ⟨v, k, h1, h2⟩ => by
    have ih := chn_line (y := y) hf h1
    by_cases hex : ∃ j, j < i ∧ gx xs j = y
    · rw [if_pos hex] at ih
      obtain ⟨j, hj, hy⟩ := hex
      rw [if_pos ⟨j, by omega, hy⟩]
      exact ⟨v, k, ih, h2⟩
    · rw [if_neg hex] at ih
      by_cases hi : gx xs i = y
      · rw [if_pos ⟨i, by omega, hi⟩]
        refine ⟨mulp v (lin y), k + 1, ih, ?_⟩
        rw [← hi]
        exact rsd_same (chn_nrm hf h1) h2
      · rw [if_neg (by
          rintro ⟨j, hj, hy⟩
          rcases Nat.lt_or_ge j i with h9 | h9
          · exact hex ⟨j, h9, hy⟩
          · obtain rfl : j = i := by omega
            exact hi hy)]
        exact ⟨mulp v (lin y), k, ih, rsd_other hi h2⟩
theorem mln_nrm {xs zs : List Int} (h : tlen zs = zs.length) : ∀ i, tlen (mln xs zs i) = (mln xs zs i).length
  | 0 => h
  | i + 1 => mlin_nrm _ (mln_nrm h i)
theorem chn_mln {xs f u : List Int} {n : Nat} (hf : tlen f = f.length) (h : chn xs n f u) : ∀ i, i ≤ n → chn xs n (mln xs f i) u
  | 0, _ => h
  | i + 1, hi => by
    have h1 := chn_line (y := gx xs i) (mln_nrm hf i) (chn_mln hf h i (by omega))
    rw [if_pos ⟨i, by omega, rfl⟩] at h1
    exact h1
theorem mln_congr {xs ys zs : List Int} : ∀ {i : Nat}, (∀ j, j < i → gx xs j = gx ys j) → mln xs zs i = mln ys zs i
  | 0, _ => rfl
  | i + 1, h => by rw [mln, mln, mln_congr fun j hj => h j (by omega), h i (by omega)]
theorem mln_bd {xs zs : List Int} {K : Nat} (hz : ∀ t, ((gx zs t).natAbs : Int) < pw K) (hx : ∀ j, ((gx xs j).natAbs : Int) < pw 2) : ∀ i t, ((gx (mln xs zs i) t).natAbs : Int) < pw (K + 3 * i)
  | 0, t => hz t
  | i + 1, t => by
    have h := mlin_lt (L := 2) (mln_bd hz hx i) (hx i) t
    rwa [show K + 3 * (i + 1) = K + 3 * i + 2 + 1 by omega]
theorem mln_lenl {xs zs : List Int} : ∀ i, (mln xs zs i).length ≤ zs.length + i
  | 0 => Nat.le_refl _
  | i + 1 => by
    have ih := mln_lenl (xs := xs) (zs := zs) i
    have h := mln_len xs zs i
    rw [mln]
    omega
end Go.Proofs.YtejnhpjejcpekaaGreatDoor
