/-
  ashlarref3.Under.
-/
import Derived.Test.YtppidaeoikahoaaGreatDoorYp
import Derived.Test.YtppidaeoikahoaaGreatDoorVjWx
import Derived.Test.YtppidaeoikahoaaGreatDoorUpUq
import Derived.Deep.CutRange
import Derived.Deep.RegionHeld3
import Derived.Test.YtppidaeoikahoaaGreatDoorCyViOaOf
namespace Go.Proofs.YtppidaeoikahoaaGreatDoor
open Go.RowKit
set_option linter.unusedVariables false
set_option linter.unusedSimpArgs false

theorem RN.fit {w : World} {s : Bool} {p : Option Addr} {n N : Nat} {ds : List Int} (h : RN w s p n ds) (hz : ((rval s ds).natAbs : Int) < pd N) : n ≤ N := by
  have a := vd_nonneg h.u
  have e : ((rval s ds).natAbs : Int) = vd ds := by unfold rval; split <;> omega
  rw [e] at hz
  rcases Nat.lt_or_ge N n with hk | hk
  · have b := vd_pos_of_top h.u (by rw [h.nrm]; omega)
    rw [h.nrm] at b
    have c := pd_mono (show N ≤ n - 1 by omega)
    omega
  · exact hk
theorem rQuo_e {w : World} {N M : Nat} {x y : Int} {e f : Ent} (h : RE w N x e) (k : RE w M y f) (hy : y ≠ 0) (hd : y ∣ x) (hN : N ≤ 1000) (hM : M ≤ 1000) :
    Calls Tryz.prog 110 #[.agg #[.bool e.s, .slice e.p e.n e.c], .agg #[.bool f.s, .slice f.p f.n f.c]] w fun r w' => ∃ u v : Ent, r = .returned (.tuple #[.agg #[.bool u.s, .slice u.p u.n u.c], .agg #[.bool v.s, .slice v.p v.n v.c]]) ∧ RE w' N (x / y) u ∧ Go.Proofs.YtppidaeoikahoaaGreatDoor.From w.heap.size u.p ∧ Below w.heap.size w w' := by
  have hb := h.1.bd
  obtain ⟨⟨ds, h1, rfl, h3⟩, h4⟩ := h
  obtain ⟨⟨es, k1, rfl, k3⟩, k4⟩ := k
  rw [h4, k4]
  have hx : ∃ c, vd ds = c * vd es := by
    obtain ⟨c, hc⟩ := hd
    rw [rval_abs e.s h1.u, rval_abs f.s k1.u, hc, Int.natAbs_mul]
    exact ⟨(c.natAbs : Int), by push_cast; rw [Int.mul_comm]⟩
  have hm0 : 0 < f.n := by
    rcases Nat.eq_zero_or_pos f.n with h0 | h0
    · exfalso
      apply hy
      have : vd es = 0 := (tlen_zero_iff16 k1.u).1 (by rw [k1.nrm, h0])
      unfold rval
      split <;> omega
    · exact h0
  refine (rQuo_s e.s f.s e.p f.p e.n f.n ds es w h1 k1 (by omega) (by omega) hm0 hx).mono ?_
  rintro r w' ⟨s1, p1, n1, d1, p2, g1, g2, g3, g4, g5⟩
  have g6 : rval e.s ds / rval f.s es = rval s1 d1 := by rw [← g3, Int.mul_ediv_cancel _ hy]
  have hle : n1 ≤ N := g2.fit (by
    rw [← g6]
    have := Int.natAbs_ediv_le_natAbs (rval e.s ds) (rval f.s es)
    omega)
  rw [g6]
  exact ⟨⟨s1, p1, n1, n1⟩, ⟨false, p2, 0, 0⟩, g1, ⟨⟨d1, g2, rfl, hle⟩, rfl⟩, g4, g5⟩
theorem RE_al {w : World} {N : Nat} {z : Int} {e : Ent} {o : Obj} (h : RE w N z e) : RE (w.alloc o) N z e := h.below ((Below.refl _ _).alloc (Nat.le_refl _) o)
theorem re_st {w : World} {N : Nat} {z : Int} {e : Ent} {a : Addr} {v : Value} (h : RE w N z e) (ho : 0 < e.n → Off a.block e.p) : RE (w.setCell a v) N z e := by
  obtain ⟨⟨ds, h1, h2⟩, h4⟩ := h
  exact ⟨⟨ds, ⟨h1.len, fun hx => (h1.rd.set_other a v (ho (by rw [h1.len] at hx; exact hx))) hx, h1.u, h1.nrm, h1.sg, h1.sml⟩, h2⟩, h4⟩
theorem RE_st2 {w : World} {N U : Nat} {z : Int} {e : Ent} {a : Addr} {v : Value} (hU : 0 < e.n → ∀ x, e.p = some x → x.block < U) (ha : U ≤ a.block) (h : RE w N z e) : RE (w.setCell a v) N z e := re_st h fun h0 b hb e' => by have := hU h0 b hb; omega
theorem RE_st3 {w : World} {N F : Nat} {z : Int} {e : Ent} {a : Addr} {v : Value} (hF : Go.Proofs.YtppidaeoikahoaaGreatDoor.From F e.p) (ha : a.block < F) (h : RE w N z e) : RE (w.setCell a v) N z e := re_st h fun h0 b hb e' => by have := hF b hb; omega
theorem unFr {w : World} {p : Option Addr} (h : Go.Proofs.YtppidaeoikahoaaGreatDoor.From w.drew.heap.size p) : Go.Proofs.YtppidaeoikahoaaGreatDoor.From w.heap.size p := h
theorem keep4R {w w' : World} {a c i j k l : Nat} {u v x y : Value} (h : w.cell? ⟨a, i, none⟩ = some u ∧ w.cell? ⟨a, j, none⟩ = some v ∧ w.cell? ⟨c, k, none⟩ = some x ∧ w.cell? ⟨c, l, none⟩ = some y) (hb : Below w.heap.size w w') : w'.cell? ⟨a, i, none⟩ = some u ∧ w'.cell? ⟨a, j, none⟩ = some v ∧ w'.cell? ⟨c, k, none⟩ = some x ∧ w'.cell? ⟨c, l, none⟩ = some y :=
  ⟨cell_later hb h.1, cell_later hb h.2.1, cell_later hb h.2.2.1, cell_later hb h.2.2.2⟩
theorem Bx.kept {w w' : World} {r : Nat} {a b : Value} {row : Option Nat} (h : Bx w r a b) (hg : w.grownBy w' row) (hne : some r ≠ row) : Bx w' r a b := by
  have e : w'.heap[r]? = w.heap[r]? := hg.block r (block_lt_of_cell h.c0) hne
  exact ⟨(World.cell?_of_block (a := ⟨r, 0, none⟩) e).trans h.c0, (World.cell?_of_block (a := ⟨r, 1, none⟩) e).trans h.c1, (World.frozen?_of_block (a := ⟨r, 0, none⟩) e).trans h.f0, (World.frozen?_of_block (a := ⟨r, 1, none⟩) e).trans h.f1⟩
/-- The quotient in its variable. -/
structure UX (wr wc : World) (g1 N : Nat) (z : Int) (u : Ent) : Prop where
  b : Bx wc g1 (.bool u.s) (.slice u.p u.n u.c)
  r : RE wc N z u
  f : 0 < u.n → ∀ a, u.p = some a → wr.heap.size ≤ a.block
  bw : Below wr.heap.size wr wc
set_option maxHeartbeats 4000000 in
set_option maxRecDepth 100000 in
/-- ashlarref3.Under. -/
theorem rpUnder_any {w : World} {N M : Nat} {p : Option Addr} {n nc : Nat} {es0 : List Ent} {zs : List Int} {y : Int} {f : Ent} (h : PR w N p n nc es0 zs) (hf : RE w M y f) (hy : y ≠ 0) (hd : ∀ j, y ∣ gx zs j) (hn : n ≤ 100000) (hN : N ≤ 1000) (hM : M ≤ 1000) :
    Calls Tryz.prog 107 #[.slice p n nc, .agg #[.bool f.s, .slice f.p f.n f.c]] w (PrP (tr (zs.map (· / y))) N w) := by
  obtain ⟨i0, hi, hzz⟩ := Option.map_eq_some_iff.1 info_ref
  simp only [Prod.mk.injEq] at hzz
  obtain ⟨hz0, hz1, hz2⟩ := hzz
  have HI : Hid (Tryz.prog.info? 35 = some i0 ∧ i0.zero = some (.agg #[.bool false, .slice none 0 0]) ∧ i0.size = 2 ∧ i0.bytes = 32) := ⟨hi, hz0, hz1, hz2⟩
  have HX : Hid (PR w N p n nc es0 zs ∧ RE w M y f ∧ y ≠ 0 ∧ ∀ j, y ∣ gx zs j) := ⟨h, hf, hy, hd⟩
  have hel0 := h.el
  have hzl0 := h.zl
  have hvl : (zs.map (· / y)).length = n := by simp [hzl0]
  have hvg : ∀ j, gx (zs.map (· / y)) j = gx zs j / y := fun j => gx_map0 (· / y) (by simp) zs j
  generalize hvs : zs.map (· / y) = vs at *
  have HVS : Hid ((∀ j, gx vs j = gx zs j / y) ∧ vs.length = n) := ⟨hvg, hvl⟩
  clear h hf hy hd hi hz0 hz1 hz2 hvs hvg hvl
  go_enter Tryz.func107, Tryz.ntmps107
  go_wp2_with fail
  have hal0 := bel_al (o := .cells #[.bool f.s, .slice f.p f.n f.c] 35) (Below.refl w.heap.size w)
  have hX0 : Bx (w.alloc (.cells #[.bool f.s, .slice f.p f.n f.c] 35)) w.heap.size (.bool f.s) (.slice f.p f.n f.c) := Bx.new _ _ _ rfl
  have HS0 : Hid (Bx (w.alloc (.cells #[.bool f.s, .slice f.p f.n f.c] 35)) w.heap.size (.bool f.s) (.slice f.p f.n f.c) ∧ Below w.heap.size w (w.alloc (.cells #[.bool f.s, .slice f.p f.n f.c] 35))) := ⟨hX0, hal0⟩
  generalize w.alloc (.cells #[.bool f.s, .slice f.p f.n f.c] 35) = W0 at *
  clear hal0 hX0
  go_loopw [5, 6, 7, 8] (fun sv iv _ _ wr => ∃ (k : Nat) (es : List Ent), k ≤ n ∧ iv = .int .i64 k ∧ Hid (es.length = k ∧ LG (w.heap.size + 1) 35 (fun w z e => RE w N z e) wr sv es (vs.take k) ∧ Bx wr w.heap.size (.bool f.s) (.slice f.p f.n f.c) ∧ Below w.heap.size w wr)) (fun _ iv _ _ _ => n - (intOf iv).toNat)
  case atStart => exact ⟨0, [], Nat.zero_le _, by go_num, rfl, by rw [List.take_zero]; exact LG.nil _ _ _ _, HS0.out.1, HS0.out.2⟩
  case round =>
    obtain ⟨k, es, hk, rfl, H⟩ := hrel
    rcases Nat.lt_or_ge k n with hlt | hge
    · obtain ⟨hel, hLR, hbx, hB⟩ := H.out
      have hPR := HX.out.1.below hB
      obtain ⟨b, o, hp, hc⟩ := hPR.pl (by omega)
      subst hp
      obtain ⟨x0, x1⟩ := hc k (by omega)
      obtain ⟨d0, d1, -, -⟩ := id hbx
      have hx := hPR.ev k hlt
      have hy := HX.out.2.1.below hB
      have i1 : (k : Int) < (n : Int) := by omega
      have hq0 := HX.out.2.2.1
      have hq1 := HX.out.2.2.2 k
      clear hel hLR hB hc hPR hbx
      go_wp2_with fail
      go_cut [7, 8] from 9 to 27 (fun qv lv wc => ∃ (u : Ent) (g1 : Nat), qv = .pointer (some ⟨g1, 0, none⟩) ∧ Hid (UX wr wc g1 N (gx zs k / y) u))
      case first =>
        go_region_held3 (fun w' => w'.cell? ⟨b, o + k * 2, none⟩ = some (.bool (ge es0 k).s) ∧ w'.cell? ⟨b, o + k * 2 + 1, none⟩ = some (.slice (ge es0 k).p (ge es0 k).n (ge es0 k).c) ∧ w'.cell? ⟨w.heap.size, 0, none⟩ = some (.bool f.s) ∧ w'.cell? ⟨w.heap.size, 1, none⟩ = some (.slice f.p f.n f.c)) (first | with_reducible exact ⟨x0, x1, d0, d1⟩ | (refine keep4R ⟨x0, x1, d0, d1⟩ ?_; (repeat (first | (with_reducible exact hW1) | (with_reducible exact Below.refl _ _) | (refine Bel_al ?_ (Nat.le_refl _)) | (refine Bel_st ?_ ?_) | (refine Below.drew ?_))); all_goals ((try simp only [World.size_alloc]); (try dsimp only); omega)))
          ((go_at_call 110; go_fit (rQuo_e (hx.below (by first | exact (Below.refl _ _).drew | exact (bel_al (Below.refl _ _)).drew | exact (bel_al (bel_al (Below.refl _ _))).drew)) (hy.below (by first | exact (Below.refl _ _).drew | exact (bel_al (Below.refl _ _)).drew | exact (bel_al (bel_al (Below.refl _ _))).drew)) hq0 hq1 hN hM); rintro r v1 ⟨u, v, rfl, hN1, hF1', hb1⟩; have hF1 := unFr hF1'; clear hF1'; have hB1 := undrew hb1; have hW1 := comp (X2 := wr) (w2 := wr) (Below.refl _ _) (by (repeat apply bel_al); exact Below.refl _ _) hB1; obtain ⟨hc2, hf2, hz2, -, -⟩ := brules hB1; obtain ⟨o1, o2, o3, o4⟩ := bne hB1; have t1 := hW1.size; have t1b := hB1.size))
        all_goals (go_wp2_with fail; go_meet)
        all_goals
          refine ⟨u, _, rfl, ⟨?_, ?_, ?_, ?_⟩⟩
          · (repeat (first | exact Bx_new (by simp; done) | refine Bx_set (u := .bool false) (v := .slice none 0 0) ?_ | refine Bx_oth ?_ (by have h1 := t1; have h2 := t1b; (try simp only [World.size_alloc] at h1 h2); (try simp only [World.size_alloc]); (try dsimp only); omega) | apply Bx_al)); all_goals exact ⟨by simp [go_sem, *], by simp [go_sem, *], by simp [go_sem, *], by simp [go_sem, *]⟩
          · (repeat (first | apply RE_al | refine RE_st3 hF1 (by have h1 := t1; have h2 := t1b; (try simp only [World.size_alloc] at h1 h2); (try simp only [World.size_alloc]); (try dsimp only); omega) ?_ | refine RE_st2 hN1.lt (by have h1 := t1; have h2 := t1b; (try simp only [World.size_alloc] at h1 h2); (try simp only [World.size_alloc]); (try dsimp only); omega) ?_)); exact hN1
          · exact fun _ a ha => Nat.le_trans (by have h1 := t1; have h2 := t1b; (try simp only [World.size_alloc] at h1 h2); (try simp only [World.size_alloc]); (try dsimp only); omega) (hF1 a ha)
          · (repeat (first | exact hW1 | refine Bel_al ?_ (Nat.le_refl _) | refine Bel_st ?_ (by have h1 := t1; have h2 := t1b; (try simp only [World.size_alloc] at h1 h2); (try simp only [World.size_alloc]); (try dsimp only); omega)))
      case rest =>
        obtain ⟨u, g1, rfl, HU⟩ := hcut
        clear x0 x1 d0 d1 hx hy hq0 hq1
        obtain ⟨q0, q1, -, -⟩ := id HU.out.b
        have hb2 := HU.out.bw
        obtain ⟨hi, hz0, hz1, hz2⟩ := HI.out
        have hown0 := own_below H.out.2.1.own hb2
        rw [H.out.1] at hown0
        have HO : Hid (wc.ownsRow (w.heap.size + 1) 35 2 u5 k (fl es)) := hown0
        have hw1 : w.heap.size + 1 ≤ wr.heap.size := block_lt_of_cell H.out.2.2.1.c0
        have hsz : w.heap.size + 1 ≤ wc.heap.size := Nat.le_trans hw1 hb2.size
        clear hown0
        go_wp2_with (refine wpList_append_lies _ rfl _ _ 31 rfl (w.heap.size + 1) 35 i0 (.agg #[.bool false, .slice none 0 0]) 2 32 Tryz.underlying31 hi hz0 hz1 hz2 rfl (by decide) u5 k (fl es) rfl (HO.out.alloc _) ⟨wc.heap.size, 0, none⟩ 1 1 [.bool u.s, .slice u.p u.n u.c] rfl rfl ?_ (fun x hx => by simp at hx; rcases hx with rfl | rfl <;> rfl) (by decide) (by unfold maxLen; omega) (by omega) (by simp; omega) _ rfl ?_; exact World.news_of_block (heap_alloc_new wc _); intro g cap w3 hown3 hgrow3 hat3 hlt3; have hB3 : Below w.heap.size w w3 := ((bnext' H.out.2.2.2 hb2).alloc (by omega) _).grown hgrow3 (by simp; omega) (fun q hq => by have := (HO.out.lt q hq).1; omega); have hX3 : Bx w3 w.heap.size (.bool f.s) (.slice f.p f.n f.c) := Bx.kept ((H.out.2.2.1.later hb2).alloc _) hgrow3 (fun hq => by have := (HO.out.lt _ hq.symm).1; omega); have HA : Hid (LG (w.heap.size + 1) 35 (fun w z e => RE w N z e) w3 (.slice (some ⟨g, 0, none⟩) (k + 1) cap) (es ++ [u]) (vs.take k ++ [gx zs k / y])) := LG.app (lasts_RE N) H.out.1 H.out.2.1 hb2 HU.out.r (fun h0 a ha => .inr (HU.out.f h0 a ha)) hown3 hgrow3 hat3; clear hown3 hgrow3 hat3)
        refine ⟨⟨k + 1, es ++ [u], by omega, by go_num, by have := H.out.1; simp; omega, ?_, hX3, hB3⟩, by simp [intOf]; omega⟩
        rw [take_snocg vs k (by have := HVS.out.2; omega), HVS.out.1 k]
        exact HA.out
    · obtain rfl : k = n := by omega
      obtain ⟨hel, hLR, hbx, hB⟩ := H.out
      have hvl := HVS.out.2
      rw [List.take_of_length_le (by omega)] at hLR
      obtain ⟨q, cap, hv, hPR, hF⟩ := hLR.pr
      subst hv
      rw [hel] at hPR ⊢
      have HB : Hid (Below w.heap.size w wr) := hB
      clear H hLR hB hge hk hbx
      go_wp2_with fail
      refine (rTrim_any N q k cap es vs _ hPR (by omega)).mono ?_
      rintro e w1 ⟨rfl, hb1⟩
      have HP : Hid (PR wr N q k cap es vs) := hPR
      clear hPR
      go_wp2
      go_ret
      have htl := tlen_le vs
      have hcap := HP.out.cap
      have hT := (HP.out.below hb1).take (tlen vs) (tlen vs) (by omega) (Nat.le_refl _) (by omega)
      exact ⟨q, tlen vs, es.take (tlen vs), rfl, hT, fun a ha => Nat.le_of_succ_le (hF a ha), tlen_tr vs, bnext' HB.out hb1⟩
end Go.Proofs.YtppidaeoikahoaaGreatDoor
/-
  ashlarref1.add.
-/
namespace Go.Proofs.YtppidaeoikahoaaGreatDoor
open Go.RowKit
set_option linter.unusedVariables false
set_option linter.unusedSimpArgs false

/-- What a function of the reference answers that gives digits. -/
def DAns (N : Nat) (v : Int) (w : World) (e : Ending) (w' : World) : Prop :=
  ∃ q k cap D, e = .returned (.slice q k cap) ∧ D.length = k ∧ k ≤ cap ∧ cap ≤ maxLen ∧ Rd w' q .i64 D ∧ U16 D ∧ vd D = v ∧ k ≤ N ∧ Go.Proofs.YtppidaeoikahoaaGreatDoor.From w.heap.size q ∧ Below w.heap.size w w'

set_option maxRecDepth 100000 in
set_option maxHeartbeats 4000000 in
/-- ashlarref1.add. -/
theorem radd_any (p q : Option Addr) (n nc m mc : Nat) (xs ys : List Int) (w : World) (hn : xs.length = n) (hm : ys.length = m) (hnb : n ≤ 1000000) (hmb : m ≤ 1000000)
    (hX : Rd w p .i64 xs) (hXu : U16 xs) (hY : Rd w q .i64 ys) (hYu : U16 ys) :
    Calls Tryz.prog 120 #[.slice p n nc, .slice q m mc] w (DAns (n + m + 1) (vd xs + vd ys) w) := by
  obtain ⟨i0, hi, hzz⟩ := Option.map_eq_some_iff.1 info_int
  simp only [Prod.mk.injEq] at hzz
  obtain ⟨hz0, hz1, hz2⟩ := hzz
  have HI : Hid (Tryz.prog.info? 3 = some i0 ∧ i0.zero = some (.int .i64 0) ∧ i0.size = 1 ∧ i0.bytes = 8) := ⟨hi, hz0, hz1, hz2⟩
  clear hi hz0 hz1 hz2
  have HN : Hid (xs.length = n ∧ ys.length = m) := ⟨hn, hm⟩
  clear hn hm
  go_enter Tryz.func120, Tryz.ntmps120
  go_wp2
  go_loopw [5, 6, 7] (fun dv cv iv wr => ∃ (k : Nat) (c : Int) (ds : List Int), k ≤ n + m + 1 ∧ iv = .int .i64 k ∧ cv = .int .i64 c ∧ 0 ≤ c ∧ c ≤ 1 ∧ (k ≤ n ∨ k ≤ m ∨ c = 0) ∧ ds.length = k ∧ Hid (vd ds + pd k * c = vd (xs.take k) + vd (ys.take k) ∧ U16 ds ∧ wr.ownsRow w.heap.size 3 1 dv k (ds.map (Value.int .i64)) ∧ Below w.heap.size w wr)) (fun _ _ iv _ => n + m + 2 - (intOf iv).toNat)
  case atStart => exact ⟨0, 0, [], Nat.zero_le _, rfl, rfl, by decide, by decide, .inl (Nat.zero_le _), rfl, by simp [vd], u16_nil, World.ownsRow_nil _ _ _ _, Below.refl _ _⟩
  case round =>
    obtain ⟨k, c, ds, hk, rfl, rfl, hc0, hc1, hkc, hkl, H⟩ := hrel
    have hBr := H.out.2.2.2
    have HV : Hid (vd ds + pd k * c = vd (xs.take k) + vd (ys.take k) ∧ U16 ds) := ⟨H.out.1, H.out.2.1⟩
    have HO : Hid (wr.ownsRow w.heap.size 3 1 u5 k (ds.map (Value.int .i64))) := H.out.2.2.1
    have HL : Hid (ds.length = k) := hkl
    clear H hkl
    obtain ⟨x0, x1⟩ := hXu k
    obtain ⟨y0, y1⟩ := hYu k
    obtain ⟨hi, hz0, hz1, hz2⟩ := HI.out
    by_cases h1 : k < n
    · have h1I : (k : Int) < (n : Int) := by omega
      obtain ⟨b, off, rfl, hcell⟩ := (hX.below hBr) (by have := HN.out; omega)
      have hck := hcell k (by have := HN.out; omega)
      clear hcell
      by_cases h2 : k < m
      · have h2I : (k : Int) < (m : Int) := by omega
        obtain ⟨b2, off2, rfl, hcell⟩ := (hY.below hBr) (by have := HN.out; omega)
        have hck2 := hcell k (by have := HN.out; omega)
        clear hcell
        have q1 : (c + gx xs k + gx ys k).tmod 65536 = (c + gx xs k + gx ys k) % 65536 := Int.tmod_eq_emod_of_nonneg (by omega)
        have q2 : (c + gx xs k + gx ys k).tdiv 65536 = (c + gx xs k + gx ys k) / 65536 := Int.tdiv_eq_ediv_of_nonneg (by omega)
        go_wp2_with (refine wpList_append_lies _ rfl _ _ 33 rfl w.heap.size 3 i0 (.int .i64 0) 1 8 Tryz.underlying33 hi hz0 hz1 hz2 rfl (by decide) u5 k (ds.map (Value.int .i64)) rfl (HO.out.alloc _) ⟨wr.heap.size, 0, none⟩ 1 1 [.int .i64 ((c + gx xs k + gx ys k) % 65536)] rfl rfl ?_ (fun x hx => by simp at hx; subst hx; rfl) (by decide) (by unfold maxLen; omega) (by omega) (by have := hBr.size; simp; omega) _ rfl ?_; exact World.news_of_block (heap_alloc_new wr _); intro g cap w3 hown3 hgrow3 hat3 hlt3; have hB3 : Below w.heap.size w w3 := (bel_alw hBr).grown hgrow3 (by have := hBr.size; simp; omega) (fun q hq => (HO.out.lt q hq).1))
        refine ⟨⟨k + 1, (c + gx xs k + gx ys k) / 65536, ds ++ [(c + gx xs k + gx ys k) % 65536], by omega, by go_num, by go_num, by omega, by omega, by omega, by have := HL.out; simp; omega, ?_, u16_append HV.out.2 (u16_one (by omega)), ?_, hB3⟩, by simp [intOf]; omega⟩
        · have e := cut16 (pd k) (c + gx xs k + gx ys k)
          have e0 := HV.out.1
          rw [vd_append, vd_one, pd_succ, HL.out, vd_take_succ, vd_take_succ]
          simp only [Int.mul_add] at e ⊢
          omega
        · rw [List.map_append]
          exact hown3
      · have h2I : ¬ (k : Int) < (m : Int) := by omega
        have q1 : (c + gx xs k).tmod 65536 = (c + gx xs k) % 65536 := Int.tmod_eq_emod_of_nonneg (by omega)
        have q2 : (c + gx xs k).tdiv 65536 = (c + gx xs k) / 65536 := Int.tdiv_eq_ediv_of_nonneg (by omega)
        have hy0 : Hid (gx ys k = 0) := gx_past ys m (by have := HN.out; omega) k (by omega)
        go_wp2_with (refine wpList_append_lies _ rfl _ _ 33 rfl w.heap.size 3 i0 (.int .i64 0) 1 8 Tryz.underlying33 hi hz0 hz1 hz2 rfl (by decide) u5 k (ds.map (Value.int .i64)) rfl (HO.out.alloc _) ⟨wr.heap.size, 0, none⟩ 1 1 [.int .i64 ((c + gx xs k) % 65536)] rfl rfl ?_ (fun x hx => by simp at hx; subst hx; rfl) (by decide) (by unfold maxLen; omega) (by omega) (by have := hBr.size; simp; omega) _ rfl ?_; exact World.news_of_block (heap_alloc_new wr _); intro g cap w3 hown3 hgrow3 hat3 hlt3; have hB3 : Below w.heap.size w w3 := (bel_alw hBr).grown hgrow3 (by have := hBr.size; simp; omega) (fun q hq => (HO.out.lt q hq).1))
        refine ⟨⟨k + 1, (c + gx xs k) / 65536, ds ++ [(c + gx xs k) % 65536], by omega, by go_num, by go_num, by omega, by omega, by omega, by have := HL.out; simp; omega, ?_, u16_append HV.out.2 (u16_one (by omega)), ?_, hB3⟩, by simp [intOf]; omega⟩
        · have e := cut16 (pd k) (c + gx xs k)
          have e0 := HV.out.1
          rw [vd_append, vd_one, pd_succ, HL.out, vd_take_succ, vd_take_succ]
          rw [hy0.out, Int.mul_zero, Int.add_zero]; simp only [Int.mul_add] at e ⊢
          omega
        · rw [List.map_append]
          exact hown3
    · have h1I : ¬ (k : Int) < (n : Int) := by omega
      have hx0 : Hid (gx xs k = 0) := gx_past xs n (by have := HN.out; omega) k (by omega)
      by_cases h2 : k < m
      · have h2I : (k : Int) < (m : Int) := by omega
        obtain ⟨b2, off2, rfl, hcell⟩ := (hY.below hBr) (by have := HN.out; omega)
        have hck2 := hcell k (by have := HN.out; omega)
        clear hcell
        have q1 : (c + gx ys k).tmod 65536 = (c + gx ys k) % 65536 := Int.tmod_eq_emod_of_nonneg (by omega)
        have q2 : (c + gx ys k).tdiv 65536 = (c + gx ys k) / 65536 := Int.tdiv_eq_ediv_of_nonneg (by omega)
        go_wp2_with (refine wpList_append_lies _ rfl _ _ 33 rfl w.heap.size 3 i0 (.int .i64 0) 1 8 Tryz.underlying33 hi hz0 hz1 hz2 rfl (by decide) u5 k (ds.map (Value.int .i64)) rfl (HO.out.alloc _) ⟨wr.heap.size, 0, none⟩ 1 1 [.int .i64 ((c + gx ys k) % 65536)] rfl rfl ?_ (fun x hx => by simp at hx; subst hx; rfl) (by decide) (by unfold maxLen; omega) (by omega) (by have := hBr.size; simp; omega) _ rfl ?_; exact World.news_of_block (heap_alloc_new wr _); intro g cap w3 hown3 hgrow3 hat3 hlt3; have hB3 : Below w.heap.size w w3 := (bel_alw hBr).grown hgrow3 (by have := hBr.size; simp; omega) (fun q hq => (HO.out.lt q hq).1))
        refine ⟨⟨k + 1, (c + gx ys k) / 65536, ds ++ [(c + gx ys k) % 65536], by omega, by go_num, by go_num, by omega, by omega, by omega, by have := HL.out; simp; omega, ?_, u16_append HV.out.2 (u16_one (by omega)), ?_, hB3⟩, by simp [intOf]; omega⟩
        · have e := cut16 (pd k) (c + gx ys k)
          have e0 := HV.out.1
          rw [vd_append, vd_one, pd_succ, HL.out, vd_take_succ, vd_take_succ]
          rw [hx0.out, Int.mul_zero, Int.add_zero]; simp only [Int.mul_add] at e ⊢
          omega
        · rw [List.map_append]
          exact hown3
      · have h2I : ¬ (k : Int) < (m : Int) := by omega
        have hy0 : Hid (gx ys k = 0) := gx_past ys m (by have := HN.out; omega) k (by omega)
        by_cases h3 : 0 < c
        · obtain rfl : c = 1 := by omega
          go_wp2_with (refine wpList_append_lies _ rfl _ _ 33 rfl w.heap.size 3 i0 (.int .i64 0) 1 8 Tryz.underlying33 hi hz0 hz1 hz2 rfl (by decide) u5 k (ds.map (Value.int .i64)) rfl (HO.out.alloc _) ⟨wr.heap.size, 0, none⟩ 1 1 [.int .i64 (1)] rfl rfl ?_ (fun x hx => by simp at hx; subst hx; rfl) (by decide) (by unfold maxLen; omega) (by omega) (by have := hBr.size; simp; omega) _ rfl ?_; exact World.news_of_block (heap_alloc_new wr _); intro g cap w3 hown3 hgrow3 hat3 hlt3; have hB3 : Below w.heap.size w w3 := (bel_alw hBr).grown hgrow3 (by have := hBr.size; simp; omega) (fun q hq => (HO.out.lt q hq).1))
          refine ⟨⟨k + 1, 0, ds ++ [1], by omega, by go_num, rfl, by decide, by decide, .inr (.inr rfl), by have := HL.out; simp; omega, ?_, u16_append HV.out.2 (u16_one (by decide)), ?_, hB3⟩, by simp [intOf]; omega⟩
          · have e0 := HV.out.1
            rw [vd_append, vd_one, pd_succ, HL.out, vd_take_succ, vd_take_succ, hx0.out, hy0.out]
            omega
          · rw [List.map_append]
            exact hown3
        · obtain rfl : c = 0 := by omega
          have hform : ∃ q' cap, u5 = .slice q' k cap ∧ k ≤ cap ∧ cap ≤ maxLen ∧ Rd wr q' .i64 ds ∧ Go.Proofs.YtppidaeoikahoaaGreatDoor.From w.heap.size q' := by
            have hown := HO.out
            rcases hown.2 with ⟨h1, h2⟩ | ⟨g, cap, cur, h1, hbg, _, h4, h5, _⟩
            · refine ⟨none, 0, by rw [h1, h2], by omega, Nat.zero_le _, ?_, from_none⟩
              have : ds = [] := List.eq_nil_of_length_eq_zero (by have := HL.out; omega)
              rw [this]; exact Rd.nil
            · subst h1
              exact ⟨_, cap, rfl, h4, h5, rd_owns hown, from_new hbg⟩
          obtain ⟨q', cap, rfl, hq1, hq2, hq3, hq4⟩ := hform
          go_wp2
          go_ret
          have e0 := HV.out.1
          rw [Int.mul_zero, Int.add_zero, List.take_of_length_le (by have := HN.out; omega), List.take_of_length_le (by have := HN.out; omega)] at e0
          exact ⟨q', k, cap, ds, rfl, HL.out, hq1, hq2, hq3, HV.out.2, e0, hk, hq4, hBr⟩

end Go.Proofs.YtppidaeoikahoaaGreatDoor
