/-
  ashlarlaw1.IntForms: for all two numbers and every k the law's answer is true.
-/
import Derived.Test.YtgjgdhihpdpmcabDoorBh
import Derived.Test.YtgjgdhihpdpmcabDoorRm
import Derived.Test.YtgjgdhihpdpmcabDoorWy
import Derived.Deep.CutBlock
namespace Go.Proofs.YtgjgdhihpdpmcabDoor
open Go.RowKit
set_option linter.unusedVariables false
set_option linter.unusedSimpArgs false

/-- Two numbers in variables of their own, behind Cut. -/
structure C2 (w wc : World) (sa sb : Bool) (pa pb : Option Addr) (na nac nb nbc : Nat) (xa xb : List Int) : Prop where
  a : Vr wc w.heap.size sa pa na nac (w.heap.size + 1 + 1) xa
  b : Vr wc (w.heap.size + 1) sb pb nb nbc (w.heap.size + 1 + 1) xb
  la : na ≤ 24
  lb : nb ≤ 24
  bel : Below w.heap.size w wc
theorem C2.later {w wc w' : World} {sa sb : Bool} {pa pb : Option Addr} {na nac nb nbc : Nat} {xa xb : List Int} (h : C2 w wc sa sb pa pb na nac nb nbc xa xb) (hb : Below wc.heap.size wc w') : C2 w w' sa sb pa pb na nac nb nbc xa xb :=
  ⟨h.a.later hb, h.b.later hb, h.la, h.lb, bnext h.bel (Nat.le_refl _) hb⟩

theorem Rd.srcs {w : World} {k : IntKind} {xs : List Int} {b off : Nat} (h : Rd w (some ⟨b, off, none⟩) k xs) : ∀ j v, (xs.map (Value.int k))[j]? = some v → w.cell? ((⟨b, off, none⟩ : Addr).add j) = some v := fun j v hv => by
  have hj : 0 < xs.length := by
    rcases Nat.eq_zero_or_pos xs.length with h0 | h0
    · rw [List.eq_nil_of_length_eq_zero h0] at hv; simp at hv
    · exact h0
  obtain ⟨b', o', e, hc⟩ := h hj
  cases e
  exact Rd.src hc j v hv
/-- A variable whose limbs are a row of its own, both newer than w0. -/
structure Cw (w0 : World) (gc : Nat) (s : Bool) (v : Value) (n : Nat) (xs : List Int) (w1 : World) : Prop where
  b : Bx w1 gc (.bool s) v
  o : w1.ownsRow w0.heap.size 44 1 v n (xs.map (Value.int .u32))
  ne : ∀ g, v.ownBlock = some g → g ≠ gc
  ge : w0.heap.size ≤ gc
  bel : Below w0.heap.size w0 w1

theorem own_set {w : World} {base : Nat} {e : TypeId} {size : Nat} {v : Value} {n : Nat} {xs : List Value} (h : w.ownsRow base e size v n xs) {g0 : Nat} (hne : ∀ g, v.ownBlock = some g → g ≠ g0) (j : Nat) (u : Value) : (w.setCell ⟨g0, j, none⟩ u).ownsRow base e size v n xs :=
  h.kept (grownBy_setCell (grownBy_refl w (some g0)) j u) (by
    cases hv : v.ownBlock with
    | none => exact .inl rfl
    | some g => exact .inr (fun e => hne g hv (Option.some.inj e)))
theorem own_later {w w' : World} {base : Nat} {e : TypeId} {size : Nat} {v : Value} {n : Nat} {xs : List Value} (h : w.ownsRow base e size v n xs) (hb : Below w.heap.size w w') : w'.ownsRow base e size v n xs :=
  h.kept (grownBy_below hb none) (by cases v.ownBlock <;> simp)
theorem Cw.later {w0 : World} {gc : Nat} {s : Bool} {v : Value} {n : Nat} {xs : List Int} {w1 w2 : World} (h : Cw w0 gc s v n xs w1) (hb : Below w1.heap.size w1 w2) : Cw w0 gc s v n xs w2 :=
  ⟨h.b.later hb, own_later h.o hb, h.ne, h.ge, bnext' h.bel hb⟩
theorem Cw.ai {w0 : World} {gc : Nat} {s : Bool} {v : Value} {n : Nat} {xs : List Int} {w1 : World} (h : Cw w0 gc s v n xs w1) (hl : xs.length = n) (hn : n ≤ 100) (hU : U32 xs) : ∃ p cap, v = .slice p n cap ∧ AI w1 p n cap xs ∧ Go.Proofs.YtgjgdhihpdpmcabDoor.From w0.heap.size p := by
  rcases h.o.2 with ⟨h1, h2⟩ | ⟨g, cap, cur, h1, hbg, _, h4, h5, _⟩
  · refine ⟨none, 0, by rw [h1, h2], ⟨hl, by omega, Nat.zero_le _, by omega, ?_, hU⟩, from_none⟩
    have : xs = [] := List.eq_nil_of_length_eq_zero (by omega)
    rw [this]; exact Rd.nil
  · subst h1
    exact ⟨_, cap, rfl, ⟨hl, h4, h5, by omega, rd_owns h.o, hU⟩, from_new hbg⟩

theorem Bx.grown {w w' : World} {g : Nat} {u v : Value} {row : Option Nat} (h : Bx w g u v) (hg : w.grownBy w' row) (hne : some g ≠ row) : Bx w' g u v := by
  have hlt : g < w.heap.size := block_lt_of_cell h.c0
  exact ⟨(hg.cell_far ⟨g, 0, none⟩ hlt hne).trans h.c0, (hg.cell_far ⟨g, 1, none⟩ hlt hne).trans h.c1, (hg.frozen_far ⟨g, 0, none⟩ hlt hne).trans h.f0, (hg.frozen_far ⟨g, 1, none⟩ hlt hne).trans h.f1⟩
theorem Bx_set1 {w : World} {g : Nat} {u v y : Value} (h : Bx w g u v) : Bx (w.setCell ⟨g, 1, none⟩ y) g u y := by
  have c0 := h.c0
  have c1 := h.c1
  have f0 := h.f0
  have f1 := h.f1
  exact ⟨by simp [go_sem, *], by simp [go_sem, *], by simp [go_sem, *], by simp [go_sem, *]⟩
theorem zeros_succ (j : Nat) : zeros (j + 1) = zeros j ++ [0] := by simp [zeros, List.replicate_succ']

theorem AI.grown {w w' : World} {p : Option Addr} {n nc g : Nat} {xs : List Int} (h : AI w p n nc xs) (hg : w.grownBy w' (some g)) (hne : 0 < n → Off g p) : AI w' p n nc xs :=
  ⟨h.len, h.cap, h.bnd, h.sml, fun hx => (h.rd.keptOff hg (hne (by have := h.len; omega))) hx, h.u⟩
theorem NI.grown {B : Nat} {w w' : World} {s : Bool} {p : Option Addr} {n g : Nat} {xs : List Int} {z : Int} (h : NI B w s p n xs z) (hg : w.grownBy w' (some g)) (hne : g < B) : NI B w' s p n xs z :=
  ⟨h.len, h.rd.keptOff hg (fun a ha e => by have := h.fr a ha; omega), h.u, h.nrm, h.sg, h.pn, h.v, h.fr⟩
theorem val_zeros_end (xs : List Int) (j : Nat) : val (xs ++ zeros j) = val xs := by rw [val_append, val_zero, Int.mul_zero, Int.add_zero]
theorem ival_zeros_end (s : Bool) (xs : List Int) (j : Nat) : ival s (xs ++ zeros j) = ival s xs := by rw [ival, ival, val_zeros_end]

set_option maxRecDepth 100000 in
set_option maxHeartbeats 4000000 in
theorem IntForms_walk (sa sb : Bool) (pa pb : Option Addr) (na nac nb nbc : Nat) (xa xb : List Int) (kk : Int) (w : World) (hk0 : -9223372036854775808 ≤ kk) (hk1 : kk ≤ 9223372036854775807)
    (hla : xa.length = na) (hnca : na ≤ nac) (hba : nac ≤ maxLen) (hXa : Rd w pa .u32 xa) (hUa : U32 xa) (hpa : pa = none → nac = 0)
    (hlb : xb.length = nb) (hncb : nb ≤ nbc) (hbb : nbc ≤ maxLen) (hXb : Rd w pb .u32 xb) (hUb : U32 xb) (hpb : pb = none → nbc = 0) :
    Calls Tryd.prog 5 #[.agg #[.bool sa, .slice pa na nac], .agg #[.bool sb, .slice pb nb nbc], .int .i64 kk] w fun e w' => e = .returned (.bool true) ∧ Below w.heap.size w w' := by
  go_enter Tryd.func5, Tryd.ntmps5
  go_upto_region 2 with (go_at_call 6; refine (begun_any _).mono ?_; rintro e w1 ⟨rfl, hb1⟩)
  have hA0 : Bx ((w.alloc (.cells #[.bool sa, .slice pa na nac] 24)).alloc (.cells #[.bool sb, .slice pb nb nbc] 24)) w.heap.size (.bool sa) (.slice pa na nac) := (Bx.new _ _ _ rfl).alloc _
  have hB0 : Bx ((w.alloc (.cells #[.bool sa, .slice pa na nac] 24)).alloc (.cells #[.bool sb, .slice pb nb nbc] 24)) (w.heap.size + 1) (.bool sb) (.slice pb nb nbc) := Bx.new _ _ _ (World.size_alloc ..).symm
  have hbw : Below w.heap.size w ((w.alloc (.cells #[.bool sa, .slice pa na nac] 24)).alloc (.cells #[.bool sb, .slice pb nb nbc] 24)) := ((Below.refl _ _).alloc (Nat.le_refl _) _).alloc (by simp) _
  have hsz : w.heap.size + 1 + 1 ≤ ((w.alloc (.cells #[.bool sa, .slice pa na nac] 24)).alloc (.cells #[.bool sb, .slice pb nb nbc] 24)).heap.size := by simp
  generalize ((w.alloc (.cells #[.bool sa, .slice pa na nac] 24)).alloc (.cells #[.bool sb, .slice pb nb nbc] 24)) = W0 at *
  have hA1 := hA0.later hb1
  have hB1 := hB0.later hb1
  have hbw1 := bnext hbw (Nat.le_refl _) hb1
  have hsz1 : w.heap.size + 1 + 1 ≤ w1.heap.size := Nat.le_trans hsz hb1.size
  clear hA0 hB0 hbw hsz hb1
  go_cut [] (fun wc => ∃ pa' na' nac' pb' nb' nbc', C2 w wc sa sb pa' pb' na' nac' nb' nbc' (xa.take 24) (xb.take 24))
  case first =>
    have a0 := hA1.c0
    have a1 := hA1.c1
    have b0 := hB1.c0
    have b1 := hB1.c1
    go_region_with (first
      | (go_at_call_of 7 (Value.agg #[.bool sa, .slice pa na nac]); refine (Cut_any sa pa na nac xa _ hla hnca hba (hXa.below hbw1).drew hUa hpa).mono ?_; rintro e w2 ⟨pa', na', nac', rfl, hA, hna24, hFa, hb2⟩; have hA2 := hA1.later (undrew hb2); have hB2 := hB1.later (undrew hb2); have b20 := hB2.c0; have b21 := hB2.c1)
      | (go_at_call_of 7 (Value.agg #[.bool sb, .slice pb nb nbc]); refine (Cut_any sb pb nb nbc xb _ hlb hncb hbb ((hXb.below hbw1).drew.below hb2) hUb hpb).mono ?_; rintro e w3 ⟨pb', nb', nbc', rfl, hB, hnb24, hFb, hb3⟩; have hA3 := hA2.later hb3; have hB3 := hB2.later hb3; have a40 := hA3.c0; have a41 := hA3.c1; have b40 := hB3.c0; have b41 := hB3.c1; have fa0 := hA3.f0; have fa1 := hA3.f1; have fb0 := hB3.f0; have fb1 := hB3.f1))
    all_goals (go_wp2_with fail; go_meet)
    all_goals
      have s2 := hb2.size
      have s3 := hb3.size
      have e1 : w1.drew.heap.size = w1.heap.size := rfl
      refine ⟨pa', na', nac', pb', nb', nbc', ⟨?_, ?_, ?_⟩, ⟨?_, ?_, ?_⟩, hna24, hnb24, ?_⟩
      · exact Bx_oth (Bx_set hA3) (by omega)
      · exact ((hA.below hb3).set2 hFa (by omega) _ _).set2 hFa (by omega) _ _
      · exact hFa.mono (by omega)
      · exact Bx_set (Bx_oth hB3 (by omega))
      · exact (hB.set2 hFb (by omega) _ _).set2 hFb (by omega) _ _
      · exact hFb.mono (by omega)
      · exact bset2 (bset2 (bnext (bnext hbw1 (Nat.le_refl _) (undrew hb2)) (Nat.le_refl _) hb3) (by omega) _ _) (by omega) _ _
  case rest =>
    obtain ⟨pa', na', nac', pb', nb', nbc', hG⟩ := hcut
    clear hA1 hB1 hbw1 hsz1
    have la := hG.la
    have lb := hG.lb
    have k0 := hG.a.b.c0
    have k1 := hG.a.b.c1
    have k2 := hG.b.b.c0
    have k3 := hG.b.b.c1
    have hlA := hG.a.a.len
    have HI := info_u32
    obtain ⟨i0, hi, hzz⟩ := Option.map_eq_some_iff.1 HI
    simp only [Prod.mk.injEq] at hzz
    obtain ⟨hz0, hz1, hz2⟩ := hzz
    clear HI
    have HI : Hid (Tryd.prog.info? 44 = some i0 ∧ i0.zero = some (.int .u32 0) ∧ i0.size = 1 ∧ i0.bytes = 4) := ⟨hi, hz0, hz1, hz2⟩
    go_wp2_with fail
    obtain ⟨w0, hw0⟩ : ∃ x, x = wc := ⟨_, rfl⟩
    subst hw0
    go_cut [8] (fun cv w3 => ∃ gc v, cv = .pointer (some ⟨gc, 0, none⟩) ∧ Cw w0 gc sa v na' (xa.take 24) w3)
    case first =>
      have hRd := hG.a.a.rd
      have hlt : w.heap.size < w0.heap.size := block_lt_of_cell k0
      have hne1 : w.heap.size ≠ w0.heap.size := by omega
      have hne2 : w0.heap.size ≠ w.heap.size := by omega
      rcases Nat.eq_zero_or_pos na' with h0 | h0
      · subst h0
        cases pa' with
        | none =>
          have ha := fun ty w => app_none ty none nac' w
          go_region_held3 (fun w' => w'.cell? ⟨w.heap.size, 0, none⟩ = some (.bool sa) ∧ w'.cell? ⟨w.heap.size, 1, none⟩ = some (.slice none 0 nac')) (simp [go_sem, *]) (fail)
          all_goals (go_wp2_with fail; go_meet)
          all_goals
            have hnil : xa.take 24 = [] := List.eq_nil_of_length_eq_zero hlA
            have hbn : Bx (w0.alloc (.cells #[.bool sa, .slice none 0 0] 24)) w0.heap.size (.bool sa) (.slice none 0 0) := Bx.new _ _ _ rfl
            refine ⟨w0.heap.size, .slice none 0 0, rfl, ⟨hbn.c0, hbn.c1, hbn.f0, hbn.f1⟩, ?_, fun g hg => (by cases hg), Nat.le_refl _, ((Below.refl _ _).alloc (Nat.le_refl _) _).drew⟩
            rw [hnil]
            exact World.ownsRow_nil _ _ _ _
        | some ad =>
          have ha := fun ty w => app_none ty (some ad) nac' w
          go_region_held3 (fun w' => w'.cell? ⟨w.heap.size, 0, none⟩ = some (.bool sa) ∧ w'.cell? ⟨w.heap.size, 1, none⟩ = some (.slice (some ad) 0 nac')) (simp [go_sem, *]) (fail)
          all_goals (go_wp2_with fail; go_meet)
          all_goals
            have hnil : xa.take 24 = [] := List.eq_nil_of_length_eq_zero hlA
            have hbn : Bx (w0.alloc (.cells #[.bool sa, .slice none 0 0] 24)) w0.heap.size (.bool sa) (.slice none 0 0) := Bx.new _ _ _ rfl
            refine ⟨w0.heap.size, .slice none 0 0, rfl, ⟨hbn.c0, hbn.c1, hbn.f0, hbn.f1⟩, ?_, fun g hg => (by cases hg), Nat.le_refl _, ((Below.refl _ _).alloc (Nat.le_refl _) _).drew⟩
            rw [hnil]
            exact World.ownsRow_nil _ _ _ _
      · obtain ⟨b, off, rfl, -⟩ := hRd (by omega)
        go_region_held3 (fun w' => w'.cell? ⟨w.heap.size, 0, none⟩ = some (.bool sa) ∧ w'.cell? ⟨w.heap.size, 1, none⟩ = some (.slice (some ⟨b, off, none⟩) na' nac')) (first | exact ⟨by assumption, by assumption⟩ | exact e12 | exact keepc2 e12 ((Below.refl _ _).alloc (Nat.le_refl _) _) | exact keepc2 (by assumption) (by assumption) | (simp [go_sem, *]; done))
          (first
            | (refine step_append_lies _ rfl _ _ 22 rfl w0.heap.size 44 i0 (.int .u32 0) 1 4 Tryd.underlying22 hi hz0 hz1 hz2 rfl (by decide) (.slice none 0 0) 0 [] rfl (World.ownsRow_nil _ _ _ _) ⟨b, off, none⟩ na' nac' ((xa.take 24).map (Value.int .u32)) rfl (by rw [List.length_map, hlA, Nat.mul_one]) ?_ (oneCell_ca _ _) h0 (by unfold maxLen; omega) (by omega) (by first | exact Nat.le_refl _ | (simp; done)) _ rfl ?_; (first | exact Rd.srcs hRd.drew | exact Rd.srcs (hRd.alloc _).drew | exact Rd.srcs (hRd.drew.alloc _)); intro g cap w3 hown3 hgrow3 hat3 hlt3; have hb3 := below_of_grown hgrow3; have t3 : w0.heap.size ≤ w3.heap.size := (by first | exact hb3.size | exact Nat.le_trans ((Below.refl w0.heap.size w0).alloc (Nat.le_refl _) _).size hb3.size); have e12 : w3.cell? ⟨w.heap.size, 0, none⟩ = some (.bool sa) ∧ w3.cell? ⟨w.heap.size, 1, none⟩ = some (.slice (some ⟨b, off, none⟩) na' nac') := keepc2 (by assumption) hb3; have hlt3' : w.heap.size < w3.heap.size := (by omega); have hne3 : w.heap.size ≠ w3.heap.size := (by omega); have hne4 : w3.heap.size ≠ w.heap.size := (by omega); obtain ⟨hc3, hf3, hz3, -, -⟩ := brules hb3; obtain ⟨m1, m2, m3, m4⟩ := bne hb3))
        all_goals (go_wp2_with fail; go_meet)
        · have hown4 : w3.ownsRow w0.heap.size 44 1 (.slice (some ⟨g, 0, none⟩) na' cap) na' ((xa.take 24).map (Value.int .u32)) := by simpa using hown3
          exact ⟨w3.heap.size, _, rfl, Bx.new _ _ _ rfl, hown4.alloc _, fun g' hg => (by have hg' : some g = some g' := hg; cases hg'; omega), t3, (undrew hb3).alloc t3 _⟩
        · have hown4 : w3.ownsRow w0.heap.size 44 1 (.slice (some ⟨g, 0, none⟩) na' cap) na' ((xa.take 24).map (Value.int .u32)) := by simpa using hown3
          have hbn : Bx (w0.alloc (.cells #[.bool false, .slice none 0 0] 24)) w0.heap.size (.bool false) (.slice none 0 0) := Bx.new _ _ _ rfl
          have hb3' := undrew hb3
          have hgn : g ≠ w0.heap.size := by
            rcases hat3 with h | h
            · cases h
            · have h' : g = w0.heap.size + 1 := by rw [h]; simp
              omega
          have hne5 : ∀ g', Value.ownBlock (.slice (some ⟨g, 0, none⟩) na' cap) = some g' → g' ≠ w0.heap.size := fun g' hg => (by have hg' : some g = some g' := hg; cases hg'; exact hgn)
          exact ⟨w0.heap.size, _, rfl, Bx_set (hbn.later hb3'), own_set (own_set hown4 hne5 _ _) hne5 _ _, hne5, Nat.le_refl _, bset2 (bnext' ((Below.refl _ _).alloc (Nat.le_refl _) _) hb3') (Nat.le_refl _) _ _⟩
    case rest =>
      obtain ⟨gc, vc, rfl, hC⟩ := hcut
      have hG1 := hG.later hC.bel
      clear hi hz0 hz1 hz2 k0 k1 k2 k3
      go_upto_block 0 with fail
      go_cut [9] (fun iv w5 => ∃ (j : Nat) (v : Value), j ≤ 5 ∧ Cw w0 gc sa v (na' + j) (xa.take 24 ++ zeros j) w5)
      case first =>
        go_wp2_with fail
        go_loopw [9] (fun iv wr => ∃ (j : Nat) (v : Value), j ≤ 5 ∧ iv = .int .i64 j ∧ Hid (Cw w0 gc sa v (na' + j) (xa.take 24 ++ zeros j) wr)) (fun iv _ => 5 - (intOf iv).toNat)
        case atStart => exact ⟨0, vc, by decide, rfl, by show Cw _ _ _ _ _ _ _; simpa [zeros] using hC⟩
        case round =>
          obtain ⟨j, v, hj, rfl, H⟩ := hrel
          have c0 := H.out.b.c0
          have c1 := H.out.b.c1
          have f0 := H.out.b.f0
          have f1 := H.out.b.f1
          by_cases h1 : (j : Int) < kk
          · by_cases h2 : j < 5
            · have h2I : (j : Int) < 5 := by omega
              obtain ⟨hi, hz0, hz1, hz2⟩ := HI.out
              have hgl : gc < wr.heap.size := block_lt_of_cell c0
              have hsz0 := H.out.bel.size
              go_wp2_with (refine wpList_append_lies _ rfl _ _ 22 rfl w0.heap.size 44 i0 (.int .u32 0) 1 4 Tryd.underlying22 hi hz0 hz1 hz2 rfl (by decide) v (na' + j) ((xa.take 24 ++ zeros j).map (Value.int .u32)) rfl (H.out.o.alloc _) ⟨wr.heap.size, 0, none⟩ 1 1 [.int .u32 0] rfl rfl ?_ (fun x hx => by simp at hx; subst hx; rfl) (by decide) (by unfold maxLen; omega) (by omega) (by simp; omega) _ rfl ?_; exact World.news_of_block (heap_alloc_new wr _); intro g cap w3 hown3 hgrow3 hat3 hlt3; have hb3 : Bx w3 gc (.bool sa) v := (H.out.b.alloc _).grown hgrow3 (fun e => H.out.ne gc e.symm rfl); have d0 := hb3.c0; have d1 := hb3.c1; have d2 := hb3.f0; have d3 := hb3.f1)
              have hB3 : Below w0.heap.size w0 w3 := (H.out.bel.alloc hsz0 _).grown hgrow3 (by simp; omega) (fun q hq => (H.out.o.lt q hq).1)
              have hgg : g ≠ gc := by
                rcases hat3 with h | h
                · exact H.out.ne g h
                · rw [h]; simp; omega
              have hne5 : ∀ g', Value.ownBlock (.slice (some ⟨g, 0, none⟩) (na' + j + 1) cap) = some g' → g' ≠ gc := fun g' hg => (by have hg' : some g = some g' := hg; cases hg'; exact hgg)
              refine ⟨⟨j + 1, _, by omega, by go_num, ⟨Bx_set1 hb3, ?_, hne5, H.out.ge, hB3.setCell (by have := H.out.ge; simpa using this) _⟩⟩, by simp [intOf]; omega⟩
              refine own_set ?_ hne5 _ _
              have e : (xa.take 24 ++ zeros (j + 1)).map (Value.int .u32) = (xa.take 24 ++ zeros j).map (Value.int .u32) ++ [.int .u32 0] := by rw [zeros_succ, ← List.append_assoc, List.map_append]; rfl
              rw [e]
              exact hown3
            · have h2I : ¬ (j : Int) < 5 := by omega
              go_wp2_with fail
              go_meet
              exact ⟨j, v, hj, H.out⟩
          · go_wp2_with fail
            go_meet
            exact ⟨j, v, hj, H.out⟩
      case rest =>
        obtain ⟨j, v, hj, hC5⟩ := hcut
        have hG5 := hG.later hC5.bel
        have hlC : (xa.take 24 ++ zeros j).length = na' + j := by rw [List.length_append, hlA, length_zeros]
        have hUA := hG.a.a.u
        obtain ⟨pc, capc, rfl, hAc, hFc⟩ := hC5.ai hlC (by omega) (u32_append hUA (u32_zeros j))
        have hvc := ival_zeros_end sa (xa.take 24) j
        have HVC : Hid (ival sa (xa.take 24 ++ zeros j) = ival sa (xa.take 24) ∧ (∀ i, i < na' → gx (xa.take 24 ++ zeros j) i = gx (xa.take 24) i)) := ⟨hvc, fun i hi => gx_append_left _ _ _ (by rw [hlA]; exact hi)⟩
        clear hvc
        generalize hxc : xa.take 24 ++ zeros j = xc at *
        clear hxc hC
        obtain ⟨N, hN, hNb⟩ : ∃ N, N = na' + j ∧ N ≤ 29 := ⟨_, rfl, by omega⟩
        rw [← hN] at hC5 hAc hlC
        have HN : Hid (N = na' + j) := hN
        clear hN
        have hBc := hC5.b
        have hgc : w0.heap.size ≤ gc := hC5.ge
        have k0 := hG5.a.b.c0
        have k1 := hG5.a.b.c1
        have k2 := hG5.b.b.c0
        have k3 := hG5.b.b.c1
        clear hG1
        go_wp2_with fail
        refine (Mul_row sa sb pa' pb' na' nac' nb' nbc' _ _ _ hG5.a.a hG5.b.a (.inl (by omega))).mono ?_
        rintro e v1 ⟨sx, px, nx, zx, rfl, hNx, hnx, hv1, HRx⟩
        obtain ⟨gX, Zx, hgX, hRX, hnX, hpX⟩ := HRx.out
        have HPX : Hid (0 < nx → px = some ⟨gX, 0, none⟩) := hpX
        clear HRx hpX
        have hal1 := (Below.refl v1.heap.size v1).alloc (Nat.le_refl _) (.cells #[.bool sx, .slice px nx nx] 24)
        have hG7 := (hG5.later hv1).later hal1
        have hBc7 := (hBc.later hv1).later hal1
        have hAc7 := (hAc.below hv1).below hal1
        have hBx7 : Bx (v1.alloc (.cells #[.bool sx, .slice px nx nx] 24)) v1.heap.size (.bool sx) (.slice px nx nx) := Bx.new _ _ _ rfl
        have hNx7 := hNx.below hal1
        have hRX7 := hRX.below hal1 hRX.lt
        have hsX : gX < v1.heap.size := hRX.lt
        have hs0 : wc.heap.size ≤ v1.heap.size := hv1.size
        have hs1 : v1.heap.size < (v1.alloc (.cells #[.bool sx, .slice px nx nx] 24)).heap.size := by simp
        clear hal1 hv1 hNx hRX k0 k1 k2 k3
        have k0 := hBc7.c0
        have k1 := hBc7.c1
        have k2 := hG7.b.b.c0
        have k3 := hG7.b.b.c1
        go_wp2_with fail
        generalize v1.alloc (.cells #[.bool sx, .slice px nx nx] 24) = V1 at *
        refine (Mul_small sa sb pc pb' N capc nb' nbc' _ _ _ hAc7 hG7.b.a (.inl (by omega))).mono ?_
        rintro e v2 ⟨sy, py, ny, zy, rfl, hNy, hny, hv2⟩
        have hal2 := (Below.refl v2.heap.size v2).alloc (Nat.le_refl _) (.cells #[.bool sy, .slice py ny ny] 24)
        have hG8 := (hG7.later hv2).later hal2
        have hBc8 := (hBc7.later hv2).later hal2
        have hAc8 := (hAc7.below hv2).below hal2
        have hBx8 := (hBx7.later hv2).later hal2
        have hNx8 := (hNx7.below hv2).below hal2
        have hRX8 := (hRX7.below hv2 hRX7.lt).below hal2 (Nat.lt_of_lt_of_le hRX7.lt hv2.size)
        have hBy8 : Bx (v2.alloc (.cells #[.bool sy, .slice py ny ny] 24)) v2.heap.size (.bool sy) (.slice py ny ny) := Bx.new _ _ _ rfl
        have hNy8 := hNy.below hal2
        have hs2 : V1.heap.size ≤ v2.heap.size := hv2.size
        have hs3 : v2.heap.size < (v2.alloc (.cells #[.bool sy, .slice py ny ny] 24)).heap.size := by simp
        clear hal2 hv2 hNy hRX7 hNx7 hBx7 hAc7 hBc7 hG7 k0 k1 k2 k3
        have k0 := hBc8.c0
        have k1 := hBc8.c1
        have k2 := hG8.b.b.c0
        have k3 := hG8.b.b.c1
        go_wp2_with fail
        generalize v2.alloc (.cells #[.bool sy, .slice py ny ny] 24) = V2 at *
        refine (Add_any sa sb pc pb' N capc nb' nbc' _ _ _ hAc8 hG8.b.a).mono ?_
        rintro e v3 ⟨sz, pz, nz, zz, rfl, hNz, hnz, hv3⟩
        have hal3 := (Below.refl v3.heap.size v3).alloc (Nat.le_refl _) (.cells #[.bool sz, .slice pz nz nz] 24)
        have hG9 := (hG8.later hv3).later hal3
        have hBc9 := (hBc8.later hv3).later hal3
        have hAc9 := (hAc8.below hv3).below hal3
        have hBx9 := (hBx8.later hv3).later hal3
        have hNx9 := (hNx8.below hv3).below hal3
        have hRX9 := (hRX8.below hv3 hRX8.lt).below hal3 (Nat.lt_of_lt_of_le hRX8.lt hv3.size)
        have hBy9 := (hBy8.later hv3).later hal3
        have hNy9 := (hNy8.below hv3).below hal3
        have hBz9 : Bx (v3.alloc (.cells #[.bool sz, .slice pz nz nz] 24)) v3.heap.size (.bool sz) (.slice pz nz nz) := Bx.new _ _ _ rfl
        have hNz9 := hNz.below hal3
        have hs4 : V2.heap.size ≤ v3.heap.size := hv3.size
        have hs5 : v3.heap.size < (v3.alloc (.cells #[.bool sz, .slice pz nz nz] 24)).heap.size := by simp
        clear hal3 hv3 hNz hRX8 hNx8 hBx8 hAc8 hBc8 hG8 hBy8 hNy8 k0 k1 k2 k3
        have k0 := hBx9.c0
        have k1 := hBx9.c1
        have k2 := hBy9.c0
        have k3 := hBy9.c1
        go_wp2_with fail
        generalize v3.alloc (.cells #[.bool sz, .slice pz nz nz] 24) = V3 at *
        rw [HVC.out.1] at hNy9 hNz9
        refine (rEq_ni hNx9 hNy9 (by omega)).mono ?_
        rintro e V4 ⟨rfl, hv4⟩
        have hG10 := hG9.later hv4
        have hBc10 := hBc9.later hv4
        have hAc10 := hAc9.below hv4
        have hBx10 := hBx9.later hv4
        have hRX10 := hRX9.below hv4 hRX9.lt
        have hBy10 := hBy9.later hv4
        have hNy10 := hNy9.below hv4
        have hBz10 := hBz9.later hv4
        have hNz10 := hNz9.below hv4
        have hs6 : V3.heap.size ≤ V4.heap.size := hv4.size
        clear hv4 hG9 hBc9 hAc9 hBx9 hRX9 hBy9 hNy9 hBz9 hNz9 hNx9 k0 k1 k2 k3
        go_wp2_with fail
        have hga : w.heap.size < wc.heap.size := block_lt_of_cell hG5.a.b.c0
        have hgb : w.heap.size + 1 < wc.heap.size := block_lt_of_cell hG5.b.b.c0
        have hgcl : gc < wc.heap.size := block_lt_of_cell hBc.c0
        have hoa : 0 < na' → Off gX pa' := fun h => hG5.a.a.rd.off hgX (by omega)
        have hob : 0 < nb' → Off gX pb' := fun h => hG5.b.a.rd.off hgX (by have := hG5.b.a.len; omega)
        have hoc : 0 < N → Off gX pc := fun h => hAc.rd.off hgX (by omega)
        clear hG5 hC5 hAc hBc hFc
        go_loopw [14] (fun iv wr => ∃ i : Nat, i ≤ nx ∧ iv = .int .i64 i ∧ Hid (V4.grownBy wr (some gX) ∧ ∃ Z, Row wr gX 44 .u32 Z ∧ nx ≤ Z.length)) (fun iv _ => nx - (intOf iv).toNat)
        case atStart => exact ⟨0, Nat.zero_le _, rfl, grownBy_refl _ _, Zx, hRX10, hnX⟩
        case round =>
          obtain ⟨i, hi, rfl, H⟩ := hrel
          have hBxr := hBx10.grown H.out.1 (by intro e; cases e; omega)
          have k1 := hBxr.c1
          by_cases hlt : i < nx
          · have hltI : (i : Int) < (nx : Int) := by omega
            obtain rfl := HPX.out (by omega)
            obtain ⟨Z, hZ, hZl⟩ := H.out.2
            have g1 := hZ.cell i (by omega)
            have g2 := hZ.frozen i
            have HZ : Hid (Row wr gX 44 .u32 Z ∧ nx ≤ Z.length) := ⟨hZ, hZl⟩
            clear hZ hZl hBxr
            go_wp2
            refine ⟨⟨i + 1, by omega, by go_num, grownBy_setCell H.out.1 i _, Z.set i 77, HZ.out.1.set i 77, by rw [List.length_set]; exact HZ.out.2⟩, by simp [intOf]; omega⟩
          · have hltI : ¬ (i : Int) < (nx : Int) := by omega
            have hg := H.out.1
            have hG11 : C2 w wr sa sb pa' pb' na' nac' nb' nbc' (xa.take 24) (xb.take 24) :=
              ⟨⟨hG10.a.b.grown hg (by intro e; cases e; omega), hG10.a.a.grown hg hoa, hG10.a.f⟩, ⟨hG10.b.b.grown hg (by intro e; cases e; omega), hG10.b.a.grown hg hob, hG10.b.f⟩, hG10.la, hG10.lb, below_grown hG10.bel hg hG10.bel.size (by omega)⟩
            have hBc11 := hBc10.grown hg (by intro e; cases e; omega)
            have hAc11 := hAc10.grown hg hoc
            have hBy11 := hBy10.grown hg (by intro e; cases e; omega)
            have hNy11 := hNy10.grown hg (by omega)
            have hBz11 := hBz10.grown hg (by intro e; cases e; omega)
            have hNz11 := hNz10.grown hg (by omega)
            clear hg H hBxr hG10 hBc10 hAc10 hBy10 hNy10 hBz10 hNz10 hBx10 hRX10
            go_wp2
            generalize hV5 : wr = V5 at *
            go_loopw [15] (fun iv wr => ∃ i : Nat, i ≤ na' ∧ iv = .int .i64 i ∧ Hid (Below V5.heap.size V5 wr)) (fun iv _ => na' - (intOf iv).toNat)
            case atStart => exact ⟨0, Nat.zero_le _, rfl, Below.refl _ _⟩
            case round =>
              obtain ⟨i2, hi2, rfl, H2⟩ := hrel
              have hG12 := hG11.later H2.out
              have hBc12 := hBc11.later H2.out
              clear k1
              have k1 := hG12.a.b.c1
              have k3 := hBc12.c1
              by_cases hlt2 : i2 < na'
              · have hlt2I : (i2 : Int) < (na' : Int) := by omega
                have hNI : (i2 : Int) < (N : Int) := by have := HN.out; omega
                obtain ⟨b1, o1, rfl, hc1⟩ := (hG12.a.a.rd) (by omega)
                obtain ⟨b2, o2, rfl, hc2⟩ := (hAc11.rd.below H2.out) (by omega)
                have g1 := hc1 i2 (by omega)
                have g2 := hc2 i2 (by omega)
                rw [HVC.out.2 i2 hlt2] at g2
                have hq : (gx (xa.take 24) i2 != gx (xa.take 24) i2) = false := by simp
                clear hc1 hc2 hG12 hBc12
                go_wp2_with fail
                go_quiet (fail)
                go_wp2
                refine ⟨⟨i2 + 1, by omega, by go_num, below_drewN H2.out nq⟩, by simp [intOf]; omega⟩
              · have hlt2I : ¬ (i2 : Int) < (na' : Int) := by omega
                have hBy12 := hBy11.later H2.out
                have hNy12 := hNy11.below H2.out
                have hBz12 := hBz11.later H2.out
                have hNz12 := hNz11.below H2.out
                have k0 := hG12.a.b.c0
                have k4 := hG12.b.b.c0
                have k5 := hG12.b.b.c1
                have k6 := hBy12.c0
                have k7 := hBy12.c1
                clear k3 hBc12 hG11 hBc11 hAc11 hBy11 hNy11 hBz11 hNz11
                go_wp2_with fail
                go_region_held3 (fun w' => w'.cell? ⟨v2.heap.size, 0, none⟩ = some (.bool sy) ∧ w'.cell? ⟨v2.heap.size, 1, none⟩ = some (.slice py ny ny) ∧ w'.cell? ⟨w.heap.size, 0, none⟩ = some (.bool sa) ∧ w'.cell? ⟨w.heap.size, 1, none⟩ = some (.slice pa' na' nac') ∧ w'.cell? ⟨w.heap.size + 1, 0, none⟩ = some (.bool sb) ∧ w'.cell? ⟨w.heap.size + 1, 1, none⟩ = some (.slice pb' nb' nbc')) (first | exact ⟨by assumption, by assumption, by assumption, by assumption, by assumption, by assumption⟩ | exact keepc6 (by assumption) (by assumption))
                    (first
                      | (go_at_call_of 12 (Value.agg #[.bool sa, .slice pa' na' nac']); refine (From_ans sa pa' na' nac' _ _ hG12.a.a.drew).mono ?_; rintro e x1a ⟨s1a, p1a, n1a, d1a, rfl, hR1a, hV1a, hn1a, hx1a⟩; have HV1a : Hid (rval s1a d1a = ival sa (xa.take 24)) := hV1a; clear hV1a; have hX1a := undrew hx1a)
                      | (go_at_call_of 12 (Value.agg #[.bool sb, .slice pb' nb' nbc']); refine (From_ans sb pb' nb' nbc' _ _ (hG12.b.a.below hX1a)).mono ?_; rintro e x2a ⟨s2a, p2a, n2a, d2a, rfl, hR2a, hV2a, hn2a, hx2a⟩; have HV2a : Hid (rval s2a d2a = ival sb (xb.take 24)) := hV2a; clear hV2a; have hX2a := bnext' hX1a hx2a)
                      | (go_at_call 19; refine (rMul_rn (hR1a.below hx2a) hR2a (by omega) (by omega)).mono ?_; rintro e x3a ⟨s3a, p3a, n3a, d3a, rfl, hR3a, hV3a, hn3a, hF3a, hx3a⟩; have HV3a : Hid (rval s3a d3a = ival sa (xa.take 24) * ival sb (xb.take 24)) := (by show _ = _; rw [hV3a, HV1a.out, HV2a.out]); clear hV3a; have hX3a := bnext' hX2a hx3a)
                      | (go_at_call 11; have h1a := hNy12.below hX3a; refine (rIs_rn h1a (by omega) hR3a (by omega) HV3a.out).mono ?_; rintro e x4a ⟨rfl, hx4a⟩; have hX4a := bnext' hX3a hx4a))
                have hG13 := hG12.later hX4a
                have hBz13 := hBz12.later hX4a
                have hNz13 := hNz12.below hX4a
                clear k0 k1 k4 k5 k6 k7 hG12 hBy12 hNy12 hBz12 hNz12 hX4a hX3a hX2a hX1a hx4a hx3a hx2a hx1a hR1a hR2a hR3a h1a hn1a hn2a hn3a hF3a HV1a HV2a HV3a
                have k0 := hG13.a.b.c0
                have k1 := hG13.a.b.c1
                have k4 := hG13.b.b.c0
                have k5 := hG13.b.b.c1
                have k6 := hBz13.c0
                have k7 := hBz13.c1
                go_wp2_with fail
                go_region_held3 (fun w' => w'.cell? ⟨v3.heap.size, 0, none⟩ = some (.bool sz) ∧ w'.cell? ⟨v3.heap.size, 1, none⟩ = some (.slice pz nz nz) ∧ w'.cell? ⟨w.heap.size, 0, none⟩ = some (.bool sa) ∧ w'.cell? ⟨w.heap.size, 1, none⟩ = some (.slice pa' na' nac') ∧ w'.cell? ⟨w.heap.size + 1, 0, none⟩ = some (.bool sb) ∧ w'.cell? ⟨w.heap.size + 1, 1, none⟩ = some (.slice pb' nb' nbc')) (first | exact ⟨by assumption, by assumption, by assumption, by assumption, by assumption, by assumption⟩ | exact keepc6 (by assumption) (by assumption))
                    (first
                      | (go_at_call_of 12 (Value.agg #[.bool sa, .slice pa' na' nac']); refine (From_ans sa pa' na' nac' _ _ hG13.a.a.drew).mono ?_; rintro e x1b ⟨s1b, p1b, n1b, d1b, rfl, hR1b, hV1b, hn1b, hx1b⟩; have HV1b : Hid (rval s1b d1b = ival sa (xa.take 24)) := hV1b; clear hV1b; have hX1b := undrew hx1b)
                      | (go_at_call_of 12 (Value.agg #[.bool sb, .slice pb' nb' nbc']); refine (From_ans sb pb' nb' nbc' _ _ (hG13.b.a.below hX1b)).mono ?_; rintro e x2b ⟨s2b, p2b, n2b, d2b, rfl, hR2b, hV2b, hn2b, hx2b⟩; have HV2b : Hid (rval s2b d2b = ival sb (xb.take 24)) := hV2b; clear hV2b; have hX2b := bnext' hX1b hx2b)
                      | (go_at_call 20; refine (rAdd_rn (hR1b.below hx2b) hR2b (by omega) (by omega)).mono ?_; rintro e x3b ⟨s3b, p3b, n3b, d3b, rfl, hR3b, hV3b, hn3b, hF3b, hx3b⟩; have HV3b : Hid (rval s3b d3b = ival sa (xa.take 24) + ival sb (xb.take 24)) := (by show _ = _; rw [hV3b, HV1b.out, HV2b.out]); clear hV3b; have hX3b := bnext' hX2b hx3b)
                      | (go_at_call 11; have h1b := hNz13.below hX3b; refine (rIs_rn h1b (by omega) hR3b (by omega) HV3b.out).mono ?_; rintro e x4b ⟨rfl, hx4b⟩; have hX4b := bnext' hX3b hx4b))
                have hG14 := hG13.later hX4b
                go_wp2
                go_ret
                exact ⟨rfl, hG14.bel⟩
end Go.Proofs.YtgjgdhihpdpmcabDoor
