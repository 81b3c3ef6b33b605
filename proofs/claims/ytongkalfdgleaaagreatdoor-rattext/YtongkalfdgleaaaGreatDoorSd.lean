/-
  ashlarref1.Read.
-/
import Derived.Test.YtongkalfdgleaaaGreatDoorSbSc
import Derived.Test.YtongkalfdgleaaaGreatDoorRhTaSa
namespace Go.Proofs.YtongkalfdgleaaaGreatDoor
open Go.RowKit
set_option linter.unusedVariables false
set_option linter.unusedSimpArgs false

theorem owns_form {w : World} {B n : Nat} {e : TypeId} {v : Value} {xs : List Value} (h : w.ownsRow B e 1 v n xs) : ∃ q cap, v = .slice q n cap ∧ n ≤ cap ∧ cap ≤ maxLen ∧ (0 < n → ∃ g, q = some ⟨g, 0, none⟩ ∧ B ≤ g) ∧ Go.Proofs.YtongkalfdgleaaaGreatDoor.From B q := by
  rcases h.2 with ⟨h1, h2⟩ | ⟨g, cap, cur, h1, h2, h3, h4, h5, _⟩
  · exact ⟨none, 0, by rw [h1, h2], by omega, Nat.zero_le _, fun h => by omega, from_none⟩
  · exact ⟨_, cap, h1, h4, h5, fun _ => ⟨g, rfl, h2⟩, from_new h2⟩
theorem owns_rd {w : World} {B n cap : Nat} {e : TypeId} {k : IntKind} {q : Option Addr} {xs : List Int} (h : w.ownsRow B e 1 (.slice q n cap) n (xs.map (Value.int k))) : Rd w q k xs := by
  rcases Nat.eq_zero_or_pos n with h0 | h0
  · have := h.1
    have : xs = [] := List.eq_nil_of_length_eq_zero (by simp at this; omega)
    rw [this]; exact Rd.nil
  · obtain ⟨g, cap', h1, h2, _⟩ := h.form h0
    cases h1
    exact rd_owns h

/-- What the reference's Read answers. -/
def RrPost (l : List UInt8) (w : World) (e : Ending) (w' : World) : Prop :=
  (∃ s d s' p' n' ds', IsNum l s d ∧ e = .returned (.tuple #[.agg #[.bool s', .slice p' n' n'], .int .i64 0]) ∧ RN w' s' p' n' ds' ∧ rval s' ds' = (if s then - dv (bz d) else dv (bz d)) ∧ n' ≤ l.length ∧ Go.Proofs.YtongkalfdgleaaaGreatDoor.From w.heap.size p' ∧ Below w.heap.size w w') ∨
  ((∀ s d, ¬ IsNum l s d) ∧ e = .returned (.tuple #[.agg #[.bool false, .slice none 0 0], .int .i64 8]) ∧ Below w.heap.size w w')

set_option maxRecDepth 100000 in
set_option maxHeartbeats 2000000 in
/-- ashlarref1.Read: texts that are too long. -/
theorem rRead_long (l : List UInt8) (w : World) (hl : l.length ≤ maxLen) (h : 65536 < l.length) :
    Calls Tryz.prog 65 #[.string ⟨l.toArray⟩] w fun e w' => e = .returned (.tuple #[.agg #[.bool false, .slice none 0 0], .int .i64 8]) ∧ Below w.heap.size w w' := by
  have hlm := hl
  unfold maxLen at hlm
  have hI : (65536 : Int) < (l.length : Int) := by omega
  go_enter Tryz.func65, Tryz.ntmps65
  go_wp2
  refine bodyPost_ret (v := .tuple #[.agg #[.bool false, .slice none 0 0], .int .i64 8]) (by simp [results, Tryz.results65, go_sem]) rfl ⟨rfl, ?_⟩
  exact (Below.refl _ _).alloc (Nat.le_refl _) _


/-- The digits that are handed to the loop. -/
def Start (s : Bool) (t : List UInt8) : Prop := t ≠ [] ∧ (gx (bz t) 0 = 48 → t.length = 1 ∧ s = false)

set_option maxRecDepth 100000 in
set_option maxHeartbeats 8000000 in
/-- ashlarref1.Read: without a sign. -/
theorem rRead_plain (t : List UInt8) (w : World) (h : t.length ≤ 65536) (hS : Start false t) (hP : Pre t false t) :
    Calls Tryz.prog 65 #[.string ⟨t.toArray⟩] w (RrPost t w) := by
  have h45 : gx (bz t) 0 ≠ 45 := fun e => by
    cases t with
    | nil => exact hS.1 rfl
    | cons c r =>
      rw [bz_cons, gx_zero] at e
      exact hP.2 rfl r (by rw [UInt8.toNat_inj.1 (show c.toNat = (45 : UInt8).toNat by show c.toNat = 45; omega)])
  have hI2 : ¬ (65536 : Int) < (t.length : Int) := by omega
  have h0 : 0 < t.length := List.length_pos_iff.2 hS.1
  have h0I : 0 < (t.length : Int) := by omega
  have h0I' : ((t.length : Int) == 0) = false := beq_eq_false_iff_ne.2 (by omega)
  have hg := gx_bz t 0 h0 (by rw [size_bl]; exact h0)
  have e1 : (gx (bz t) 0 == 45) = false := beq_eq_false_iff_ne.2 h45
  have HP : Hid (Pre t false t) := hP
  have HLL : Hid (t.length ≤ t.length) := Nat.le_refl _
  have HZ : Hid ((∀ j, j < t.length → 48 ≤ gx (bz t) j ∧ gx (bz t) j ≤ 57) → IsNum t false t) := fun hd => by
    refine ⟨⟨hd, ?_⟩, rfl, fun e => hP.2 rfl [48] e⟩
    by_cases h48 : gx (bz t) 0 = 48
    · left
      have hl1 := (hS.2 h48).1
      match t, hl1, h48 with
      | [c], _, h48 =>
        rw [bz_cons, gx_zero] at h48
        rw [UInt8.toNat_inj.1 (show c.toNat = (48 : UInt8).toNat by show c.toNat = 48; omega)]
    · exact .inr ⟨hS.1, h48⟩
  clear hP
  obtain ⟨i0, hi, hzz⟩ := Option.map_eq_some_iff.1 info_int
  simp only [Prod.mk.injEq] at hzz
  obtain ⟨hz0, hz1, hz2⟩ := hzz
  have HI : Hid (Tryz.prog.info? 3 = some i0 ∧ i0.zero = some (.int .i64 0) ∧ i0.size = 1 ∧ i0.bytes = 8) := ⟨hi, hz0, hz1, hz2⟩
  clear hi hz0 hz1 hz2
  have hd : Hid ((gx (bz t) 0 == 48) = false ∨ ((gx (bz t) 0 == 48) = true ∧ ¬ 1 < (t.length : Int))) := by
    by_cases h48 : gx (bz t) 0 = 48
    · exact .inr ⟨beq_iff_eq.2 h48, by have := (hS.2 h48).1; omega⟩
    · exact .inl (beq_eq_false_iff_ne.2 h48)
  clear hS h45
  go_enter Tryz.func65, Tryz.ntmps65
  rcases hd.out with h48 | ⟨h48, hl1⟩
  · go_wp2
    have hb2 : Bx (w.alloc (.cells #[.bool false, .slice none 0 0] 31)) w.heap.size (.bool false) (.slice none 0 0) := Bx.new _ _ _ rfl
    have hbw : Below w.heap.size w (w.alloc (.cells #[.bool false, .slice none 0 0] 31)) := (Below.refl _ _).alloc (Nat.le_refl _) _
    have hsz : w.heap.size < (w.alloc (.cells #[.bool false, .slice none 0 0] 31)).heap.size := by simp
    generalize (w.alloc (.cells #[.bool false, .slice none 0 0] 31)) = W at *
    have HW : Hid (w.heap.size < W.heap.size) := hsz
    clear hsz
    go_loopw [6, 7] (fun dvv iv wr => ∃ (i n : Nat) (ds : List Int), i ≤ t.length ∧ n ≤ i ∧ iv = .int .i64 i ∧ Hid (ds.length = n ∧ U16 ds ∧ vd ds = dv ((bz t).take i) ∧ (∀ j, j < i → 48 ≤ gx (bz t) j ∧ gx (bz t) j ≤ 57) ∧ wr.ownsRow W.heap.size 3 1 dvv n (ds.map (Value.int .i64)) ∧ Below W.heap.size W wr)) (fun _ iv _ => (t.length - intOf iv).toNat)
    case atStart => exact ⟨0, 0, [], Nat.zero_le _, Nat.le_refl _, by go_num, rfl, u16_nil, rfl, fun j hj => by omega, World.ownsRow_nil _ _ _ _, Below.refl _ _⟩
    case round =>
      obtain ⟨i, n, ds, hi, hni, rfl, H⟩ := hrel
      obtain ⟨q, cap, rfl, hq1, hq2, hq3, hq4⟩ := owns_form H.out.2.2.2.2.1
      have HQ : Hid (0 < n → ∃ g, q = some ⟨g, 0, none⟩ ∧ W.heap.size ≤ g) := hq3
      clear hq3
      have hq2' := hq2
      unfold maxLen at hq2'
      have hBr := H.out.2.2.2.2.2
      have hb2r := hb2.later hBr
      by_cases hit : i < t.length
      · have hgi := gx_bz t i hit (by rw [size_bl]; exact hit)
        have hitI : (i : Int) < (t.length : Int) := by omega
        by_cases h1 : 48 ≤ gx (bz t) i ∧ gx (bz t) i ≤ 57
        · obtain ⟨h1a, h1b⟩ := h1
          have h1c : ¬ gx (bz t) i < 48 := by omega
          have h1d : ¬ 57 < gx (bz t) i := by omega
          clear hb2r
          go_wp2
          go_loopw [8, 9] (fun cv kv wr' => ∃ (k : Nat) (c : Int) (R : List Int), k ≤ n ∧ kv = .int .i64 k ∧ cv = .int .i64 c ∧ 0 ≤ c ∧ c ≤ 9 ∧ Hid (R.length = n ∧ U16 R ∧ (∀ j, k ≤ j → gx R j = gx ds j) ∧ vd (R.take k) + pd k * c = 10 * vd (ds.take k) + (gx (bz t) i - 48) ∧ wr'.ownsRow W.heap.size 3 1 (.slice q n cap) n (R.map (Value.int .i64)) ∧ Below W.heap.size W wr')) (fun _ kv _ => (n - intOf kv).toNat)
          case atStart => exact ⟨0, _, ds, Nat.zero_le _, by go_num, rfl, by omega, by omega, H.out.1, H.out.2.1, fun _ _ => rfl, by simp [vd, pd_zero], H.out.2.2.2.2.1, hBr⟩
          case round =>
            obtain ⟨k, c, R, hk, rfl, rfl, hc0, hc1, HK⟩ := hrel
            by_cases hkn : k < n
            · obtain ⟨g, rfl, hWg⟩ := HQ.out (by omega)
              obtain ⟨a1, a2, a3, a4, a5, a6⟩ := HK.out
              have hc := owns_cell a5 k hkn
              have hf := a5.frozenAt k
              obtain ⟨b0, b1⟩ := a2 k
              have hknI : (k : Int) < (n : Int) := by omega
              clear a1 a2 a3 a4 a5 a6
              have q1 : (c + 10 * gx R k).tmod 65536 = (c + 10 * gx R k) % 65536 := Int.tmod_eq_emod_of_nonneg (by omega)
              have q2 : (c + 10 * gx R k).tdiv 65536 = (c + 10 * gx R k) / 65536 := Int.tdiv_eq_ediv_of_nonneg (by omega)
              go_wp2
              obtain ⟨a1, a2, a3, a4, a5, a6⟩ := HK.out
              refine ⟨⟨k + 1, _, R.set k ((c + 10 * gx R k) % 65536), by omega, by go_num, rfl, by omega, by omega, by rw [List.length_set]; exact a1, u16_set a2 _ (by omega), fun j hj => ?_, ?_, owns_set a5 k _, a6.setCell (p := ⟨g, k, none⟩) hWg _⟩, by simp [intOf]; omega⟩
              · rw [gx_set_ne R _ _ _ (by omega)]; exact a3 j (by omega)
              · rw [vd_take_succ _ k, vd_take_succ ds k, gx_set_eq R k _ (by omega), List.take_set_of_le (Nat.le_refl _), pd_succ]
                have e1 := cut16 (pd k) (c + 10 * gx R k)
                rw [← a3 k (Nat.le_refl _), Int.mul_add 10]
                rw [Int.mul_add] at e1
                have e2 : pd k * (10 * gx R k) = 10 * (pd k * gx R k) := by rw [← Int.mul_assoc, Int.mul_comm (pd k) 10, Int.mul_assoc]
                omega
            · obtain rfl : k = n := by omega
              have HE : Hid (vd R + pd k * c = dv ((bz t).take (i + 1))) := by
                obtain ⟨a1, a2, a3, a4, a5, a6⟩ := HK.out
                rw [List.take_of_length_le (by omega), List.take_of_length_le (by have := H.out.1; omega)] at a4
                show _ = _
                rw [a4, take_snoc (bz t) i (by rw [length_bz]; omega), dv_snoc, H.out.2.2.1]
              have HD : Hid (∀ j, j < i + 1 → 48 ≤ gx (bz t) j ∧ gx (bz t) j ≤ 57) := fun j hj => by
                rcases Nat.lt_or_ge j i with h | h
                · exact H.out.2.2.2.1 j h
                · obtain rfl : j = i := by omega
                  exact ⟨h1a, h1b⟩
              by_cases hc : c = 0
              · subst hc
                go_wp2
                obtain ⟨a1, a2, a3, a4, a5, a6⟩ := HK.out
                refine ⟨⟨i + 1, k, R, by omega, by omega, by go_num, a1, a2, by have := HE.out; omega, HD.out, a5, a6⟩, by simp [intOf]; omega⟩
              · obtain ⟨a1, a2, a3, a4, a5, a6⟩ := HK.out
                have HO : Hid (wr.ownsRow W.heap.size 3 1 (.slice q k cap) k (R.map (Value.int .i64))) := a5
                have hBr' : Below W.heap.size W wr := a6
                have hc2 : 0 < c := by omega
                have hbs := hBr'.size
                clear a1 a2 a3 a4 a5 a6
                obtain ⟨hi', hz0, hz1, hz2⟩ := HI.out
                go_wp2_with (refine wpList_append_lies _ rfl _ _ 29 rfl W.heap.size 3 i0 (.int .i64 0) 1 8 Tryz.underlying29 hi' hz0 hz1 hz2 rfl (by decide) (.slice q k cap) k (R.map (Value.int .i64)) rfl (HO.out.alloc _) ⟨wr.heap.size, 0, none⟩ 1 1 [.int .i64 c] rfl rfl ?_ (fun x hx => by simp at hx; subst hx; rfl) (by decide) (by unfold maxLen; omega) (by omega) (by simp; omega) _ rfl ?_; exact World.news_of_block (heap_alloc_new wr _); intro g3 cap3 w3 hown3 hgrow3 hat3 hlt3)
                obtain ⟨a1, a2, a3, a4, a5, a6⟩ := HK.out
                refine ⟨⟨i + 1, k + 1, R ++ [c], by omega, by omega, by go_num, by simp; omega, u16_append a2 (u16_one (by omega)), ?_, HD.out, by rw [List.map_append]; exact hown3, ?_⟩, by simp [intOf]; omega⟩
                · rw [vd_append, vd_one, a1]; exact HE.out
                · exact (hBr'.alloc (by omega) _).grown hgrow3 (by simp; omega) (fun q hq => (HO.out.lt q hq).1)
        · have c0 := hb2r.c0
          have c1 := hb2r.c1
          have f0 := hb2r.f0
          have f1 := hb2r.f1
          have HX : Hid (¬ (48 ≤ gx (bz t) i ∧ gx (bz t) i ≤ 57)) := h1
          have HN : Hid (∀ s d, ¬ IsNum t s d) := HP.out.none (fun h => HX.out (h.1 i hit))
          rcases (show gx (bz t) i < 48 ∨ 57 < gx (bz t) i by omega) with h2 | h2
          · clear h1
            go_wp2
            refine bodyPost_ret (v := .tuple #[.agg #[.bool false, .slice none 0 0], .int .i64 8]) (by simp [results, Tryz.results65, go_sem, c0, c1]) rfl (.inr ⟨HN.out, rfl, ?_⟩)
            exact ((bnext hbw (Nat.le_refl _) hBr).setCell (by simp) _).setCell (by simp) _
          · have h3 : ¬ gx (bz t) i < 48 := by omega
            clear h1
            go_wp2
            refine bodyPost_ret (v := .tuple #[.agg #[.bool false, .slice none 0 0], .int .i64 8]) (by simp [results, Tryz.results65, go_sem, c0, c1]) rfl (.inr ⟨HN.out, rfl, ?_⟩)
            exact ((bnext hbw (Nat.le_refl _) hBr).setCell (by simp) _).setCell (by simp) _
      · obtain rfl : i = t.length := by omega
        have hrd := owns_rd H.out.2.2.2.2.1
        have hdl := H.out.1
        clear hit
        go_wp2_with fail
        refine (rtrim_any false q n cap ds _ hdl hq1 hq2 hrd).mono ?_
        rintro e w4 ⟨rfl, hb4⟩
        obtain ⟨z0, z1, z2, z3⟩ := resbox hb4 hb2r.c0 hb2r.c1 hb2r.f0 hb2r.f1
        go_wp2
        have htl := tlen_le ds
        obtain ⟨a1, a2, a3, a4, a5, a6⟩ := H.out
        refine bodyPost_ret (v := .tuple #[.agg #[.bool (nsg false ds), .slice q (tlen ds) (tlen ds)], .int .i64 0]) (by simp [results, Tryz.results65, go_sem, z0, z1]) rfl ?_
        obtain ⟨s', p', n', ds', e1, e2, e3, e4, e5, e6⟩ := end_rn (N := n) (u := .bool (nsg false ds)) (v := .slice q (tlen ds) (tlen ds)) (neg := false) (z := rval false ds) (r := w.heap.size) hbw (Nat.le_refl _) HW.out hBr hb4 hrd hq4 a2 (by omega) rfl (by omega)
        cases e1
        refine .inl ⟨false, t, _, _, _, ds', HZ.out a4, rfl, e2, ?_, by have := HLL.out; omega, e5, e6⟩
        rw [e3, rval, a3, List.take_of_length_le (by rw [length_bz]; omega)]
  · go_wp2
    have hb2 : Bx (w.alloc (.cells #[.bool false, .slice none 0 0] 31)) w.heap.size (.bool false) (.slice none 0 0) := Bx.new _ _ _ rfl
    have hbw : Below w.heap.size w (w.alloc (.cells #[.bool false, .slice none 0 0] 31)) := (Below.refl _ _).alloc (Nat.le_refl _) _
    have hsz : w.heap.size < (w.alloc (.cells #[.bool false, .slice none 0 0] 31)).heap.size := by simp
    generalize (w.alloc (.cells #[.bool false, .slice none 0 0] 31)) = W at *
    have HW : Hid (w.heap.size < W.heap.size) := hsz
    clear hsz
    go_loopw [6, 7] (fun dvv iv wr => ∃ (i n : Nat) (ds : List Int), i ≤ t.length ∧ n ≤ i ∧ iv = .int .i64 i ∧ Hid (ds.length = n ∧ U16 ds ∧ vd ds = dv ((bz t).take i) ∧ (∀ j, j < i → 48 ≤ gx (bz t) j ∧ gx (bz t) j ≤ 57) ∧ wr.ownsRow W.heap.size 3 1 dvv n (ds.map (Value.int .i64)) ∧ Below W.heap.size W wr)) (fun _ iv _ => (t.length - intOf iv).toNat)
    case atStart => exact ⟨0, 0, [], Nat.zero_le _, Nat.le_refl _, by go_num, rfl, u16_nil, rfl, fun j hj => by omega, World.ownsRow_nil _ _ _ _, Below.refl _ _⟩
    case round =>
      obtain ⟨i, n, ds, hi, hni, rfl, H⟩ := hrel
      obtain ⟨q, cap, rfl, hq1, hq2, hq3, hq4⟩ := owns_form H.out.2.2.2.2.1
      have HQ : Hid (0 < n → ∃ g, q = some ⟨g, 0, none⟩ ∧ W.heap.size ≤ g) := hq3
      clear hq3
      have hq2' := hq2
      unfold maxLen at hq2'
      have hBr := H.out.2.2.2.2.2
      have hb2r := hb2.later hBr
      by_cases hit : i < t.length
      · have hgi := gx_bz t i hit (by rw [size_bl]; exact hit)
        have hitI : (i : Int) < (t.length : Int) := by omega
        by_cases h1 : 48 ≤ gx (bz t) i ∧ gx (bz t) i ≤ 57
        · obtain ⟨h1a, h1b⟩ := h1
          have h1c : ¬ gx (bz t) i < 48 := by omega
          have h1d : ¬ 57 < gx (bz t) i := by omega
          clear hb2r
          go_wp2
          go_loopw [8, 9] (fun cv kv wr' => ∃ (k : Nat) (c : Int) (R : List Int), k ≤ n ∧ kv = .int .i64 k ∧ cv = .int .i64 c ∧ 0 ≤ c ∧ c ≤ 9 ∧ Hid (R.length = n ∧ U16 R ∧ (∀ j, k ≤ j → gx R j = gx ds j) ∧ vd (R.take k) + pd k * c = 10 * vd (ds.take k) + (gx (bz t) i - 48) ∧ wr'.ownsRow W.heap.size 3 1 (.slice q n cap) n (R.map (Value.int .i64)) ∧ Below W.heap.size W wr')) (fun _ kv _ => (n - intOf kv).toNat)
          case atStart => exact ⟨0, _, ds, Nat.zero_le _, by go_num, rfl, by omega, by omega, H.out.1, H.out.2.1, fun _ _ => rfl, by simp [vd, pd_zero], H.out.2.2.2.2.1, hBr⟩
          case round =>
            obtain ⟨k, c, R, hk, rfl, rfl, hc0, hc1, HK⟩ := hrel
            by_cases hkn : k < n
            · exfalso; omega
            · obtain rfl : k = n := by omega
              have HE : Hid (vd R + pd k * c = dv ((bz t).take (i + 1))) := by
                obtain ⟨a1, a2, a3, a4, a5, a6⟩ := HK.out
                rw [List.take_of_length_le (by omega), List.take_of_length_le (by have := H.out.1; omega)] at a4
                show _ = _
                rw [a4, take_snoc (bz t) i (by rw [length_bz]; omega), dv_snoc, H.out.2.2.1]
              have HD : Hid (∀ j, j < i + 1 → 48 ≤ gx (bz t) j ∧ gx (bz t) j ≤ 57) := fun j hj => by
                rcases Nat.lt_or_ge j i with h | h
                · exact H.out.2.2.2.1 j h
                · obtain rfl : j = i := by omega
                  exact ⟨h1a, h1b⟩
              by_cases hc : c = 0
              · subst hc
                go_wp2
                obtain ⟨a1, a2, a3, a4, a5, a6⟩ := HK.out
                refine ⟨⟨i + 1, k, R, by omega, by omega, by go_num, a1, a2, by have := HE.out; omega, HD.out, a5, a6⟩, by simp [intOf]; omega⟩
              · obtain ⟨a1, a2, a3, a4, a5, a6⟩ := HK.out
                have HO : Hid (wr.ownsRow W.heap.size 3 1 (.slice q k cap) k (R.map (Value.int .i64))) := a5
                have hBr' : Below W.heap.size W wr := a6
                have hc2 : 0 < c := by omega
                have hbs := hBr'.size
                clear a1 a2 a3 a4 a5 a6
                obtain ⟨hi', hz0, hz1, hz2⟩ := HI.out
                go_wp2_with (refine wpList_append_lies _ rfl _ _ 29 rfl W.heap.size 3 i0 (.int .i64 0) 1 8 Tryz.underlying29 hi' hz0 hz1 hz2 rfl (by decide) (.slice q k cap) k (R.map (Value.int .i64)) rfl (HO.out.alloc _) ⟨wr.heap.size, 0, none⟩ 1 1 [.int .i64 c] rfl rfl ?_ (fun x hx => by simp at hx; subst hx; rfl) (by decide) (by unfold maxLen; omega) (by omega) (by simp; omega) _ rfl ?_; exact World.news_of_block (heap_alloc_new wr _); intro g3 cap3 w3 hown3 hgrow3 hat3 hlt3)
                obtain ⟨a1, a2, a3, a4, a5, a6⟩ := HK.out
                refine ⟨⟨i + 1, k + 1, R ++ [c], by omega, by omega, by go_num, by simp; omega, u16_append a2 (u16_one (by omega)), ?_, HD.out, by rw [List.map_append]; exact hown3, ?_⟩, by simp [intOf]; omega⟩
                · rw [vd_append, vd_one, a1]; exact HE.out
                · exact (hBr'.alloc (by omega) _).grown hgrow3 (by simp; omega) (fun q hq => (HO.out.lt q hq).1)
        · have c0 := hb2r.c0
          have c1 := hb2r.c1
          have f0 := hb2r.f0
          have f1 := hb2r.f1
          have HX : Hid (¬ (48 ≤ gx (bz t) i ∧ gx (bz t) i ≤ 57)) := h1
          have HN : Hid (∀ s d, ¬ IsNum t s d) := HP.out.none (fun h => HX.out (h.1 i hit))
          rcases (show gx (bz t) i < 48 ∨ 57 < gx (bz t) i by omega) with h2 | h2
          · clear h1
            go_wp2
            refine bodyPost_ret (v := .tuple #[.agg #[.bool false, .slice none 0 0], .int .i64 8]) (by simp [results, Tryz.results65, go_sem, c0, c1]) rfl (.inr ⟨HN.out, rfl, ?_⟩)
            exact ((bnext hbw (Nat.le_refl _) hBr).setCell (by simp) _).setCell (by simp) _
          · have h3 : ¬ gx (bz t) i < 48 := by omega
            clear h1
            go_wp2
            refine bodyPost_ret (v := .tuple #[.agg #[.bool false, .slice none 0 0], .int .i64 8]) (by simp [results, Tryz.results65, go_sem, c0, c1]) rfl (.inr ⟨HN.out, rfl, ?_⟩)
            exact ((bnext hbw (Nat.le_refl _) hBr).setCell (by simp) _).setCell (by simp) _
      · obtain rfl : i = t.length := by omega
        have hrd := owns_rd H.out.2.2.2.2.1
        have hdl := H.out.1
        clear hit
        go_wp2_with fail
        refine (rtrim_any false q n cap ds _ hdl hq1 hq2 hrd).mono ?_
        rintro e w4 ⟨rfl, hb4⟩
        obtain ⟨z0, z1, z2, z3⟩ := resbox hb4 hb2r.c0 hb2r.c1 hb2r.f0 hb2r.f1
        go_wp2
        have htl := tlen_le ds
        obtain ⟨a1, a2, a3, a4, a5, a6⟩ := H.out
        refine bodyPost_ret (v := .tuple #[.agg #[.bool (nsg false ds), .slice q (tlen ds) (tlen ds)], .int .i64 0]) (by simp [results, Tryz.results65, go_sem, z0, z1]) rfl ?_
        obtain ⟨s', p', n', ds', e1, e2, e3, e4, e5, e6⟩ := end_rn (N := n) (u := .bool (nsg false ds)) (v := .slice q (tlen ds) (tlen ds)) (neg := false) (z := rval false ds) (r := w.heap.size) hbw (Nat.le_refl _) HW.out hBr hb4 hrd hq4 a2 (by omega) rfl (by omega)
        cases e1
        refine .inl ⟨false, t, _, _, _, ds', HZ.out a4, rfl, e2, ?_, by have := HLL.out; omega, e5, e6⟩
        rw [e3, rval, a3, List.take_of_length_le (by rw [length_bz]; omega)]

set_option maxRecDepth 100000 in
set_option maxHeartbeats 8000000 in
/-- ashlarref1.Read: with a sign. -/
theorem rRead_minus (t : List UInt8) (w : World) (h : t.length < 65536) (hS : Start true t) :
    Calls Tryz.prog 65 #[.string ⟨(45 :: t).toArray⟩] w (RrPost (45 :: t) w) := by
  have h48' : gx (bz t) 0 ≠ 48 := fun e => by cases (hS.2 e).2
  have hI2 : ¬ (65536 : Int) < (t.length : Int) + 1 := by omega
  have h0 : 0 < t.length := List.length_pos_iff.2 hS.1
  have h0I : 0 < (t.length : Int) := by omega
  have h0I' : ((t.length : Int) == 0) = false := beq_eq_false_iff_ne.2 (by omega)
  have hx := extract_one 45 t
  have hx0 : (((⟨((45 : UInt8) :: t).toArray⟩ : ByteArray)[0]'(by simp [ByteArray.size])).toNat : Int) = 45 := by simp [ByteArray.getElem_eq_getElem_data]
  have hg := gx_bz t 0 h0 (by rw [size_bl]; exact h0)
  have h48 : (gx (bz t) 0 == 48) = false := beq_eq_false_iff_ne.2 h48'
  have HP : Hid (Pre (45 :: t) true t) := ⟨rfl, fun h => by cases h⟩
  have HLL : Hid (t.length ≤ (45 :: t).length) := by simp [Hid]
  have HZ : Hid ((∀ j, j < t.length → 48 ≤ gx (bz t) j ∧ gx (bz t) j ≤ 57) → IsNum (45 :: t) true t) := fun hd => by
    refine ⟨⟨hd, .inr ⟨hS.1, h48'⟩⟩, rfl, fun e => h48' ?_⟩
    simp at e
    rw [e]; rfl
  clear h48'
  obtain ⟨i0, hi, hzz⟩ := Option.map_eq_some_iff.1 info_int
  simp only [Prod.mk.injEq] at hzz
  obtain ⟨hz0, hz1, hz2⟩ := hzz
  have HI : Hid (Tryz.prog.info? 3 = some i0 ∧ i0.zero = some (.int .i64 0) ∧ i0.size = 1 ∧ i0.bytes = 8) := ⟨hi, hz0, hz1, hz2⟩
  clear hi hz0 hz1 hz2
  clear hS
  go_enter Tryz.func65, Tryz.ntmps65
  · go_wp2
    have hb2 : Bx (w.alloc (.cells #[.bool false, .slice none 0 0] 31)) w.heap.size (.bool false) (.slice none 0 0) := Bx.new _ _ _ rfl
    have hbw : Below w.heap.size w (w.alloc (.cells #[.bool false, .slice none 0 0] 31)) := (Below.refl _ _).alloc (Nat.le_refl _) _
    have hsz : w.heap.size < (w.alloc (.cells #[.bool false, .slice none 0 0] 31)).heap.size := by simp
    generalize (w.alloc (.cells #[.bool false, .slice none 0 0] 31)) = W at *
    have HW : Hid (w.heap.size < W.heap.size) := hsz
    clear hsz
    go_loopw [6, 7] (fun dvv iv wr => ∃ (i n : Nat) (ds : List Int), i ≤ t.length ∧ n ≤ i ∧ iv = .int .i64 i ∧ Hid (ds.length = n ∧ U16 ds ∧ vd ds = dv ((bz t).take i) ∧ (∀ j, j < i → 48 ≤ gx (bz t) j ∧ gx (bz t) j ≤ 57) ∧ wr.ownsRow W.heap.size 3 1 dvv n (ds.map (Value.int .i64)) ∧ Below W.heap.size W wr)) (fun _ iv _ => (t.length - intOf iv).toNat)
    case atStart => exact ⟨0, 0, [], Nat.zero_le _, Nat.le_refl _, by go_num, rfl, u16_nil, rfl, fun j hj => by omega, World.ownsRow_nil _ _ _ _, Below.refl _ _⟩
    case round =>
      obtain ⟨i, n, ds, hi, hni, rfl, H⟩ := hrel
      obtain ⟨q, cap, rfl, hq1, hq2, hq3, hq4⟩ := owns_form H.out.2.2.2.2.1
      have HQ : Hid (0 < n → ∃ g, q = some ⟨g, 0, none⟩ ∧ W.heap.size ≤ g) := hq3
      clear hq3
      have hq2' := hq2
      unfold maxLen at hq2'
      have hBr := H.out.2.2.2.2.2
      have hb2r := hb2.later hBr
      by_cases hit : i < t.length
      · have hgi := gx_bz t i hit (by rw [size_bl]; exact hit)
        have hitI : (i : Int) < (t.length : Int) := by omega
        by_cases h1 : 48 ≤ gx (bz t) i ∧ gx (bz t) i ≤ 57
        · obtain ⟨h1a, h1b⟩ := h1
          have h1c : ¬ gx (bz t) i < 48 := by omega
          have h1d : ¬ 57 < gx (bz t) i := by omega
          clear hb2r
          go_wp2
          go_loopw [8, 9] (fun cv kv wr' => ∃ (k : Nat) (c : Int) (R : List Int), k ≤ n ∧ kv = .int .i64 k ∧ cv = .int .i64 c ∧ 0 ≤ c ∧ c ≤ 9 ∧ Hid (R.length = n ∧ U16 R ∧ (∀ j, k ≤ j → gx R j = gx ds j) ∧ vd (R.take k) + pd k * c = 10 * vd (ds.take k) + (gx (bz t) i - 48) ∧ wr'.ownsRow W.heap.size 3 1 (.slice q n cap) n (R.map (Value.int .i64)) ∧ Below W.heap.size W wr')) (fun _ kv _ => (n - intOf kv).toNat)
          case atStart => exact ⟨0, _, ds, Nat.zero_le _, by go_num, rfl, by omega, by omega, H.out.1, H.out.2.1, fun _ _ => rfl, by simp [vd, pd_zero], H.out.2.2.2.2.1, hBr⟩
          case round =>
            obtain ⟨k, c, R, hk, rfl, rfl, hc0, hc1, HK⟩ := hrel
            by_cases hkn : k < n
            · obtain ⟨g, rfl, hWg⟩ := HQ.out (by omega)
              obtain ⟨a1, a2, a3, a4, a5, a6⟩ := HK.out
              have hc := owns_cell a5 k hkn
              have hf := a5.frozenAt k
              obtain ⟨b0, b1⟩ := a2 k
              have hknI : (k : Int) < (n : Int) := by omega
              clear a1 a2 a3 a4 a5 a6
              have q1 : (c + 10 * gx R k).tmod 65536 = (c + 10 * gx R k) % 65536 := Int.tmod_eq_emod_of_nonneg (by omega)
              have q2 : (c + 10 * gx R k).tdiv 65536 = (c + 10 * gx R k) / 65536 := Int.tdiv_eq_ediv_of_nonneg (by omega)
              go_wp2
              obtain ⟨a1, a2, a3, a4, a5, a6⟩ := HK.out
              refine ⟨⟨k + 1, _, R.set k ((c + 10 * gx R k) % 65536), by omega, by go_num, rfl, by omega, by omega, by rw [List.length_set]; exact a1, u16_set a2 _ (by omega), fun j hj => ?_, ?_, owns_set a5 k _, a6.setCell (p := ⟨g, k, none⟩) hWg _⟩, by simp [intOf]; omega⟩
              · rw [gx_set_ne R _ _ _ (by omega)]; exact a3 j (by omega)
              · rw [vd_take_succ _ k, vd_take_succ ds k, gx_set_eq R k _ (by omega), List.take_set_of_le (Nat.le_refl _), pd_succ]
                have e1 := cut16 (pd k) (c + 10 * gx R k)
                rw [← a3 k (Nat.le_refl _), Int.mul_add 10]
                rw [Int.mul_add] at e1
                have e2 : pd k * (10 * gx R k) = 10 * (pd k * gx R k) := by rw [← Int.mul_assoc, Int.mul_comm (pd k) 10, Int.mul_assoc]
                omega
            · obtain rfl : k = n := by omega
              have HE : Hid (vd R + pd k * c = dv ((bz t).take (i + 1))) := by
                obtain ⟨a1, a2, a3, a4, a5, a6⟩ := HK.out
                rw [List.take_of_length_le (by omega), List.take_of_length_le (by have := H.out.1; omega)] at a4
                show _ = _
                rw [a4, take_snoc (bz t) i (by rw [length_bz]; omega), dv_snoc, H.out.2.2.1]
              have HD : Hid (∀ j, j < i + 1 → 48 ≤ gx (bz t) j ∧ gx (bz t) j ≤ 57) := fun j hj => by
                rcases Nat.lt_or_ge j i with h | h
                · exact H.out.2.2.2.1 j h
                · obtain rfl : j = i := by omega
                  exact ⟨h1a, h1b⟩
              by_cases hc : c = 0
              · subst hc
                go_wp2
                obtain ⟨a1, a2, a3, a4, a5, a6⟩ := HK.out
                refine ⟨⟨i + 1, k, R, by omega, by omega, by go_num, a1, a2, by have := HE.out; omega, HD.out, a5, a6⟩, by simp [intOf]; omega⟩
              · obtain ⟨a1, a2, a3, a4, a5, a6⟩ := HK.out
                have HO : Hid (wr.ownsRow W.heap.size 3 1 (.slice q k cap) k (R.map (Value.int .i64))) := a5
                have hBr' : Below W.heap.size W wr := a6
                have hc2 : 0 < c := by omega
                have hbs := hBr'.size
                clear a1 a2 a3 a4 a5 a6
                obtain ⟨hi', hz0, hz1, hz2⟩ := HI.out
                go_wp2_with (refine wpList_append_lies _ rfl _ _ 29 rfl W.heap.size 3 i0 (.int .i64 0) 1 8 Tryz.underlying29 hi' hz0 hz1 hz2 rfl (by decide) (.slice q k cap) k (R.map (Value.int .i64)) rfl (HO.out.alloc _) ⟨wr.heap.size, 0, none⟩ 1 1 [.int .i64 c] rfl rfl ?_ (fun x hx => by simp at hx; subst hx; rfl) (by decide) (by unfold maxLen; omega) (by omega) (by simp; omega) _ rfl ?_; exact World.news_of_block (heap_alloc_new wr _); intro g3 cap3 w3 hown3 hgrow3 hat3 hlt3)
                obtain ⟨a1, a2, a3, a4, a5, a6⟩ := HK.out
                refine ⟨⟨i + 1, k + 1, R ++ [c], by omega, by omega, by go_num, by simp; omega, u16_append a2 (u16_one (by omega)), ?_, HD.out, by rw [List.map_append]; exact hown3, ?_⟩, by simp [intOf]; omega⟩
                · rw [vd_append, vd_one, a1]; exact HE.out
                · exact (hBr'.alloc (by omega) _).grown hgrow3 (by simp; omega) (fun q hq => (HO.out.lt q hq).1)
        · have c0 := hb2r.c0
          have c1 := hb2r.c1
          have f0 := hb2r.f0
          have f1 := hb2r.f1
          have HX : Hid (¬ (48 ≤ gx (bz t) i ∧ gx (bz t) i ≤ 57)) := h1
          have HN : Hid (∀ s d, ¬ IsNum (45 :: t) s d) := HP.out.none (fun h => HX.out (h.1 i hit))
          rcases (show gx (bz t) i < 48 ∨ 57 < gx (bz t) i by omega) with h2 | h2
          · clear h1
            go_wp2
            refine bodyPost_ret (v := .tuple #[.agg #[.bool false, .slice none 0 0], .int .i64 8]) (by simp [results, Tryz.results65, go_sem, c0, c1]) rfl (.inr ⟨HN.out, rfl, ?_⟩)
            exact ((bnext hbw (Nat.le_refl _) hBr).setCell (by simp) _).setCell (by simp) _
          · have h3 : ¬ gx (bz t) i < 48 := by omega
            clear h1
            go_wp2
            refine bodyPost_ret (v := .tuple #[.agg #[.bool false, .slice none 0 0], .int .i64 8]) (by simp [results, Tryz.results65, go_sem, c0, c1]) rfl (.inr ⟨HN.out, rfl, ?_⟩)
            exact ((bnext hbw (Nat.le_refl _) hBr).setCell (by simp) _).setCell (by simp) _
      · obtain rfl : i = t.length := by omega
        have hrd := owns_rd H.out.2.2.2.2.1
        have hdl := H.out.1
        clear hit
        go_wp2_with fail
        refine (rtrim_any true q n cap ds _ hdl hq1 hq2 hrd).mono ?_
        rintro e w4 ⟨rfl, hb4⟩
        obtain ⟨z0, z1, z2, z3⟩ := resbox hb4 hb2r.c0 hb2r.c1 hb2r.f0 hb2r.f1
        go_wp2
        have htl := tlen_le ds
        obtain ⟨a1, a2, a3, a4, a5, a6⟩ := H.out
        refine bodyPost_ret (v := .tuple #[.agg #[.bool (nsg true ds), .slice q (tlen ds) (tlen ds)], .int .i64 0]) (by simp [results, Tryz.results65, go_sem, z0, z1]) rfl ?_
        obtain ⟨s', p', n', ds', e1, e2, e3, e4, e5, e6⟩ := end_rn (N := n) (u := .bool (nsg true ds)) (v := .slice q (tlen ds) (tlen ds)) (neg := true) (z := rval true ds) (r := w.heap.size) hbw (Nat.le_refl _) HW.out hBr hb4 hrd hq4 a2 (by omega) rfl (by omega)
        cases e1
        refine .inl ⟨true, t, _, _, _, ds', HZ.out a4, rfl, e2, ?_, by have := HLL.out; omega, e5, e6⟩
        rw [e3, rval, a3, List.take_of_length_le (by rw [length_bz]; omega)]

set_option maxRecDepth 100000 in
set_option maxHeartbeats 8000000 in
/-- ashlarref1.Read: no digits, or a nought ahead. -/
theorem rRead_none (t : List UInt8) (w : World) (h : t.length ≤ 65536) (hS : ¬ Start false t) (hP : Pre t false t) :
    Calls Tryz.prog 65 #[.string ⟨t.toArray⟩] w (RrPost t w) := by
  have HP : Hid (Pre t false t) := hP
  by_cases h0 : t = []
  · subst h0
    have HN : Hid (∀ s d, ¬ IsNum [] s d) := hP.none (fun h => by rcases h.2 with h | h; cases h; exact h.1 rfl)
    go_enter Tryz.func65, Tryz.ntmps65
    go_wp2
    refine bodyPost_ret (v := .tuple #[.agg #[.bool false, .slice none 0 0], .int .i64 8]) (by simp [results, Tryz.results65, go_sem]) rfl (.inr ⟨HN.out, rfl, ?_⟩)
    exact (Below.refl _ _).alloc (Nat.le_refl _) _
  · have h45 : gx (bz t) 0 ≠ 45 := fun e => by
      cases t with
      | nil => exact h0 rfl
      | cons c r =>
        rw [bz_cons, gx_zero] at e
        exact hP.2 rfl r (by rw [UInt8.toNat_inj.1 (show c.toNat = (45 : UInt8).toNat by show c.toNat = 45; omega)])
    have h48 : gx (bz t) 0 = 48 := Classical.byContradiction fun e => hS ⟨h0, fun e' => absurd e' e⟩
    have hl1 : ¬ t.length = 1 := fun e => hS ⟨h0, fun _ => ⟨e, rfl⟩⟩
    have hl0 : 0 < t.length := List.length_pos_iff.2 h0
    have HN : Hid (∀ s d, ¬ IsNum t s d) := hP.none (fun h => by rcases h.2 with h | h; rw [h] at hl1; exact hl1 rfl; exact h.2 h48)
    have hI2 : ¬ (65536 : Int) < (t.length : Int) := by omega
    have h0I : 0 < (t.length : Int) := by omega
    have h0I' : ((t.length : Int) == 0) = false := beq_eq_false_iff_ne.2 (by omega)
    have hg := gx_bz t 0 hl0 (by rw [size_bl]; exact hl0)
    have e1 : (gx (bz t) 0 == 45) = false := beq_eq_false_iff_ne.2 h45
    have e2 : (gx (bz t) 0 == 48) = true := beq_iff_eq.2 h48
    have e3 : 1 < (t.length : Int) := by omega
    clear h45 h48 hP hS h0
    go_enter Tryz.func65, Tryz.ntmps65
    go_wp2
    refine bodyPost_ret (v := .tuple #[.agg #[.bool false, .slice none 0 0], .int .i64 8]) (by simp [results, Tryz.results65, go_sem]) rfl (.inr ⟨HN.out, rfl, ?_⟩)
    exact (Below.refl _ _).alloc (Nat.le_refl _) _

set_option maxRecDepth 100000 in
set_option maxHeartbeats 8000000 in
/-- ashlarref1.Read: a sign, and no digits or a nought behind it. -/
theorem rRead_mnone (t : List UInt8) (w : World) (h : t.length < 65536) (hS : ¬ Start true t) :
    Calls Tryz.prog 65 #[.string ⟨(45 :: t).toArray⟩] w (RrPost (45 :: t) w) := by
  have HP : Hid (Pre (45 :: t) true t) := ⟨rfl, fun h => by cases h⟩
  have hx0 : (((⟨((45 : UInt8) :: t).toArray⟩ : ByteArray)[0]'(by simp [ByteArray.size])).toNat : Int) = 45 := by simp [ByteArray.getElem_eq_getElem_data]
  have hx := extract_one 45 t
  have hI2 : ¬ (65536 : Int) < (t.length : Int) + 1 := by omega
  by_cases h0 : t = []
  · subst h0
    have HN : Hid (∀ s d, ¬ IsNum [45] s d) := HP.out.none (fun h => by rcases h.2 with h | h; cases h; exact h.1 rfl)
    go_enter Tryz.func65, Tryz.ntmps65
    go_wp2
    refine bodyPost_ret (v := .tuple #[.agg #[.bool false, .slice none 0 0], .int .i64 8]) (by simp [results, Tryz.results65, go_sem]) rfl (.inr ⟨HN.out, rfl, ?_⟩)
    exact (Below.refl _ _).alloc (Nat.le_refl _) _
  · have h48 : gx (bz t) 0 = 48 := Classical.byContradiction fun e => hS ⟨h0, fun e' => absurd e' e⟩
    have hl0 : 0 < t.length := List.length_pos_iff.2 h0
    have HN : Hid (∀ s d, ¬ IsNum (45 :: t) s d) := fun s d k => by
      by_cases h1 : t = [48]
      · exact k.2.2 (by rw [h1])
      · exact HP.out.none (fun h => by rcases h.2 with h | h; exact h1 h; exact h.2 h48) s d k
    have h0I : 0 < (t.length : Int) := by omega
    have h0I' : ((t.length : Int) == 0) = false := beq_eq_false_iff_ne.2 (by omega)
    have hg := gx_bz t 0 hl0 (by rw [size_bl]; exact hl0)
    have e2 : (gx (bz t) 0 == 48) = true := beq_iff_eq.2 h48
    clear h48 hS h0
    go_enter Tryz.func65, Tryz.ntmps65
    by_cases e3 : 1 < (t.length : Int)
    · go_wp2
      refine bodyPost_ret (v := .tuple #[.agg #[.bool false, .slice none 0 0], .int .i64 8]) (by simp [results, Tryz.results65, go_sem]) rfl (.inr ⟨HN.out, rfl, ?_⟩)
      exact (Below.refl _ _).alloc (Nat.le_refl _) _
    · go_wp2
      refine bodyPost_ret (v := .tuple #[.agg #[.bool false, .slice none 0 0], .int .i64 8]) (by simp [results, Tryz.results65, go_sem]) rfl (.inr ⟨HN.out, rfl, ?_⟩)
      exact (Below.refl _ _).alloc (Nat.le_refl _) _

/-- ashlarref1.Read. -/
theorem rRead_any (l : List UInt8) (w : World) (h : l.length ≤ 65536) : Calls Tryz.prog 65 #[.string ⟨l.toArray⟩] w (RrPost l w) := by
  by_cases hm : ∃ t, l = 45 :: t
  · obtain ⟨t, rfl⟩ := hm
    simp only [List.length_cons] at h
    by_cases hS : Start true t
    · exact rRead_minus t w (by omega) hS
    · exact rRead_mnone t w (by omega) hS
  · have hP : Pre l false l := ⟨rfl, fun _ r e => hm ⟨r, e⟩⟩
    by_cases hS : Start false l
    · exact rRead_plain l w h hS hP
    · exact rRead_none l w h hS hP
end Go.Proofs.YtongkalfdgleaaaGreatDoor
