/-
  ashlarref1.Text.
-/
import Derived.Test.YtongkalfdgleaaaGreatDoorRhTaSa
import Derived.Test.YtongkalfdgleaaaGreatDoorSd
import Derived.Test.YtongkalfdgleaaaGreatDoorWpBe
namespace Go.Proofs.YtongkalfdgleaaaGreatDoor
open Go.RowKit
set_option linter.unusedVariables false
set_option linter.unusedSimpArgs false

theorem conv_rd (w : World) (g n c : Nat) (D : List Int) (h : ∀ j, j < D.length → w.cell? ⟨g, j, none⟩ = some (.int .u8 (gx D j))) (hn : D.length = n) : (convert 107 9 (.slice (some ⟨g, 0, none⟩) n c)).run Tryz.prog w = .ok (.string ⟨(bys D).toArray⟩) w := by
  rw [run_convert_bytes_string w 107 9 5 _ _ _ Tryz.underlying107 Tryz.underlying5 Tryz.underlying9]
  have hl := run_loadCells_list (P := Tryz.prog) w ⟨g, 0, none⟩ (D.map (Value.int .u8)) (Rd.src (fun j hj => by rw [Nat.zero_add]; exact h j hj))
  rw [List.length_map, hn] at hl
  rw [run_bytesToString w ⟨g, 0, none⟩ n c D hl]
  have := bys_fold D []
  simp only [List.nil_append] at this
  rw [← this]
  rfl

theorem field_D (a b : Value) (w : World) : (Instr.field 31 (.agg #[a, b]) 1).run Tryz.prog w = .ok b w := by kernel_rfl

/-- What the reference's Text answers of a number that is not 0: its digits, the highest first, behind its sign. -/
def RtPost (s : Bool) (V : Int) (w : World) (e : Ending) (w' : World) : Prop :=
  ∃ m D, V < 10 ^ m ∧ 10 ^ (m - 1) ≤ V ∧ 0 < m ∧ D.length = m + (if s then 1 else 0) ∧ (∀ j, j < D.length → gx D (D.length - 1 - j) = (if j < m then dgt V j else 45)) ∧ e = .returned (.string ⟨(bys D).toArray⟩) ∧ Below w.heap.size w w'

theorem ten_pd (n : Nat) : pd n ≤ 10 ^ (5 * n) := by
  induction n with
  | zero => decide
  | succ n ih =>
    rw [pd_succ, show 5 * (n + 1) = 5 * n + 5 by omega, Int.pow_add]
    have h1 := pd_pos n
    have h2 : (10 : Int) ^ (5 * n) * 65536 ≤ 10 ^ (5 * n) * 10 ^ 5 := Int.mul_le_mul_of_nonneg_left (by decide) (Int.pow_nonneg (by decide))
    omega
theorem ten_mono {a b : Nat} (h : a ≤ b) : (10 : Int) ^ a ≤ 10 ^ b := by
  obtain ⟨c, rfl⟩ := Nat.exists_eq_add_of_le h
  rw [Int.pow_add]
  have h1 : (0 : Int) < 10 ^ a := Int.pow_pos (by decide)
  have h2 : (0 : Int) < 10 ^ c := Int.pow_pos (by decide)
  have : (10 : Int) ^ a * 1 ≤ 10 ^ a * 10 ^ c := Int.mul_le_mul_of_nonneg_left (by omega) (by omega)
  omega

set_option maxRecDepth 100000 in
set_option maxHeartbeats 4000000 in
/-- ashlarref1.Text: not of zero. -/
theorem rText_some (s : Bool) (p : Option Addr) (n0 : Nat) (ds0 : List Int) (w : World) (hR : RN w s p n0 ds0) (hn : 0 < n0) (hn1 : n0 ≤ 1000) :
    Calls Tryz.prog 66 #[.agg #[.bool s, .slice p n0 n0]] w (RtPost s (vd ds0) w) := by
  obtain ⟨i0, hi, hzz⟩ := Option.map_eq_some_iff.1 info_u8
  simp only [Prod.mk.injEq] at hzz
  obtain ⟨hz0, hz1, hz2⟩ := hzz
  have HI : Hid (Tryz.prog.info? 5 = some i0 ∧ i0.zero = some (.int .u8 0) ∧ i0.size = 1 ∧ i0.bytes = 1) := ⟨hi, hz0, hz1, hz2⟩
  clear hi hz0 hz1 hz2
  have hn' : (((n0 : Nat) : Int) == 0) = false := beq_eq_false_iff_ne.2 (by omega)
  obtain ⟨V, hV⟩ : ∃ V, V = vd ds0 := ⟨_, rfl⟩
  have HV : Hid (V = vd ds0 ∧ 0 < V ∧ V < 10 ^ (5 * n0)) := by
    have h1 := vd_lt hR.u
    rw [hR.len] at h1
    have h2 := ten_pd n0
    have h3 := vd_nonneg hR.u
    have h4 : vd ds0 ≠ 0 := fun e => by have := (tlen_zero_iff16 hR.u).2 e; rw [hR.nrm] at this; omega
    exact ⟨hV, by omega, by omega⟩
  rw [← hV]
  clear hV
  go_enter Tryz.func66, Tryz.ntmps66
  go_wp2
  have hb0 : Bx (w.alloc (.cells #[.bool s, .slice p n0 n0] 31)) w.heap.size (.bool s) (.slice p n0 n0) := Bx.new _ _ _ rfl
  have hbw : Below w.heap.size w (w.alloc (.cells #[.bool s, .slice p n0 n0] 31)) := (Below.refl _ _).alloc (Nat.le_refl _) _
  have hR0 := hR.below hbw
  generalize (w.alloc (.cells #[.bool s, .slice p n0 n0] 31)) = W at *
  go_loopw [3, 4] (fun sv dvv wr => ∃ (m n : Nat) (q qs : Option Addr) (cap : Nat) (ds S : List Int), sv = .slice qs m cap ∧ dvv = .slice q n n ∧ n ≤ n0 ∧ m ≤ 5 * n0 ∧ Hid (ds.length = n ∧ U16 ds ∧ tlen ds = n ∧ Rd wr q .i64 ds ∧ vd ds = V / 10 ^ m ∧ (m = 0 ∨ 10 ^ (m - 1) ≤ V) ∧ S.length = m ∧ (∀ j, j < m → gx S j = dgt V j) ∧ wr.ownsRow W.heap.size 5 1 sv m (S.map (Value.int .u8)) ∧ Below W.heap.size W wr))
    (fun sv _ _ => match sv with | .slice _ m _ => 5 * n0 + 1 - m | _ => 0)
  case atStart => exact ⟨0, n0, p, none, 0, ds0, [], rfl, rfl, Nat.le_refl _, Nat.zero_le _, hR0.len, hR0.u, hR0.nrm, hR0.rd, by rw [HV.out.1]; simp, .inl rfl, rfl, fun j hj => by omega, World.ownsRow_nil _ _ _ _, Below.refl _ _⟩
  case round =>
    obtain ⟨m, n, q, qs, cap, ds, S, rfl, rfl, hnn, hmm, H⟩ := hrel
    have hBr := H.out.2.2.2.2.2.2.2.2.2
    have hb0r := hb0.later hBr
    by_cases h0 : n = 0
    · subst h0
      obtain ⟨a1, a2, a3, a4, a5, a6, a7, a8, a9, aB⟩ := H.out
      have hds : ds = [] := List.eq_nil_of_length_eq_zero a1
      have hV0 : V / 10 ^ m = 0 := by rw [← a5, hds]; rfl
      have hp : (0 : Int) < 10 ^ m := Int.pow_pos (by decide)
      have hVlt : V < 10 ^ m := by
        rcases (show V < 10 ^ m ∨ 10 ^ m ≤ V by omega) with h | h
        · exact h
        · have := Int.ediv_le_ediv hp h
          rw [Int.ediv_self (by omega), hV0] at this; omega
      have hm0 : 0 < m := by
        rcases Nat.eq_zero_or_pos m with h | h
        · subst h; have := HV.out.2.1; simp at hVlt; omega
        · exact h
      have HX : Hid (V < 10 ^ m ∧ 10 ^ (m - 1) ≤ V ∧ 0 < m) := ⟨hVlt, by rcases a6 with h | h; omega; exact h, hm0⟩
      have HS : Hid (S.length = m ∧ (∀ j, j < m → gx S j = dgt V j) ∧ wr.ownsRow W.heap.size 5 1 (.slice qs m cap) m (S.map (Value.int .u8))) := ⟨a7, a8, a9⟩
      obtain ⟨g, cap', hfm, hWg, _⟩ := a9.form hm0
      cases hfm
      have c0 := hb0r.c0
      have c1 := hb0r.c1
      clear hds hV0 hp hVlt a1 a2 a3 a4 a5 a6 a7 a8 a9 aB H
      cases s
      · have HT : Hid (S.length = m ∧ wr.ownsRow W.heap.size 5 1 (.slice (some ⟨g, 0, none⟩) m cap) m (S.map (Value.int .u8))) := ⟨HS.out.1, HS.out.2.2⟩
        have HG : Hid (∀ j, j < m → gx S j = if j < m then dgt V j else 45) := fun j hj => by rw [if_pos hj]; exact HS.out.2.1 j hj
        have HM : Hid (m = m + 0) := rfl
        have hBT := hBr
        go_wp2
        clear hb0r
        go_loopw [7] (fun iv wr' => ∃ (i : Nat) (R : List Int), i ≤ m / 2 ∧ iv = .int .i64 i ∧ Hid (R.length = m ∧ (∀ j, j < m → gx R j = if j < i ∨ m - i ≤ j then gx S (m - 1 - j) else gx S j) ∧ wr'.ownsRow W.heap.size 5 1 (.slice (some ⟨g, 0, none⟩) m cap) m (R.map (Value.int .u8)) ∧ Below W.heap.size W wr')) (fun iv _ => (m / 2 - intOf iv).toNat)
        case atStart => exact ⟨0, S, Nat.zero_le _, by go_num, HT.out.1, fun j hj => by rw [if_neg (by omega)], HT.out.2, hBT⟩
        case round =>
          obtain ⟨i, R, hi, rfl, HR⟩ := hrel
          by_cases him : i < m / 2
          · obtain ⟨k, hk⟩ : ∃ k : Nat, k = m - 1 - i := ⟨_, rfl⟩
            have hkI : ((m : Int) - 1 - (i : Int)) = (k : Int) := by omega
            have hkM : k < m := by omega
            have hiM : i < m := by omega
            have hik : i < k := by omega
            have hcmp : (i : Int) < (m : Int) / 2 := by omega
            have HKK : Hid (k = m - 1 - i) := hk
            have u1 := owns_cell HR.out.2.2.1 i hiM
            have u2 := owns_cell HR.out.2.2.1 k hkM
            have u3 := HR.out.2.2.1.frozenAt i
            have u4 := HR.out.2.2.1.frozenAt k
            clear hk
            go_wp2
            go_region
            all_goals go_wp2
            obtain ⟨a1, a2, a3, a4⟩ := HR.out
            have hk := HKK.out
            have hWg : W.heap.size ≤ g := (a3.lt g rfl).1
            refine ⟨⟨i + 1, (R.set i (gx R k)).set k (gx R i), by omega, by go_num, by simp [a1], fun j hj => ?_, (owns_set (owns_set a3 i _) k _).drew, ((a4.setCell (p := ⟨g, i, none⟩) hWg _).setCell (p := ⟨g, k, none⟩) hWg _).drew⟩, by simp [intOf]; omega⟩
            by_cases hjk : k = j
            · subst hjk
              rw [gx_set_eq _ _ _ (by simp; omega), if_pos (by omega), a2 i hiM, if_neg (by omega)]
              congr 1; omega
            · rw [gx_set_ne _ _ _ _ hjk]
              by_cases hji : i = j
              · subst hji
                rw [gx_set_eq _ _ _ (by omega), if_pos (by omega), a2 k hkM, if_neg (by omega), hk]
              · rw [gx_set_ne _ _ _ _ hji, a2 j hj]
                by_cases hc : j < i ∨ m - i ≤ j
                · rw [if_pos hc, if_pos (by omega)]
                · rw [if_neg hc, if_neg (by omega)]
          · have hie : i = m / 2 := by omega
            have HIE : Hid (i = m / 2) := hie
            have hcmp : ¬ (i : Int) < (m : Int) / 2 := by omega
            have hcv := conv_rd wr g m cap R (fun j hj => owns_cell HR.out.2.2.1 j (by rw [HR.out.1] at hj; exact hj)) HR.out.1
            clear hie him
            go_wp2
            go_ret
            obtain ⟨a1, a2, a3, a4⟩ := HR.out
            have hie := HIE.out
            refine ⟨m, R, HX.out.1, HX.out.2.1, HX.out.2.2, by rw [a1]; exact HM.out, fun j hj => ?_, rfl, hbw.trans (a4.mono hbw.size)⟩
            rw [a1] at hj ⊢
            rw [a2 (m - 1 - j) (by omega)]
            have e : (if m - 1 - j < i ∨ m - i ≤ m - 1 - j then gx S (m - 1 - (m - 1 - j)) else gx S (m - 1 - j)) = gx S j := by
              split
              · congr 1; omega
              · congr 1; omega
            rw [e]
            exact HG.out j hj
      · obtain ⟨hi', hz0, hz1, hz2⟩ := HI.out
        have hbs := hBr.size
        go_wp2_with (refine wpList_append_lies _ rfl _ _ 107 rfl W.heap.size 5 i0 (.int .u8 0) 1 1 Tryz.underlying107 hi' hz0 hz1 hz2 rfl (by decide) (.slice (some ⟨g, 0, none⟩) m cap) m (S.map (Value.int .u8)) rfl (HS.out.2.2.alloc _) ⟨wr.heap.size, 0, none⟩ 1 1 [.int .u8 45] rfl rfl ?_ (fun x hx => by simp at hx; subst hx; rfl) (by decide) (by unfold maxLen; omega) (by omega) (by simp; omega) _ rfl ?_; exact World.news_of_block (heap_alloc_new wr _); intro g3 cap3 w3 hown3 hgrow3 hat3 hlt3)
        obtain ⟨M, hM⟩ : ∃ M, M = m + 1 := ⟨_, rfl⟩
        rw [← hM] at hown3
        rw [← hM]
        have HM : Hid (M = m + 1) := hM
        have HT : Hid ((S ++ [45]).length = M ∧ w3.ownsRow W.heap.size 5 1 (.slice (some ⟨g3, 0, none⟩) M cap3) M ((S ++ [45]).map (Value.int .u8))) := ⟨by simp [HS.out.1, hM], by rw [List.map_append]; exact hown3⟩
        have HG : Hid (∀ j, j < M → gx (S ++ [45]) j = if j < m then dgt V j else 45) := fun j hj => by
          by_cases h : j < m
          · rw [if_pos h, gx_append_left _ _ _ (by rw [HS.out.1]; exact h)]; exact HS.out.2.1 j h
          · rw [if_neg h, gx_append_right _ _ _ (by rw [HS.out.1]; omega), show j - S.length = 0 by rw [HS.out.1]; omega, gx_zero]
        have hBT : Below W.heap.size W w3 := (hBr.alloc (by omega) _).grown hgrow3 (by simp; omega) (fun q hq => (HS.out.2.2.lt q hq).1)
        have hM3 : M ≤ 6000 := by omega
        clear hM hown3 hgrow3 hat3
        clear hb0r
        go_loopw [7] (fun iv wr' => ∃ (i : Nat) (R : List Int), i ≤ M / 2 ∧ iv = .int .i64 i ∧ Hid (R.length = M ∧ (∀ j, j < M → gx R j = if j < i ∨ M - i ≤ j then gx (S ++ [45]) (M - 1 - j) else gx (S ++ [45]) j) ∧ wr'.ownsRow W.heap.size 5 1 (.slice (some ⟨g3, 0, none⟩) M cap3) M (R.map (Value.int .u8)) ∧ Below W.heap.size W wr')) (fun iv _ => (M / 2 - intOf iv).toNat)
        case atStart => exact ⟨0, (S ++ [45]), Nat.zero_le _, by go_num, HT.out.1, fun j hj => by rw [if_neg (by omega)], HT.out.2, hBT⟩
        case round =>
          obtain ⟨i, R, hi, rfl, HR⟩ := hrel
          by_cases him : i < M / 2
          · obtain ⟨k, hk⟩ : ∃ k : Nat, k = M - 1 - i := ⟨_, rfl⟩
            have hkI : ((M : Int) - 1 - (i : Int)) = (k : Int) := by omega
            have hkM : k < M := by omega
            have hiM : i < M := by omega
            have hik : i < k := by omega
            have hcmp : (i : Int) < (M : Int) / 2 := by omega
            have HKK : Hid (k = M - 1 - i) := hk
            have u1 := owns_cell HR.out.2.2.1 i hiM
            have u2 := owns_cell HR.out.2.2.1 k hkM
            have u3 := HR.out.2.2.1.frozenAt i
            have u4 := HR.out.2.2.1.frozenAt k
            clear hk
            go_wp2
            go_region
            all_goals go_wp2
            obtain ⟨a1, a2, a3, a4⟩ := HR.out
            have hk := HKK.out
            have hWg : W.heap.size ≤ g3 := (a3.lt g3 rfl).1
            refine ⟨⟨i + 1, (R.set i (gx R k)).set k (gx R i), by omega, by go_num, by simp [a1], fun j hj => ?_, (owns_set (owns_set a3 i _) k _).drew, ((a4.setCell (p := ⟨g3, i, none⟩) hWg _).setCell (p := ⟨g3, k, none⟩) hWg _).drew⟩, by simp [intOf]; omega⟩
            by_cases hjk : k = j
            · subst hjk
              rw [gx_set_eq _ _ _ (by simp; omega), if_pos (by omega), a2 i hiM, if_neg (by omega)]
              congr 1; omega
            · rw [gx_set_ne _ _ _ _ hjk]
              by_cases hji : i = j
              · subst hji
                rw [gx_set_eq _ _ _ (by omega), if_pos (by omega), a2 k hkM, if_neg (by omega), hk]
              · rw [gx_set_ne _ _ _ _ hji, a2 j hj]
                by_cases hc : j < i ∨ M - i ≤ j
                · rw [if_pos hc, if_pos (by omega)]
                · rw [if_neg hc, if_neg (by omega)]
          · have hie : i = M / 2 := by omega
            have HIE : Hid (i = M / 2) := hie
            have hcmp : ¬ (i : Int) < (M : Int) / 2 := by omega
            have hcv := conv_rd wr g3 M cap3 R (fun j hj => owns_cell HR.out.2.2.1 j (by rw [HR.out.1] at hj; exact hj)) HR.out.1
            clear hie him
            go_wp2
            go_ret
            obtain ⟨a1, a2, a3, a4⟩ := HR.out
            have hie := HIE.out
            refine ⟨m, R, HX.out.1, HX.out.2.1, HX.out.2.2, by rw [a1]; exact HM.out, fun j hj => ?_, rfl, hbw.trans (a4.mono hbw.size)⟩
            rw [a1] at hj ⊢
            rw [a2 (M - 1 - j) (by omega)]
            have e : (if M - 1 - j < i ∨ M - i ≤ M - 1 - j then gx (S ++ [45]) (M - 1 - (M - 1 - j)) else gx (S ++ [45]) (M - 1 - j)) = gx (S ++ [45]) j := by
              split
              · congr 1; omega
              · congr 1; omega
            rw [e]
            exact HG.out j hj
    · have hnI : 0 < (n : Int) := by omega
      obtain ⟨a1, a2, a3, a4, a5, a6, a7, a8, a9, aB⟩ := H.out
      have HO : Hid (wr.ownsRow W.heap.size 5 1 (.slice qs m cap) m (S.map (Value.int .u8))) := a9
      have HD : Hid (ds.length = n ∧ U16 ds ∧ tlen ds = n ∧ Rd wr q .i64 ds ∧ vd ds = V / 10 ^ m) := ⟨a1, a2, a3, a4, a5⟩
      have hmlt : m < 5 * n0 := by
        rcases Nat.lt_or_ge m (5 * n0) with h | h
        · exact h
        · exfalso
          have e1 := ten_mono h
          have e2 := HV.out.2.2
          have e3 : V / 10 ^ m = 0 := Int.ediv_eq_zero_of_lt (by have := HV.out.2.1; omega) (by omega)
          have e4 := (tlen_zero_iff16 a2).2 (by rw [a5, e3])
          omega
      clear a1 a2 a3 a4 a5 a6 a7 a8 a9 aB
      go_wp2_with fail
      refine (rsmall_any q n n ds 10 _ HD.out.1 (by omega) HD.out.2.2.2.1 HD.out.2.1 (by decide) (by decide)).mono ?_
      rintro e w1 ⟨Q, c, rfl, s1, s2, s3, s4, s5, s6, s7⟩
      have HS : Hid (Q.length = n ∧ U16 Q ∧ vd ds = vd Q * 10 + c ∧ Row w1 wr.heap.size 3 .i64 Q ∧ Below wr.heap.size wr w1) := ⟨s1, s2, s5, s6, s7⟩
      have HO1 : Hid (w1.ownsRow W.heap.size 5 1 (.slice qs m cap) m (S.map (Value.int .u8))) := HO.out.kept (grownBy_below s7 none) (by cases hv : (Value.slice qs m cap).ownBlock <;> simp)
      have hB1 : Below W.heap.size W w1 := bnext hBr (Nat.le_refl _) s7
      have hbs := hB1.size
      obtain ⟨hi', hz0, hz1, hz2⟩ := HI.out
      clear s1 s2 s5 s6 s7
      go_wp2_with (refine wpList_append_lies _ rfl _ _ 107 rfl W.heap.size 5 i0 (.int .u8 0) 1 1 Tryz.underlying107 hi' hz0 hz1 hz2 rfl (by decide) (.slice qs m cap) m (S.map (Value.int .u8)) rfl (HO1.out.alloc _) ⟨w1.heap.size, 0, none⟩ 1 1 [.int .u8 (48 + c)] rfl rfl ?_ (fun x hx => by simp at hx; subst hx; rfl) (by decide) (by unfold maxLen; omega) (by omega) (by simp; omega) _ rfl ?_; exact World.news_of_block (heap_alloc_new w1 _); intro g3 cap3 w3 hown3 hgrow3 hat3 hlt3)
      -- END OF ROUND
      have hQb : wr.heap.size ≠ g3 ∨ True := .inr trivial
      have hRowQ : Row w3 wr.heap.size 3 .i64 Q := (HS.out.2.2.2.1.alloc _).kept hgrow3 (fun e => by
        have := (HO.out.lt wr.heap.size e.symm).2; omega)
      have hrdQ := hRowQ.rd_all
      have hB3 : Below W.heap.size W w3 := (hB1.alloc (by omega) _).grown hgrow3 (by simp; omega) (fun q hq => (HO1.out.lt q hq).1)
      refine (rtrim_any false (some ⟨wr.heap.size, 0, none⟩) n n Q _ HS.out.1 (Nat.le_refl _) (by unfold maxLen; omega) hrdQ).mono ?_
      rintro e w4 ⟨rfl, hb4⟩
      have hB4 := bnext hB3 (Nat.le_refl _) hb4
      have hO4 : w4.ownsRow W.heap.size 5 1 (.slice (some ⟨g3, 0, none⟩) (m + 1) cap3) (m + 1) ((S ++ [48 + c]).map (Value.int .u8)) := by
        rw [List.map_append]
        exact hown3.kept (grownBy_below hb4 none) (.inr (by simp [Value.ownBlock]))
      have htl := tlen_le Q
      have hQl := HS.out.1
      have HZ : Hid (tr Q = tr Q ∧ Rd w4 (some ⟨wr.heap.size, 0, none⟩) .i64 (tr Q) ∧ w4.ownsRow W.heap.size 5 1 (.slice (some ⟨g3, 0, none⟩) (m + 1) cap3) (m + 1) ((S ++ [48 + c]).map (Value.int .u8)) ∧ Below W.heap.size W w4) := ⟨rfl, hrdQ.tr.below hb4, hO4, hB4⟩
      have hfd := field_D (.bool (nsg false Q)) (.slice (some ⟨wr.heap.size, 0, none⟩) (tlen Q) (tlen Q))
      clear hrdQ hRowQ hB3 hB4 hO4 hb4 hown3 hgrow3 hat3
      go_wp2
      obtain ⟨a1, a2, a3, a4, a5, a6, a7, a8, a9, aB⟩ := H.out
      obtain ⟨s1, s2, s5, s6, s7⟩ := HS.out
      refine ⟨⟨m + 1, tlen Q, _, _, cap3, tr Q, S ++ [48 + c], rfl, rfl, by omega, by omega, length_tr Q, u16_tr s2, tlen_tr Q, HZ.out.2.1, ?_, .inr ?_, by simp [a7], fun j hj => ?_, HZ.out.2.2.1, HZ.out.2.2.2⟩, by simp; omega⟩
      · rw [vd_tr, ← div_pow_add V m 1, ← a5, s5]; simp; omega
      · rw [Nat.add_sub_cancel]
        have hne : vd ds ≠ 0 := fun e => h0 (by rw [← a3]; exact (tlen_zero_iff16 a2).2 e)
        rcases (show V < 10 ^ m ∨ 10 ^ m ≤ V by omega) with h | h
        · exact absurd (a5.trans (Int.ediv_eq_zero_of_lt (by have := HV.out.2.1; omega) h)) hne
        · exact h
      · by_cases hjm : j < m
        · rw [gx_append_left _ _ _ (by omega)]; exact a8 j hjm
        · obtain rfl : j = m := by omega
          rw [gx_append_right _ _ _ (by omega), show j - S.length = 0 by omega, gx_zero, dgt, ← a5, s5]
          omega
end Go.Proofs.YtongkalfdgleaaaGreatDoor
