/-
  upoly.trim.
-/
import Derived.Test.YtebdbfbicbndlaaGreatDoorUa
import Derived.Test.YtebdbfbicbndlaaGreatDoorWh
import Derived.Test.YtebdbfbicbndlaaGreatDoorCvNj
import Derived.Test.YtebdbfbicbndlaaGreatDoorWk
namespace Go.Proofs.YtebdbfbicbndlaaGreatDoor
open Go.RowKit
set_option linter.unusedVariables false
set_option linter.unusedSimpArgs false

theorem Sign_ev {w : World} {K : Nat} {z : Int} {e : Ent} (h : EV w K z e) : Calls Tryz.prog 29 #[.agg #[.bool e.s, .slice e.p e.n e.c]] w fun r w' => r = .returned (.int .i64 (isgn z)) ∧ Below w.heap.size w w' := by
  obtain ⟨xs, h1, rfl, h3⟩ := h
  exact Sign_any e.s e.p e.n e.c xs w h1
set_option maxHeartbeats 1000000 in
/-- upoly.trim. -/
theorem utrim_any (K : Nat) (p : Option Addr) (n nc : Nat) (es : List Ent) (zs : List Int) (w : World) (h : PA w K p n nc es zs) (hn : n ≤ 1000000) :
    Calls Tryz.prog 18 #[.slice p n nc] w fun e w' => e = .returned (.slice p (tlen zs) (tlen zs)) ∧ Below w.heap.size w w' := by
  have hle := h.el
  go_enter Tryz.func18, Tryz.ntmps18
  go_wp2
  go_loopw [3] (fun nv wr => ∃ k : Nat, k ≤ n ∧ nv = .int .i64 k ∧ Hid ((∀ j, k ≤ j → gx zs j = 0) ∧ Below w.heap.size w wr)) (fun nv _ => (intOf nv).toNat)
  case atStart => exact ⟨n, Nat.le_refl _, by go_num, fun j hj => gx_past zs n (by rw [h.zl]; exact Nat.le_refl _) j hj, Below.refl _ _⟩
  case round =>
    obtain ⟨k, hk, rfl, H⟩ := hrel
    rcases Nat.eq_zero_or_pos k with h0 | h0
    · subst h0
      have HT : Hid (tlen zs = 0) := tlen_eq zs 0 (fun j _ => H.out.1 j (Nat.zero_le _)) (.inl rfl)
      go_wp2
      go_ret
      exact ⟨by rw [HT.out]; rfl, H.out.2⟩
    · obtain ⟨i, rfl⟩ : ∃ i, k = i + 1 := ⟨k - 1, by omega⟩
      obtain ⟨H1, H2⟩ := H.out
      have HH : Hid ((∀ j, i + 1 ≤ j → gx zs j = 0) ∧ Below w.heap.size w wr) := ⟨H1, H2⟩
      have hw := h.below H2
      obtain ⟨b, o, hp, hc⟩ := hw.pl (by omega)
      subst hp
      obtain ⟨c0, c1⟩ := hc i (by omega)
      have hv := hw.ev i (by omega)
      have hcap := h.cap
      have hbnd := h.bnd
      unfold maxLen at hbnd
      clear H H1 H2 hc
      go_wp2_with fail
      refine (Sign_ev hv).mono ?_
      rintro e w1 ⟨rfl, hb1⟩
      have hB := bnext' HH.out.2 hb1
      have hcs : Hid (gx zs i = 0 ∨ ¬ gx zs i = 0) := Classical.em _
      rcases hcs.out with hz | hz
      · rw [isgn_zero hz]
        have HZ : Hid (gx zs i = 0) := hz
        clear hz hcs c0 c1 hv
        go_wp2
        go_roundw
        case rel => exact ⟨i, by omega, by go_num, fun j hj => by
          rcases Nat.lt_or_ge i j with h | h
          · exact HH.out.1 j h
          · have : j = i := by omega
            subst this; exact HZ.out, hB⟩
        case measure => simp [intOf]
      · have HT : Hid (tlen zs = i + 1) := tlen_eq zs (i + 1) HH.out.1 (.inr hz)
        have hi : isgn (gx zs i) = 1 ∨ isgn (gx zs i) = -1 := by
          rcases (show 0 < gx zs i ∨ gx zs i < 0 by omega) with h | h
          · exact .inl (isgn_pos h)
          · exact .inr (isgn_neg h)
        clear hz hcs c0 c1 hv
        rcases hi with hi | hi
        all_goals
          rw [hi]
          clear hi
          go_wp2
          go_ret
          exact ⟨by rw [HT.out]; rfl, hB⟩
end Go.Proofs.YtebdbfbicbndlaaGreatDoor
/-
  Lists of numbers that are made.
-/
namespace Go.Proofs.YtebdbfbicbndlaaGreatDoor
open Go.RowKit
set_option linter.unusedVariables false
set_option linter.unusedSimpArgs false

def ezs (n : Nat) : List Ent := List.replicate n ez
theorem length_ezs (n : Nat) : (ezs n).length = n := by simp [ezs]
theorem ge_ezs (n i : Nat) : ge (ezs n) i = ez := by
  unfold ge ezs
  by_cases h : i < n
  · simp [List.getElem?_replicate, h]
  · simp [List.getElem?_replicate, h]
theorem made_ez (n : Nat) : madeCells #[.bool false, .slice none 0 0] (n * 2) = ca2 (ezs n) := by
  apply Array.ext
  · simp [size_madeCells, size_ca2, length_ezs]
  · intro i h1 h2
    have hl : i < n * 2 := by simpa [size_madeCells] using h1
    have hj : i / 2 < (ezs n).length := by rw [length_ezs]; omega
    obtain ⟨g0, g1⟩ := flat_get (ezs n) (i / 2) hj
    have e : (ca2 (ezs n))[i]? = ((ezs n).flatMap fun e => [Value.bool e.s, .slice e.p e.n e.c])[i]? := by unfold ca2; exact List.getElem?_toArray
    rw [Array.getElem?_eq_getElem h2] at e
    rcases Nat.mod_two_eq_zero_or_one i with h | h
    · have hi : i / 2 * 2 = i := by omega
      rw [hi, ← e, ge_ezs] at g0
      rw [Option.some.inj g0]
      simp [madeCells, h, ez]
    · have hi : i / 2 * 2 + 1 = i := by omega
      rw [hi, ← e, ge_ezs] at g1
      rw [Option.some.inj g1]
      simp [madeCells, h, ez]
theorem info_api : (Tryz.prog.info? 43).map (fun i => (i.zero, i.size, i.bytes)) = some (some (.agg #[.bool false, .slice none 0 0]), 2, 32) := by kernel_rfl
theorem mk_poly (n : Nat) (h : n ≤ 1000000000) (w : World) : (Instr.makeSlice 26 (.int .i64 n) (.int .i64 n)).run Tryz.prog w =
    .ok (.slice (some ⟨w.heap.size, 0, none⟩) n n) (w.alloc (.cells (ca2 (ezs n)) 43)) := by
  have hi := info_api
  cases hq : Tryz.prog.info? 43 with
  | none => rw [hq] at hi; cases hi
  | some i =>
    rw [hq] at hi
    simp only [Option.map_some, Option.some.injEq, Prod.mk.injEq] at hi
    obtain ⟨h1, h2, h3⟩ := hi
    have hr := run_make (P := Tryz.prog) w 26 43 i (.agg #[.bool false, .slice none 0 0]) Tryz.underlying26 hq h1 .i64 .i64 n n (by omega) (Int.le_refl _) (by rw [h3]; omega) (by omega)
    rw [Int.toNat_natCast, h2] at hr
    rw [hr]
    exact congrArg (fun c => Result.ok (Value.slice (some ⟨w.heap.size, 0, none⟩) n n) (w.alloc (.cells c 43))) (made_ez n)
end Go.Proofs.YtebdbfbicbndlaaGreatDoor
