/-
  upoly: lists of residues: trimResidues, residues, scaled.
-/
import Derived.Test.YtijckfcpnghmiaaGreatDoorUzWxUp
namespace Go.Proofs.YtijckfcpnghmiaaGreatDoor
open Go.RowKit
set_option linter.unusedVariables false
set_option linter.unusedSimpArgs false

theorem info_u64 : (Tryz.prog.info? 66).map (fun i => (i.zero, i.size, i.bytes)) = some (some (.int .u64 0), 1, 8) := by kernel_rfl
theorem mk_u64 (n : Nat) (h : n ≤ 1000000000) (w : World) : (Instr.makeSlice 81 (.int .i64 n) (.int .i64 n)).run Tryz.prog w =
    .ok (.slice (some ⟨w.heap.size, 0, none⟩) n n) (w.alloc (.cells (ca .u64 (zeros n)) 66)) := by
  have hi := info_u64
  cases hq : Tryz.prog.info? 66 with
  | none => rw [hq] at hi; cases hi
  | some i =>
    rw [hq] at hi
    simp only [Option.map_some, Option.some.injEq, Prod.mk.injEq] at hi
    obtain ⟨h1, h2, h3⟩ := hi
    have hr := run_make (P := Tryz.prog) w 81 66 i (.int .u64 0) Tryz.underlying81 hq h1 .i64 .i64 n n (by omega) (Int.le_refl _) (by rw [h3]; omega) (by omega)
    rw [Int.toNat_natCast, h2] at hr
    rw [hr]
    exact congrArg (fun c => Result.ok (Value.slice (some ⟨w.heap.size, 0, none⟩) n n) (w.alloc (.cells c 66))) (made_zeros .u64 n)
set_option maxHeartbeats 400000 in
/-- upoly.trimResidues. -/
theorem trimRes_any (p : Option Addr) (len cap : Nat) (xs : List Int) (w : World) (hl : xs.length = len) (hc : len ≤ cap) (hm : cap ≤ 1000000) (hx : Rd w p .u64 xs) :
    Calls Tryz.prog 90 #[.slice p len cap] w fun e w' => e = .returned (.slice p (tlen xs) cap) ∧ w = w' := by
  go_enter Tryz.func90, Tryz.ntmps90
  go_wp2
  go_loop [3] (fun n => ∃ k : Nat, k ≤ len ∧ n = .int .i64 k ∧ Hid (∀ j, k ≤ j → gx xs j = 0)) (fun n => (intOf n).toNat)
  case atStart => exact ⟨len, Nat.le_refl _, rfl, gx_past xs len (by omega)⟩
  case round =>
    obtain ⟨k, hk, rfl, hz⟩ := hrel
    by_cases h0 : k = 0
    · subst h0
      go_wp2
      go_ret
      rw [tlen_eq xs 0 hz.out (.inl rfl)]
      exact ⟨rfl, rfl⟩
    · obtain ⟨m, rfl⟩ : ∃ m, k = m + 1 := ⟨k - 1, by omega⟩
      obtain ⟨b, off, rfl, hcell⟩ := hx (by omega)
      have hcm := hcell m (by omega)
      clear hcell
      by_cases h1 : gx xs m = 0
      · have h2 : (gx xs m == 0) = true := by simp only [h1]; rfl
        go_wp2
        go_round
        case rel => exact ⟨m, by omega, by go_num, fun j hj => by
          rcases Nat.lt_or_ge m j with h | h
          · exact hz.out j h
          · have : j = m := by omega
            subst this; exact h1⟩
        case measure => simp [intOf]
      · have h2 : (gx xs m == 0) = false := by simpa using h1
        go_wp2
        go_ret
        rw [tlen_eq xs (m + 1) hz.out (.inr h1)]
        exact ⟨rfl, rfl⟩
theorem gx_map0 (f : Int → Int) (h0 : f 0 = 0) (xs : List Int) (j : Nat) : gx (xs.map f) j = f (gx xs j) := by
  unfold gx
  rw [List.getD_eq_getElem?_getD, List.getD_eq_getElem?_getD, List.getElem?_map]
  cases h : xs[j]? with
  | none => simp [h0]
  | some v => simp
/-- A list of n, of which k entries are laid. -/
def part (xs : List Int) (n k : Nat) : List Int := xs.take k ++ zeros (n - k)
theorem length_part (xs : List Int) (n k : Nat) (h : xs.length = n) (hk : k ≤ n) : (part xs n k).length = n := by simp [part, zeros]; omega
theorem part_zero (xs : List Int) (n : Nat) : part xs n 0 = zeros n := by simp [part]
theorem part_all (xs : List Int) (n : Nat) (h : xs.length = n) : part xs n n = xs := by simp [part, zeros, List.take_of_length_le, h]
theorem part_set (xs : List Int) (n k : Nat) (h : xs.length = n) (hk : k < n) : (part xs n k).set k (gx xs k) = part xs n (k + 1) := by
  have e : n - k = (n - (k + 1)) + 1 := by omega
  have hl : (xs.take k).length = k := by simp; omega
  unfold part
  rw [e, List.set_append_right _ _ (by omega), hl, Nat.sub_self]
  unfold zeros
  rw [List.replicate_succ, List.set_cons_zero, gx_mem xs k (by omega), ← List.take_append_getElem (show k < xs.length by omega)]
  simp only [List.append_assoc, List.singleton_append]
set_option maxHeartbeats 2000000 in
/-- (upoly.prime).residues. -/
theorem residues_any {w : World} {K : Nat} {p : Option Addr} {n nc : Nat} {es : List Ent} {zs : List Int} (h : PA w K p n nc es zs) (hn : n ≤ 100000) (m : Int) (hm : 2 ≤ m) (hm2 : m ≤ 2147483647) :
    Calls Tryz.prog 59 #[.int .u64 m, .slice p n nc] w fun e w' => e = .returned (.slice (some ⟨w.heap.size, 0, none⟩) (tlen (zs.map (· % m))) n) ∧ Row w' w.heap.size 66 .u64 (zs.map (· % m)) ∧ Below w.heap.size w w' := by
  have hmk := mk_u64 n (by omega)
  have hle := h.el
  have hzl := h.zl
  generalize hr : zs.map (· % m) = rs
  have HR : Hid (∀ j, gx rs j = gx zs j % m) := fun j => by rw [← hr]; exact gx_map0 (· % m) (by simp) zs j
  have hrl : rs.length = n := by rw [← hr]; simp; omega
  clear hr
  go_enter Tryz.func59, Tryz.ntmps59
  go_wp2_with fail
  have hR0 := Row.new w 66 .u64 (zeros n)
  have hW0 : Below w.heap.size w (w.alloc (.cells (ca .u64 (zeros n)) 66)) := (Below.refl _ _).alloc (Nat.le_refl _) _
  generalize w.alloc (.cells (ca .u64 (zeros n)) 66) = W0 at *
  clear hmk
  go_loopw [6, 7, 13] (fun iv cv kv wr => ∃ k : Nat, k ≤ n ∧ kv = .int .i64 k ∧ Hid (Row wr w.heap.size 66 .u64 (part rs n k) ∧ Below w.heap.size w wr)) (fun _ _ kv _ => n - (intOf kv).toNat)
  case atStart => exact ⟨0, Nat.zero_le _, by go_num, by rw [part_zero]; exact hR0, hW0⟩
  case round =>
    obtain ⟨k, hk, rfl, H⟩ := hrel
    rcases Nat.lt_or_ge k n with hlt | hge
    · obtain ⟨hR, hB⟩ := H.out
      have hPA := h.below hB
      obtain ⟨b, o, hp, hc⟩ := hPA.pl (by omega)
      subst hp
      obtain ⟨c0, c1⟩ := hc k (by omega)
      have hv := hPA.ev k hlt
      have hsR := hR.lt
      have HH : Hid (Row wr w.heap.size 66 .u64 (part rs n k) ∧ Below w.heap.size w wr) := H.out
      clear H hR hB hc hPA
      go_wp2_with fail
      have hal := bel_al (o := .cells #[.bool (ge es k).s, .slice (ge es k).p (ge es k).n (ge es k).c] 43) (Below.refl wr.heap.size wr)
      refine (of_ev (hv.below hal) m hm hm2).mono ?_
      rintro e w1 ⟨rfl, hb1⟩
      obtain ⟨hR, hB⟩ := HH.out
      have hb2 := bnext' hal hb1
      have hR1 := hR.below hb2 hsR
      have d0 := hR1.cell k (by rw [length_part rs n k hrl hk]; exact hlt)
      have f0 := hR1.frozen k
      have hB1 := bnext' hB hb2
      have hxk := HR.out k
      have hxk' : gx zs k % m = gx rs k := hxk.symm
      have HI : Hid (Row w1 w.heap.size 66 .u64 (part rs n k) ∧ Below w.heap.size w w1) := ⟨hR1, hB1⟩
      clear hR hB hb2 hR1 hB1 hal hb1 hv c0 c1 HH hxk
      go_wp2
      go_roundw
      case rel =>
        obtain ⟨hR, hB⟩ := HI.out
        refine ⟨k + 1, by omega, by go_num, ?_, hB.setCell (p := ⟨w.heap.size, k, none⟩) (Nat.le_refl _) _⟩
        rw [← part_set rs n k hrl hlt]
        exact hR.set k _
      case measure => simp [intOf]; omega
    · obtain rfl : k = n := by omega
      obtain ⟨hR, hB⟩ := H.out
      rw [part_all rs k hrl] at hR
      have HI : Hid (Row wr w.heap.size 66 .u64 rs ∧ Below w.heap.size w wr) := ⟨hR, hB⟩
      clear H hR hB hge hk
      go_wp2_with fail
      refine (trimRes_any _ _ _ rs wr hrl (Nat.le_refl _) (by omega) HI.out.1.rd_all).mono ?_
      rintro e w1 ⟨rfl, rfl⟩
      go_wp2
      go_ret
      exact ⟨rfl, HI.out⟩
set_option maxHeartbeats 2000000 in
/-- (upoly.prime).scaled. -/
theorem scaled_any (q : Option Addr) (n nc : Nat) (xs : List Int) (m c : Int) (w : World) (hl : xs.length = n) (hn : n ≤ 100000) (hX : Rd w q .u64 xs) (hx : ∀ j, 0 ≤ gx xs j ∧ gx xs j < m) (hm : 2 ≤ m) (hm2 : m ≤ 2147483647) (c0 : 0 ≤ c) (c1 : c < m) :
    Calls Tryz.prog 63 #[.int .u64 m, .slice q n nc, .int .u64 c] w fun e w' => e = .returned (.slice (some ⟨w.heap.size, 0, none⟩) n n) ∧ Row w' w.heap.size 66 .u64 (xs.map (· * c % m)) ∧ Below w.heap.size w w' := by
  have hmk := mk_u64 n (by omega)
  generalize hr : xs.map (· * c % m) = rs
  have HR : Hid (∀ j, gx rs j = gx xs j * c % m) := fun j => by rw [← hr]; exact gx_map0 (· * c % m) (by simp) xs j
  have hrl : rs.length = n := by rw [← hr]; simp; omega
  have HX : Hid (Rd w q .u64 xs ∧ ∀ j, 0 ≤ gx xs j ∧ gx xs j < m) := ⟨hX, hx⟩
  clear hr hX hx
  go_enter Tryz.func63, Tryz.ntmps63
  go_wp2_with fail
  have hR0 := Row.new w 66 .u64 (zeros n)
  have hW0 : Below w.heap.size w (w.alloc (.cells (ca .u64 (zeros n)) 66)) := (Below.refl _ _).alloc (Nat.le_refl _) _
  generalize w.alloc (.cells (ca .u64 (zeros n)) 66) = W0 at *
  clear hmk
  go_loopw [8, 9, 15] (fun iv cv kv wr => ∃ k : Nat, k ≤ n ∧ kv = .int .i64 k ∧ Hid (Row wr w.heap.size 66 .u64 (part rs n k) ∧ Below w.heap.size w wr)) (fun _ _ kv _ => n - (intOf kv).toNat)
  case atStart => exact ⟨0, Nat.zero_le _, by go_num, by rw [part_zero]; exact hR0, hW0⟩
  case round =>
    obtain ⟨k, hk, rfl, H⟩ := hrel
    rcases Nat.lt_or_ge k n with hlt | hge
    · obtain ⟨hR, hB⟩ := H.out
      obtain ⟨b, o, hp, hc⟩ := (HX.out.1.below hB) (by omega)
      subst hp
      have e0 := hc k (by omega)
      obtain ⟨x0, x1⟩ := HX.out.2 k
      have HH : Hid (Row wr w.heap.size 66 .u64 (part rs n k) ∧ Below w.heap.size w wr) := H.out
      clear H hR hB hc
      go_wp2_with fail
      refine (times_any m (gx xs k) c _ hm hm2 x0 x1 c0 c1).mono ?_
      rintro e w1 ⟨rfl, rfl⟩
      obtain ⟨hR, hB⟩ := HH.out
      have d0 := hR.cell k (by rw [length_part rs n k hrl hk]; exact hlt)
      have f0 := hR.frozen k
      have hxk := HR.out k
      have hxk' : gx xs k * c % m = gx rs k := hxk.symm
      clear hR hB hxk e0
      go_wp2
      go_roundw
      case rel =>
        obtain ⟨hR, hB⟩ := HH.out
        refine ⟨k + 1, by omega, by go_num, ?_, hB.setCell (p := ⟨w.heap.size, k, none⟩) (Nat.le_refl _) _⟩
        rw [← part_set rs n k hrl hlt]
        exact hR.set k _
      case measure => simp [intOf]; omega
    · obtain rfl : k = n := by omega
      obtain ⟨hR, hB⟩ := H.out
      rw [part_all rs k hrl] at hR
      have HI : Hid (Row wr w.heap.size 66 .u64 rs ∧ Below w.heap.size w wr) := ⟨hR, hB⟩
      clear H hR hB hge hk
      go_wp2
      go_ret
      exact ⟨rfl, HI.out⟩
end Go.Proofs.YtijckfcpnghmiaaGreatDoor
