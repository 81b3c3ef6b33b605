/-
  upoly: lists of residues: trimResidues, residues, scaled.
-/
import Derived.Test.YtakfimhpnpapdaaGreatDoorUzWxUp
import Derived.StillTailTactics
namespace Go.Proofs.YtakfimhpnpapdaaGreatDoor
open Go.RowKit
set_option linter.unusedVariables false
set_option linter.unusedSimpArgs false

theorem info_u64 : (Tryz.prog.info? 95).map (fun i => (i.zero, i.size, i.bytes)) = some (some (.int .u64 0), 1, 8) := by kernel_rfl
theorem mk_u64 (n : Nat) (h : n ≤ 1000000000) (w : World) : (Instr.makeSlice 103 (.int .i64 n) (.int .i64 n)).run Tryz.prog w =
    .ok (.slice (some ⟨w.heap.size, 0, none⟩) n n) (w.alloc (.cells (ca .u64 (zeros n)) 95)) := by
  have hi := info_u64
  cases hq : Tryz.prog.info? 95 with
  | none => rw [hq] at hi; cases hi
  | some i =>
    rw [hq] at hi
    simp only [Option.map_some, Option.some.injEq, Prod.mk.injEq] at hi
    obtain ⟨h1, h2, h3⟩ := hi
    have hr := run_make (P := Tryz.prog) w 103 95 i (.int .u64 0) Tryz.underlying103 hq h1 .i64 .i64 n n (by omega) (Int.le_refl _) (by rw [h3]; omega) (by omega)
    rw [Int.toNat_natCast, h2] at hr
    rw [hr]
    exact congrArg (fun c => Result.ok (Value.slice (some ⟨w.heap.size, 0, none⟩) n n) (w.alloc (.cells c 95))) (made_zeros .u64 n)
set_option maxHeartbeats 400000 in
/-- upoly.trimResidues. -/
theorem trimRes_any (p : Option Addr) (len cap : Nat) (xs : List Int) (w : World) (hl : xs.length = len) (hc : len ≤ cap) (hm : cap ≤ 1000000) (hx : Rd w p .u64 xs) :
    Calls Tryz.prog 114 #[.slice p len cap] w fun e w' => e = .returned (.slice p (tlen xs) cap) ∧ w = w' := by
  go_enter Tryz.func114, Tryz.ntmps114
  go_wp2
  go_loop [3] (fun n => ∃ k : Nat, k ≤ len ∧ n = .int .i64 k ∧ Hid (∀ j, k ≤ j → gx xs j = 0)) (fun n => (intOf n).toNat)
  case atStart => exact ⟨len, Nat.le_refl _, rfl, gx_past xs len (by omega)⟩
  case round =>
    obtain ⟨k, hk, rfl, hz⟩ := hrel
    by_cases h0 : k = 0
    · subst h0
      go_wp2
      go_ret
      rw [tlen_eq xs 0 hz.out (.inl rfl)]
      exact ⟨rfl, rfl⟩
    · obtain ⟨m, rfl⟩ : ∃ m, k = m + 1 := ⟨k - 1, by omega⟩
      obtain ⟨b, off, rfl, hcell⟩ := hx (by omega)
      have hcm := hcell m (by omega)
      clear hcell
      by_cases h1 : gx xs m = 0
      · have h2 : (gx xs m == 0) = true := by simp only [h1]; rfl
        go_wp2
        go_round
        case rel => exact ⟨m, by omega, by go_num, fun j hj => by
          rcases Nat.lt_or_ge m j with h | h
          · exact hz.out j h
          · have : j = m := by omega
            subst this; exact h1⟩
        case measure => simp [intOf]
      · have h2 : (gx xs m == 0) = false := by simpa using h1
        go_wp2
        go_ret
        rw [tlen_eq xs (m + 1) hz.out (.inr h1)]
        exact ⟨rfl, rfl⟩
theorem gx_map0 (f : Int → Int) (h0 : f 0 = 0) (xs : List Int) (j : Nat) : gx (xs.map f) j = f (gx xs j) := by
  unfold gx
  rw [List.getD_eq_getElem?_getD, List.getD_eq_getElem?_getD, List.getElem?_map]
  cases h : xs[j]? with
  | none => simp [h0]
  | some v => simp
/-- A list of n, of which k entries are laid. -/
def part (xs : List Int) (n k : Nat) : List Int := xs.take k ++ zeros (n - k)
theorem length_part (xs : List Int) (n k : Nat) (h : xs.length = n) (hk : k ≤ n) : (part xs n k).length = n := by simp [part, zeros]; omega
theorem part_zero (xs : List Int) (n : Nat) : part xs n 0 = zeros n := by simp [part]
theorem part_all (xs : List Int) (n : Nat) (h : xs.length = n) : part xs n n = xs := by simp [part, zeros, List.take_of_length_le, h]
theorem part_set (xs : List Int) (n k : Nat) (h : xs.length = n) (hk : k < n) : (part xs n k).set k (gx xs k) = part xs n (k + 1) := by
  have e : n - k = (n - (k + 1)) + 1 := by omega
  have hl : (xs.take k).length = k := by simp; omega
  unfold part
  rw [e, List.set_append_right _ _ (by omega), hl, Nat.sub_self]
  unfold zeros
  rw [List.replicate_succ, List.set_cons_zero, gx_mem xs k (by omega), ← List.take_append_getElem (show k < xs.length by omega)]
  simp only [List.append_assoc, List.singleton_append]
set_option maxHeartbeats 2000000 in
/-- (upoly.prime).residues. -/
theorem residues_any {w : World} {K : Nat} {p : Option Addr} {n nc : Nat} {es : List Ent} {zs : List Int} (h : PA w K p n nc es zs) (hn : n ≤ 100000) (m : Int) (hm : 2 ≤ m) (hm2 : m ≤ 2147483647) :
    Calls Tryz.prog 86 #[.int .u64 m, .slice p n nc] w fun e w' => e = .returned (.slice (some ⟨w.heap.size, 0, none⟩) (tlen (zs.map (· % m))) n) ∧ Row w' w.heap.size 95 .u64 (zs.map (· % m)) ∧ Below w.heap.size w w' := by
  have hmk := mk_u64 n (by omega)
  have hle := h.el
  have hzl := h.zl
  generalize hr : zs.map (· % m) = rs
  have HR : Hid (∀ j, gx rs j = gx zs j % m) := fun j => by rw [← hr]; exact gx_map0 (· % m) (by simp) zs j
  have hrl : rs.length = n := by rw [← hr]; simp; omega
  clear hr
  go_enter Tryz.func86, Tryz.ntmps86
  go_wp2_with fail
  have hR0 := Row.new w 95 .u64 (zeros n)
  have hW0 : Below w.heap.size w (w.alloc (.cells (ca .u64 (zeros n)) 95)) := (Below.refl _ _).alloc (Nat.le_refl _) _
  generalize w.alloc (.cells (ca .u64 (zeros n)) 95) = W0 at *
  clear hmk
  go_loopw [6, 7, 13] (fun iv cv kv wr => ∃ k : Nat, k ≤ n ∧ kv = .int .i64 k ∧ Hid (Row wr w.heap.size 95 .u64 (part rs n k) ∧ Below w.heap.size w wr)) (fun _ _ kv _ => n - (intOf kv).toNat)
  case atStart => exact ⟨0, Nat.zero_le _, by go_num, by rw [part_zero]; exact hR0, hW0⟩
  case round =>
    obtain ⟨k, hk, rfl, H⟩ := hrel
    rcases Nat.lt_or_ge k n with hlt | hge
    · obtain ⟨hR, hB⟩ := H.out
      have hPA := h.below hB
      obtain ⟨b, o, hp, hc⟩ := hPA.pl (by omega)
      subst hp
      obtain ⟨c0, c1⟩ := hc k (by omega)
      have hv := hPA.ev k hlt
      have hsR := hR.lt
      have HH : Hid (Row wr w.heap.size 95 .u64 (part rs n k) ∧ Below w.heap.size w wr) := H.out
      clear H hR hB hc hPA
      go_wp2_with fail
      have hal := bel_al (o := .cells #[.bool (ge es k).s, .slice (ge es k).p (ge es k).n (ge es k).c] 29) (Below.refl wr.heap.size wr)
      refine (of_ev (hv.below hal) m hm hm2).mono ?_
      rintro e w1 ⟨rfl, hb1⟩
      obtain ⟨hR, hB⟩ := HH.out
      have hb2 := bnext' hal hb1
      have hR1 := hR.below hb2 hsR
      have d0 := hR1.cell k (by rw [length_part rs n k hrl hk]; exact hlt)
      have f0 := hR1.frozen k
      have hB1 := bnext' hB hb2
      have hxk := HR.out k
      have hxk' : gx zs k % m = gx rs k := hxk.symm
      have HI : Hid (Row w1 w.heap.size 95 .u64 (part rs n k) ∧ Below w.heap.size w w1) := ⟨hR1, hB1⟩
      clear hR hB hb2 hR1 hB1 hal hb1 hv c0 c1 HH hxk
      go_wp2
      go_roundw
      case rel =>
        obtain ⟨hR, hB⟩ := HI.out
        refine ⟨k + 1, by omega, by go_num, ?_, hB.setCell (p := ⟨w.heap.size, k, none⟩) (Nat.le_refl _) _⟩
        rw [← part_set rs n k hrl hlt]
        exact hR.set k _
      case measure => simp [intOf]; omega
    · obtain rfl : k = n := by omega
      obtain ⟨hR, hB⟩ := H.out
      rw [part_all rs k hrl] at hR
      have HI : Hid (Row wr w.heap.size 95 .u64 rs ∧ Below w.heap.size w wr) := ⟨hR, hB⟩
      clear H hR hB hge hk
      go_wp2_with fail
      refine (trimRes_any _ _ _ rs wr hrl (Nat.le_refl _) (by omega) HI.out.1.rd_all).mono ?_
      rintro e w1 ⟨rfl, rfl⟩
      go_wp2
      go_ret
      exact ⟨rfl, HI.out⟩
set_option maxHeartbeats 2000000 in
/-- (upoly.prime).scaled. -/
theorem scaled_any (q : Option Addr) (n nc : Nat) (xs : List Int) (m c : Int) (w : World) (hl : xs.length = n) (hn : n ≤ 100000) (hX : Rd w q .u64 xs) (hx : ∀ j, 0 ≤ gx xs j ∧ gx xs j < m) (hm : 2 ≤ m) (hm2 : m ≤ 2147483647) (c0 : 0 ≤ c) (c1 : c < m) :
    Calls Tryz.prog 90 #[.int .u64 m, .slice q n nc, .int .u64 c] w fun e w' => e = .returned (.slice (some ⟨w.heap.size, 0, none⟩) n n) ∧ Row w' w.heap.size 95 .u64 (xs.map (· * c % m)) ∧ Below w.heap.size w w' := by
  have hmk := mk_u64 n (by omega)
  generalize hr : xs.map (· * c % m) = rs
  have HR : Hid (∀ j, gx rs j = gx xs j * c % m) := fun j => by rw [← hr]; exact gx_map0 (· * c % m) (by simp) xs j
  have hrl : rs.length = n := by rw [← hr]; simp; omega
  have HX : Hid (Rd w q .u64 xs ∧ ∀ j, 0 ≤ gx xs j ∧ gx xs j < m) := ⟨hX, hx⟩
  clear hr hX hx
  go_enter Tryz.func90, Tryz.ntmps90
  go_wp2_with fail
  have hR0 := Row.new w 95 .u64 (zeros n)
  have hW0 : Below w.heap.size w (w.alloc (.cells (ca .u64 (zeros n)) 95)) := (Below.refl _ _).alloc (Nat.le_refl _) _
  generalize w.alloc (.cells (ca .u64 (zeros n)) 95) = W0 at *
  clear hmk
  go_loopw [8, 9, 15] (fun iv cv kv wr => ∃ k : Nat, k ≤ n ∧ kv = .int .i64 k ∧ Hid (Row wr w.heap.size 95 .u64 (part rs n k) ∧ Below w.heap.size w wr)) (fun _ _ kv _ => n - (intOf kv).toNat)
  case atStart => exact ⟨0, Nat.zero_le _, by go_num, by rw [part_zero]; exact hR0, hW0⟩
  case round =>
    obtain ⟨k, hk, rfl, H⟩ := hrel
    rcases Nat.lt_or_ge k n with hlt | hge
    · obtain ⟨hR, hB⟩ := H.out
      obtain ⟨b, o, hp, hc⟩ := (HX.out.1.below hB) (by omega)
      subst hp
      have e0 := hc k (by omega)
      obtain ⟨x0, x1⟩ := HX.out.2 k
      have HH : Hid (Row wr w.heap.size 95 .u64 (part rs n k) ∧ Below w.heap.size w wr) := H.out
      clear H hR hB hc
      go_wp2_with fail
      refine (times_any m (gx xs k) c _ hm hm2 x0 x1 c0 c1).mono ?_
      rintro e w1 ⟨rfl, rfl⟩
      obtain ⟨hR, hB⟩ := HH.out
      have d0 := hR.cell k (by rw [length_part rs n k hrl hk]; exact hlt)
      have f0 := hR.frozen k
      have hxk := HR.out k
      have hxk' : gx xs k * c % m = gx rs k := hxk.symm
      clear hR hB hxk e0
      go_wp2
      go_roundw
      case rel =>
        obtain ⟨hR, hB⟩ := HH.out
        refine ⟨k + 1, by omega, by go_num, ?_, hB.setCell (p := ⟨w.heap.size, k, none⟩) (Nat.le_refl _) _⟩
        rw [← part_set rs n k hrl hlt]
        exact hR.set k _
      case measure => simp [intOf]; omega
    · obtain rfl : k = n := by omega
      obtain ⟨hR, hB⟩ := H.out
      rw [part_all rs k hrl] at hR
      have HI : Hid (Row wr w.heap.size 95 .u64 rs ∧ Below w.heap.size w wr) := ⟨hR, hB⟩
      clear H hR hB hge hk
      go_wp2
      go_ret
      exact ⟨rfl, HI.out⟩
end Go.Proofs.YtakfimhpnpapdaaGreatDoor
/-
  upoly: (prime).rest.
-/
namespace Go.Proofs.YtakfimhpnpapdaaGreatDoor
open Go.RowKit
set_option linter.unusedVariables false
set_option linter.unusedSimpArgs false

/-- A row of rest: c times bs is added from the place o on. -/
def rstep (m c : Int) (bs : List Int) (o : Nat) : Nat → List Int → List Int
  | 0, Z => Z
  | t + 1, Z => (rstep m c bs o t Z).set (o + t) ((gx Z (o + t) + c * gx bs t) % m)
/-- What rest makes of a. -/
def rrest (m : Int) (bs : List Int) (n : Nat) : Nat → List Int → List Int
  | 0, Z => Z
  | j + 1, Z => rrest m bs n j (if (0 - gx Z (n + j)) % m = 0 then Z else rstep m ((0 - gx Z (n + j)) % m) bs j n Z)
theorem length_rstep (m c : Int) (bs : List Int) (o : Nat) : ∀ t Z, (rstep m c bs o t Z).length = Z.length
  | 0, Z => rfl
  | t + 1, Z => by rw [rstep, List.length_set, length_rstep m c bs o t Z]
theorem length_rrest (m : Int) (bs : List Int) (n : Nat) : ∀ j Z, (rrest m bs n j Z).length = Z.length
  | 0, Z => rfl
  | j + 1, Z => by
    rw [rrest, length_rrest m bs n j]
    split
    · rfl
    · rw [length_rstep]
theorem gx_set_ne' (Z : List Int) (i j : Nat) (v : Int) (h : i ≠ j) : gx (Z.set i v) j = gx Z j := by
  unfold gx
  rw [List.getD_eq_getElem?_getD, List.getD_eq_getElem?_getD, List.getElem?_set_ne h]
theorem gx_rstep_ge (m c : Int) (bs : List Int) (o : Nat) : ∀ t Z j, o + t ≤ j → gx (rstep m c bs o t Z) j = gx Z j
  | 0, Z, j, _ => rfl
  | t + 1, Z, j, h => by
    rw [rstep, gx_set_ne' _ _ _ _ (by omega)]
    exact gx_rstep_ge m c bs o t Z j (by omega)
/-- Residues. -/
def Res (m : Int) (xs : List Int) : Prop := ∀ j, 0 ≤ gx xs j ∧ gx xs j < m
theorem Res.set {m : Int} {xs : List Int} (h : Res m xs) (i : Nat) (v : Int) (h0 : 0 ≤ v) (h1 : v < m) : Res m (xs.set i v) := fun j => by
  by_cases e : i = j
  · subst e
    rcases Nat.lt_or_ge i xs.length with hl | hl
    · rw [gx_mem _ _ (by rw [List.length_set]; exact hl)]
      simp [h0, h1]
    · have := h i
      rw [gx_past xs xs.length (Nat.le_refl _) i hl] at this
      rw [gx_past (xs.set i v) xs.length (by simp) i hl]
      exact this
  · rw [gx_set_ne' _ _ _ _ e]
    exact h j
theorem Res.rstep {m c : Int} {bs Z : List Int} {o : Nat} (h : Res m Z) (hm : 2 ≤ m) : ∀ t, Res m (rstep m c bs o t Z)
  | 0 => h
  | t + 1 => by
    rw [Go.Proofs.YtakfimhpnpapdaaGreatDoor.rstep]
    exact (Res.rstep h hm t).set _ _ (Int.emod_nonneg _ (by omega)) (Int.emod_lt_of_pos _ (by omega))
theorem Res.rrest {m : Int} {bs : List Int} {n : Nat} (hm : 2 ≤ m) : ∀ j {Z : List Int}, Res m Z → Res m (rrest m bs n j Z)
  | 0, _, h => h
  | j + 1, _, h => by
    rw [Go.Proofs.YtakfimhpnpapdaaGreatDoor.rrest]
    refine Res.rrest hm j ?_
    split
    · exact h
    · exact h.rstep hm n
set_option maxHeartbeats 4000000 in
set_option maxRecDepth 100000 in
/-- (upoly.prime).rest. -/
theorem rest_any (g na ca : Nat) (Z : List Int) (q : Option Addr) (n nb bc : Nat) (bs : List Int) (m : Int) (w : World) (hnb : nb = n + 1) (hna : na ≤ Z.length) (hca : na ≤ ca) (hcZ : ca ≤ 100000) (hR : Row w g 95 .u64 Z) (hZ : Res m Z) (hl : bs.length = nb) (hn : n ≤ 100000) (hB : Rd w q .u64 bs) (hb : Res m bs) (hoff : Off g q) (hm : 2 ≤ m) (hm2 : m ≤ 2147483647) :
    Calls Tryz.prog 113 #[.int .u64 m, .slice (some ⟨g, 0, none⟩) na ca, .slice q nb bc] w fun e w' => e = .returned (.slice (some ⟨g, 0, none⟩) (tlen ((rrest m bs n (na - n) Z).take (min n na))) ca) ∧ Row w' g 95 .u64 (rrest m bs n (na - n) Z) ∧ w.grownBy w' (some g) := by
  have HB : Hid (Rd w q .u64 bs ∧ Res m bs) := ⟨hB, hb⟩
  clear hB hb
  have HZ : Hid (Res m Z) := hZ
  have HR : Hid (Row w g 95 .u64 Z) := hR
  clear hZ hR
  have hnI : (nb : Int) - 1 = (n : Int) := by omega
  have hn1 : n < nb := by omega
  have hn2 : nb ≤ n + 1 := by omega
  clear hnb
  have hnW : IntKind.i64.wrap (n : Int) = (n : Int) := by rw [IntKind.wrap_i64]; omega
  go_enter Tryz.func113, Tryz.ntmps113
  go_wp2_with fail
  go_loopw [8, 9, 10, 11] (fun kv cv rv jv wr => ∃ (t : Nat) (Y : List Int), t ≤ na - n ∧ kv = .int .i64 (((na : Int) - 1) - ((na - n - t : Nat) : Int)) ∧ Y.length = Z.length ∧ Hid (rrest m bs n t Y = rrest m bs n (na - n) Z ∧ Res m Y ∧ Row wr g 95 .u64 Y ∧ w.grownBy wr (some g))) (fun kv _ _ _ _ => (intOf kv + 1 - n).toNat)
  case atStart => exact ⟨na - n, Z, Nat.le_refl _, by go_num, rfl, rfl, HZ.out, HR.out, grownBy_refl _ _⟩
  case round =>
    obtain ⟨t, Y, ht, rfl, hY, H⟩ := hrel
    rcases Nat.eq_zero_or_pos t with h0 | h0
    · subst h0
      obtain ⟨e1, e2, e3, e4⟩ := H.out
      rw [rrest] at e1
      subst e1
      have hc1 : ¬ (n : Int) ≤ (na : Int) - 1 - ((na - n - 0 : Nat) : Int) := by omega
      obtain ⟨M, hM1, hM2⟩ : ∃ M : Nat, min (n : Int) (na : Int) = (M : Int) ∧ M = min n na := ⟨min n na, by omega, rfl⟩
      have hM3 : (M : Int) ≤ (ca : Int) := by omega
      have HM : Hid (M = min n na) := hM2
      have HI : Hid (Row wr g 95 .u64 (rrest m bs n (na - n) Z) ∧ w.grownBy wr (some g)) := ⟨e3, e4⟩
      clear H e2 e3 e4 hM2
      go_wp2_with fail
      refine (trimRes_any _ M ca ((rrest m bs n (na - n) Z).take M) wr (by rw [List.length_take, hY, HM.out]; omega) (by omega) (by omega) (HI.out.1.rd_take M)).mono ?_
      rintro e w1 ⟨rfl, rfl⟩
      go_wp2
      go_ret
      rw [← HM.out]
      exact ⟨rfl, HI.out⟩
    · obtain ⟨s, rfl⟩ : ∃ s, t = s + 1 := ⟨t - 1, by omega⟩
      have hk : (na : Int) - 1 - ((na - n - (s + 1) : Nat) : Int) = ((n + s : Nat) : Int) := by omega
      rw [hk]
      obtain ⟨e1, e2, e3, e4⟩ := H.out
      rw [rrest] at e1
      have c0 := e3.cell (n + s) (by omega)
      obtain ⟨y0, y1⟩ := e2 (n + s)
      have hbd1 : ((n + s : Nat) : Int) < (na : Int) := by omega
      have HI : Hid (Res m Y ∧ Row wr g 95 .u64 Y ∧ w.grownBy wr (some g)) := ⟨e2, e3, e4⟩
      have HE : Hid (rrest m bs n s (if (0 - gx Y (n + s)) % m = 0 then Y else rstep m ((0 - gx Y (n + s)) % m) bs s n Y) = rrest m bs n (na - n) Z) := e1
      clear H e1 e2 e3 e4
      go_wp2_with fail
      refine (minus_any m 0 (gx Y (n + s)) _ hm hm2 (by decide) (by omega) y0 y1).mono ?_
      rintro e w1 ⟨rfl, rfl⟩
      have q0 := Int.emod_nonneg (0 - gx Y (n + s)) (show m ≠ 0 by omega)
      have q1 := Int.emod_lt_of_pos (0 - gx Y (n + s)) (show 0 < m by omega)
      generalize (0 - gx Y (n + s)) % m = c at *
      by_cases hc : c = 0
      · have HC : Hid (c = 0) := hc
        have hc' : (c == 0) = true := by rw [beq_iff_eq]; exact hc
        clear hc
        go_wp2
        go_roundw
        case rel =>
          refine ⟨s, Y, by omega, by go_num, hY, ?_, HI.out⟩
          have := HE.out
          rwa [if_pos HC.out] at this
        case measure => simp [intOf]; omega
      · have hc' : (c == 0) = false := by rw [beq_eq_false_iff_ne]; exact hc
        have HE2 : Hid (rrest m bs n s (rstep m c bs s n Y) = rrest m bs n (na - n) Z) := by have := HE.out; rwa [if_neg hc] at this
        clear HE
        have hs1 : ((n + s : Nat) : Int) - (n : Int) = (s : Int) := by omega
        have hs2 : ((n + s : Nat) : Int) ≤ (ca : Int) := by omega
        have hs3 : (s : Int) ≤ ((n + s : Nat) : Int) := by omega
        have hs4 : ((n + s : Nat) : Int) - (s : Int) = (n : Int) := by omega
        have hs5 : IntKind.i64.wrap (s : Int) = (s : Int) := by rw [IntKind.wrap_i64]; omega
        have HYr : Hid (Res m Y) := HI.out.1
        go_wp2_with fail
        have hx1 : n + s - n = s := by omega
        have hx2 : n + s - s = n := by omega
        simp only [hx1, hx2]
        clear hx1 hx2
        go_loopw [11, 39] (fun jv kv wi => ∃ j : Nat, j ≤ n ∧ kv = .int .i64 j ∧ Hid (Row wi g 95 .u64 (rstep m c bs s j Y) ∧ w.grownBy wi (some g))) (fun _ kv _ => n - (intOf kv).toNat)
        case atStart => exact ⟨0, Nat.zero_le _, by go_num, HI.out.2⟩
        case round =>
          obtain ⟨j, hj, rfl, H⟩ := hrel
          rcases Nat.lt_or_ge j n with hlt | hge
          · obtain ⟨r1, r2⟩ := H.out
            obtain ⟨b, off, rfl, hcell⟩ := (HB.out.1.keptOff r2 hoff) (by omega)
            have d0 := hcell j (by omega)
            have d1 := r1.cell (s + j) (by rw [length_rstep]; omega)
            rw [gx_rstep_ge m c bs s j Y (s + j) (Nat.le_refl _)] at d1
            have f1 := r1.frozen (s + j)
            obtain ⟨u0, u1⟩ := HYr.out (s + j)
            obtain ⟨v0, v1⟩ := HB.out.2 j
            obtain ⟨p0, p1⟩ := mul_bdp q0 v0 q1 v1 hm2
            have HH : Hid (Row wr g 95 .u64 (rstep m c bs s j Y) ∧ w.grownBy wr (some g)) := ⟨r1, r2⟩
            have hj1 : (j : Int) < (nb : Int) := by omega
            have HV : Hid (rstep m c bs s (j + 1) Y = (rstep m c bs s j Y).set (s + j) ((gx Y (s + j) + c * gx bs j) % m)) := rfl
            clear hcell r1 r2 H
            generalize hP : c * gx bs j = P at *
            have HP := (show Hid _ from hP)
            clear hP
            have hm0 : ¬ m = 0 := by omega
            have hm0' : (m == 0) = false := by rw [beq_eq_false_iff_ne]; exact hm0
            have e1 : IntKind.u64.wrap P = P := by rw [IntKind.wrap_u64]; omega
            have e2 : IntKind.u64.wrap (gx Y (s + j) + P) = gx Y (s + j) + P := by rw [IntKind.wrap_u64]; omega
            have e3 : (gx Y (s + j) + P).tmod m = (gx Y (s + j) + P) % m := Int.tmod_eq_emod_of_nonneg (by omega)
            have e4 := Int.emod_nonneg (gx Y (s + j) + P) hm0
            have e5 := Int.emod_lt_of_pos (gx Y (s + j) + P) (show 0 < m by omega)
            have e6 : IntKind.u64.wrap ((gx Y (s + j) + P) % m) = (gx Y (s + j) + P) % m := by rw [IntKind.wrap_u64]; omega
            go_wp2_with fail
            go_still_tail 15, (by kernel_rfl)
            go_wp2
            go_roundw
            case rel =>
              obtain ⟨r1, r2⟩ := HH.out
              refine ⟨j + 1, by omega, by go_num, ?_, grownBy_drew (grownBy_setCell r2 _ _)⟩
              rw [HV.out, HP.out, e1, e2, e3]
              exact (r1.set (s + j) _).drew
            case measure => simp [intOf]; omega
          · obtain rfl : j = n := by omega
            obtain ⟨r1, r2⟩ := H.out
            have HH : Hid (Row wr g 95 .u64 (rstep m c bs s j Y) ∧ w.grownBy wr (some g)) := ⟨r1, r2⟩
            clear H r1 r2 hge
            go_wp2
            go_roundw
            case rel =>
              refine ⟨s, rstep m c bs s j Y, by omega, by go_num, by rw [length_rstep]; exact hY, HE2.out, HYr.out.rstep hm j, HH.out⟩
            case measure => simp [intOf]; omega
end Go.Proofs.YtakfimhpnpapdaaGreatDoor
