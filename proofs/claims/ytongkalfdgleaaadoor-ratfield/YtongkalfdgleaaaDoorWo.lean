/-
  strings.TrimLeft by one sign; limbs.spell of fewer than 80 limbs.
-/
import Derived.Test.YtongkalfdgleaaaDoorWn
import Derived.Test.YtongkalfdgleaaaDoorWiWj
namespace Go.Proofs.YtongkalfdgleaaaDoor
open Go.RowKit
set_option linter.unusedVariables false
set_option linter.unusedSimpArgs false

/-- Without the noughts ahead. -/
def strip (l : List UInt8) : List UInt8 := l.dropWhile (· == 48)
theorem extract_one (c : UInt8) (r : List UInt8) : (⟨(c :: r).toArray⟩ : ByteArray).extract 1 (r.length + 1) = ⟨r.toArray⟩ := by
  rw [ByteArray.extract_mk]
  simp
theorem strip_head (r : List UInt8) : strip (48 :: r) = strip r := by simp [strip]
theorem strip_other (c : UInt8) (r : List UInt8) (h : c ≠ 48) : strip (c :: r) = c :: r := by simp [strip, h]


set_option maxHeartbeats 1000000 in
theorem trimLeftByte_any (l : List UInt8) (w : World) (hl : l.length ≤ 1099511627776) :
    Calls Tryd.prog 67 #[.string ⟨l.toArray⟩, .int .u8 48] w fun e w' => e = .returned (.string ⟨(strip l).toArray⟩) ∧ w = w' := by
  go_enter Tryd.func67, Tryd.ntmps67
  go_wp2
  go_loop [0] (fun sv => ∃ r : List UInt8, r.length ≤ l.length ∧ sv = .string ⟨r.toArray⟩ ∧ Hid (strip r = strip l)) (fun sv => match sv with | .string s => s.size | _ => 0)
  case atStart => exact ⟨l, Nat.le_refl _, rfl, rfl⟩
  case round =>
    obtain ⟨r, hr, rfl, H⟩ := hrel
    cases r with
    | nil =>
      go_wp2
      go_ret
      have := H.out
      exact ⟨by rw [← this]; rfl, rfl⟩
    | cons c r =>
      by_cases hc : c = 48
      · subst hc
        have hb : ((((⟨((48 : UInt8) :: r).toArray⟩ : ByteArray)[0]'(by simp [ByteArray.size])).toNat : Int) == 48) = true := by simp [ByteArray.getElem_eq_getElem_data]
        go_wp2
        rw [extract_one]
        refine ⟨⟨r, by simp at hr; omega, rfl, ?_⟩, by simp [ByteArray.size]⟩
        show _ = _
        rw [← strip_head]; exact H.out
      · have hb : ((((⟨(c :: r).toArray⟩ : ByteArray)[0]'(by simp [ByteArray.size])).toNat : Int) == 48) = false := by
          simp [ByteArray.getElem_eq_getElem_data]
          intro e
          exact hc (UInt8.toNat_inj.1 (show c.toNat = 48 by omega))
        go_wp2
        go_ret
        have := H.out
        rw [strip_other c r hc] at this
        rw [← this]
        exact ⟨rfl, rfl⟩

set_option maxRecDepth 100000 in
set_option maxHeartbeats 1000000 in
/-- strings.TrimLeft by one nought. -/
theorem TrimLeft_any (l : List UInt8) (w : World) (hl : l.length ≤ 1099511627776) (h0 : l ≠ []) :
    Calls Tryd.prog 52 #[.string ⟨l.toArray⟩, .string ⟨#[48]⟩] w fun e w' => e = .returned (.string ⟨(strip l).toArray⟩) ∧ w = w' := by
  cases l with
  | nil => exact absurd rfl h0
  | cons c r =>
    have h48 : (((⟨#[48]⟩ : ByteArray)[0]'(by decide)).toNat : Int) = 48 := rfl
    go_enter Tryd.func52, Tryd.ntmps52
    go_wp2_with fail
    refine (trimLeftByte_any (c :: r) _ hl).mono ?_
    rintro e w' ⟨rfl, rfl⟩
    go_wp2
    go_ret
    exact ⟨rfl, rfl⟩

set_option maxHeartbeats 1000000 in
/-- limbs.spell: fewer than 80 limbs. -/
theorem spell_small (g h K cap n nc L Lc : Nat) (pp : Option Addr) (O Z : List Int) (w : World) (hg : Row w g 5 .u8 O) (hO : O.length = 9 * K) (hcap : 9 * K ≤ cap) (hcap' : cap ≤ 1099511627776)
    (hR : Row w h 55 .u32 Z) (hZ : n ≤ Z.length) (hU : U32 Z) (hn : n ≤ nc) (hnc : nc ≤ 1099511627776) (hgh : g ≠ h) (h80 : n < 80) (hL : L ≤ 100) :
    Calls Tryd.prog 50 #[.slice (some ⟨g, 0, none⟩) (9 * K) cap, .slice (some ⟨h, 0, none⟩) n nc, .slice pp L Lc] w fun e w' => ∃ D, e = .returned (.tuple #[]) ∧ D.length = 9 * K ∧ (∀ j, j < 9 * K → gx D j = dgt (val (Z.take n)) (9 * K - 1 - j)) ∧ Row w' g 5 .u8 D ∧ Kp g h w w' := by
  have h80' : (n : Int) < 80 := by omega
  go_enter Tryd.func50, Tryd.ntmps50
  go_wp2_with fail
  refine (spellChunks_any g h K cap n nc O Z w hg hO hcap hcap' hR hZ hU hn hnc hgh).mono ?_
  rintro e w' ⟨D, rfl, d1, d2, d3, d4⟩
  go_wp2
  exact bodyPost_ret (v := .tuple #[]) (by simp [results, Tryd.results50, go_sem]) rfl ⟨D, rfl, d1, d2, d3, d4⟩

theorem info_sl : (Tryd.prog.info? 22).map (fun i => (i.zero, i.size, i.bytes)) = some (some (.slice none 0 0), 1, 24) := by kernel_rfl

theorem ten_sq (L : Nat) (h : 1 ≤ L) : (10 : Int) ^ (9 * 2 ^ (L - 1)) * 10 ^ (9 * 2 ^ (L - 1)) = 10 ^ (9 * 2 ^ L) := by
  rw [← Int.pow_add]
  congr 1
  obtain ⟨m, rfl⟩ : ∃ m, L = m + 1 := ⟨L - 1, by omega⟩
  rw [Nat.add_sub_cancel, Nat.pow_succ]
  omega
theorem ten_big : (4294967296 : Nat) ^ 40 ≤ (10 ^ 144) ^ 4 := by decide +kernel
theorem ten_four (a b : Nat) (h : a * 4 ≤ b) : ((10 : Nat) ^ a) ^ 4 ≤ 10 ^ b := by rw [← Nat.pow_mul]; exact Nat.pow_le_pow_right (by decide) h
theorem pow_few {L k : Nat} (hk : k ≤ 40) (h : (10 : Int) ^ (9 * 2 ^ (L - 1)) < pw k) : L ≤ 6 := by
  rcases Nat.lt_or_ge 6 L with hL | hL
  · exfalso
    have h1 : pw k ≤ pw 40 := pw_mono hk
    have h2 : 64 ≤ 2 ^ (L - 1) := by
      have := Nat.pow_le_pow_right (n := 2) (by decide) (show 6 ≤ L - 1 by omega)
      simpa using this
    have h3 := ten_four 144 (9 * 2 ^ (L - 1)) (by omega)
    have h4 : pw 40 = ((4294967296 ^ 40 : Nat) : Int) := by unfold pw; rw [Int.natCast_pow]; rfl
    have h5 : ((10 ^ (9 * 2 ^ (L - 1)) : Nat) : Int) = (10 : Int) ^ (9 * 2 ^ (L - 1)) := by rw [Int.natCast_pow]; rfl
    rw [h4] at h1
    rw [← h5] at h
    have h6 := Nat.le_trans ten_big h3
    omega
  · exact hL
theorem chunk_enough {ps : List Int} {k n L : Nat} (hU : U32 ps) (hk : tlen ps = k) (hk0 : 0 < k) (hv : val ps = 10 ^ (9 * 2 ^ (L - 1))) (hL : 1 ≤ L) (hn : n + 1 < 2 * k) : pw n ≤ 10 ^ (9 * 2 ^ L) := by
  have h1 := val_pos_of_top hU (by omega)
  rw [hk] at h1
  rw [← ten_sq L hL, ← hv]
  have h2 : pw n ≤ pw ((k - 1) + (k - 1)) := pw_mono (by omega)
  rw [pw_add] at h2
  have h3 := pw_pos (k - 1)
  have h4 := Int.mul_le_mul h1 h1 (Int.le_of_lt h3) (by omega)
  omega

/-- What chunkPowers answers. -/
def CpPost (n : Nat) (w : World) (e : Ending) (w' : World) : Prop := ∃ pp L Lc, e = .returned (.slice pp L Lc) ∧ 1 ≤ L ∧ L ≤ 7 ∧ pw n ≤ 10 ^ (9 * 2 ^ L) ∧ Below w.heap.size w w'

set_option maxHeartbeats 2000000 in
/-- limbs.chunkPowers: how many powers there are. -/
theorem chunkPowers_any (n : Nat) (w : World) (hn : n < 80) (hn0 : 0 < n) :
    Calls Tryd.prog 49 #[.int .i64 n] w (CpPost n w) := by
  obtain ⟨i0, hi, hzz⟩ := Option.map_eq_some_iff.1 info_sl
  simp only [Prod.mk.injEq] at hzz
  obtain ⟨hz0, hz1, hz2⟩ := hzz
  have HI : Hid (Tryd.prog.info? 22 = some i0 ∧ i0.zero = some (.slice none 0 0) ∧ i0.size = 1 ∧ i0.bytes = 24) := ⟨hi, hz0, hz1, hz2⟩
  clear hi hz0 hz1 hz2
  go_enter Tryd.func49, Tryd.ntmps49
  go_wp2
  go_loopw [3, 4] (fun pv qv wr => ∃ (pb k kc gb L Lc : Nat) (ps : List Int) (xs : List Value), pv = .slice (some ⟨pb, 0, none⟩) k kc ∧ qv = .slice (some ⟨gb, 0, none⟩) L Lc ∧ 1 ≤ L ∧ L ≤ 7 ∧ k ≤ kc ∧ kc ≤ 200 ∧ 0 < k ∧ Hid (pb ≠ gb ∧ ps.length = k ∧ U32 ps ∧ tlen ps = k ∧ val ps = 10 ^ (9 * 2 ^ (L - 1)) ∧ Rd wr (some ⟨pb, 0, none⟩) .u32 ps ∧ wr.ownsRow w.heap.size 22 1 (.slice (some ⟨gb, 0, none⟩) L Lc) L xs ∧ Below w.heap.size w wr))
    (fun _ qv _ => match qv with | .slice _ L _ => 8 - L | _ => 0)
  case atStart =>
    refine ⟨w.heap.size, 1, 1, w.heap.size + 1, 1, 1, [1000000000], [.slice (some ⟨w.heap.size, 0, none⟩) 1 1], rfl, rfl, by decide, by decide, by decide, by decide, by decide, by omega, rfl, u32_one (by decide), by simp [tlen], by simp [val], ?_, ?_, ?_⟩
    · exact ((Row.new w 55 .u32 [1000000000]).alloc _).rd_all
    · refine ⟨rfl, .inr ⟨w.heap.size + 1, 1, #[.slice (some ⟨w.heap.size, 0, none⟩) 1 1], rfl, by omega, ?_, by decide, by unfold maxLen; decide, rfl, rfl⟩⟩
      have := heap_alloc_new (w.alloc (Obj.cells #[Value.int IntKind.u32 1000000000] 55)) (Obj.cells #[Value.slice (some ⟨w.heap.size, 0, none⟩) 1 1] 22)
      rwa [World.size_alloc] at this
    · exact ((Below.refl _ _).alloc (Nat.le_refl _) _).alloc (by simp) _
  case round =>
    obtain ⟨pb, k, kc, gb, L, Lc, ps, xs, rfl, rfl, hL1, hL7, hk, hkc, hk0, H⟩ := hrel
    by_cases hlt : 2 * k ≤ n + 1
    · have hc : (2 * (k : Int) - 1) ≤ n := by omega
      obtain ⟨a1, a2, a3, a4, a5, a6, a7, a8⟩ := H.out
      have hL6 : L ≤ 6 := by
        refine pow_few (k := k) (by omega) ?_
        rw [← a5, ← a4]; exact val_lt_tlen a3
      go_wp2_with fail
      refine (product_small (some ⟨pb, 0, none⟩) (some ⟨pb, 0, none⟩) k kc k kc ps ps _ (by omega) (by omega) a2 a2 a6 a3 a6 a3 (by omega)).mono ?_
      rintro e w1 ⟨R, rfl, r1, r2, r3, r4, r5⟩
      go_wp2_with fail
      refine (trim_any (some ⟨wr.heap.size, 0, none⟩) (k + k) (k + k) R _ r1 (Nat.le_refl _) (by unfold maxLen; omega) r4.rd_all).mono ?_
      rintro e w2 ⟨rfl, rfl⟩
      have htR := tlen_le R
      have hown := (a7.kept (grownBy_below r5 none) (by simp [Value.ownBlock])).alloc (Obj.cells #[Value.slice (some ⟨wr.heap.size, 0, none⟩) (tlen R) (k + k)] 22)
      have hs5 := r5.size
      have hs8 := a8.size
      have hrl := r4.lt
      have hgl : gb < wr.heap.size := (a7.lt gb rfl).2
      obtain ⟨hi, hz0, hz1, hz2⟩ := HI.out
      have HV : Hid (tlen R = tlen R ∧ val R = val ps * val ps ∧ val ps = 10 ^ (9 * 2 ^ (L - 1)) ∧ U32 R ∧ R.length = k + k ∧ Row w1 wr.heap.size 55 .u32 R ∧ Below wr.heap.size wr w1 ∧ Below w.heap.size w wr) := ⟨rfl, r3, a5, r2, r1, r4, r5, a8⟩
      clear r3 a5 r2 r4 r5 a8 a1 a2 a3 a4 a6 H
      go_wp2_with (at_builtin; refine wpList_append_lies _ rfl _ _ 72 rfl w.heap.size 22 i0 (.slice none 0 0) 1 24 Tryd.underlying72 hi hz0 hz1 hz2 rfl (by decide) (.slice (some ⟨gb, 0, none⟩) L Lc) L xs rfl hown ⟨w1.heap.size, 0, none⟩ 1 1 [.slice (some ⟨wr.heap.size, 0, none⟩) (tlen R) (k + k)] rfl rfl (cell_one_new _ _ _) (fun x hx => by simp at hx; subst hx; rfl) (by decide) (by unfold maxLen; omega) (by omega) (by simp; omega) _ rfl ?_; intro g cap w3 hown3 hgrow3 hat3 hlt3)
      obtain ⟨_, v1, v2, v3, v4, v5, v6, v7⟩ := HV.out
      have hvR : val R = 10 ^ (9 * 2 ^ (L + 1 - 1)) := by rw [v1, v2, ten_sq L hL1, Nat.add_sub_cancel]
      have hpos : 0 < tlen R := by
        rcases Nat.eq_zero_or_pos (tlen R) with h | h
        · have h2 := (tlen_zero_iff v3).1 h
          rw [hvR] at h2
          exact absurd h2 (Int.ne_of_gt (Int.pow_pos (by decide)))
        · exact h
      have hne : wr.heap.size ≠ gb := by omega
      have hw3 : Below w.heap.size w w3 := ((v7.trans (v6.mono hs8)).alloc (by omega) _).grown hgrow3 (by simp; omega) (fun k hk => by simp [Value.ownBlock] at hk; subst hk; exact (a7.lt gb rfl).1)
      refine ⟨⟨wr.heap.size, tlen R, k + k, g, L + 1, cap, tr R, xs ++ [.slice (some ⟨wr.heap.size, 0, none⟩) (tlen R) (k + k)], rfl, rfl, by omega, by omega, by omega, by omega, hpos, ?_, length_tr R, u32_tr v3, tlen_tr R, by rw [val_tr]; exact hvR, ?_, hown3, hw3⟩, by simp; omega⟩
      · rcases hat3 with h | h
        · simp [Value.ownBlock] at h; omega
        · rw [h]; simp; omega
      · refine ((v5.alloc _).rd_take (tlen R)).kept hgrow3 (fun a ha => ?_)
        cases ha
        simp [Value.ownBlock]; omega
    · have hc : ¬ (2 * (k : Int) - 1) ≤ n := by omega
      go_wp2
      go_ret
      obtain ⟨a1, a2, a3, a4, a5, a6, a7, a8⟩ := H.out
      exact ⟨_, L, Lc, rfl, hL1, hL7, chunk_enough a3 a4 hk0 a5 hL1 (by omega), a8⟩
end Go.Proofs.YtongkalfdgleaaaDoor
