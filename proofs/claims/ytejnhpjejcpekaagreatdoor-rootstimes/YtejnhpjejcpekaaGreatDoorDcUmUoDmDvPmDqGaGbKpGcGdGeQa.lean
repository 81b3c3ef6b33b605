/-
  Plain: lists that read alike; ashlarref1.Of for entries below 0.
-/
import Derived.Test.YtejnhpjejcpekaaGreatDoorRkVq
import Derived.Test.YtejnhpjejcpekaaGreatDoorUlDdReRxRf
import Derived.Test.YtejnhpjejcpekaaGreatDoorUfUgUjBsLeUkUiWiWj
import Derived.Test.YtejnhpjejcpekaaGreatDoorBbCvNjUbUcUdOwRaWmBe
import Derived.Test.YtejnhpjejcpekaaGreatDoorWgUe
import Derived.Test.YtejnhpjejcpekaaGreatDoorPl
import Derived.Test.YtejnhpjejcpekaaGreatDoorWhPnWkWlBx
import Derived.Lib.EndianBits
import Derived.Test.YtejnhpjejcpekaaGreatDoorMmWa
import Derived.Test.YtejnhpjejcpekaaGreatDoorRdLnWrIb
namespace Go.Proofs.YtejnhpjejcpekaaGreatDoor
open Go.RowKit
set_option linter.unusedVariables false
set_option linter.unusedSimpArgs false
set_option maxHeartbeats 8000000
theorem tlen_same {a b : List Int} (h : ∀ j, gx a j = gx b j) : tlen a = tlen b := by
  refine tlen_eq _ _ (fun j hj => by rw [h]; exact tlen_zero b j hj) ?_
  rcases Nat.eq_zero_or_pos (tlen b) with h0 | h0
  · exact .inl h0
  · exact .inr (by rw [h]; exact tlen_top b h0)
theorem tr_same {a b : List Int} (h : ∀ j, gx a j = gx b j) : tr a = tr b := by
  refine gx_ext _ _ (by rw [length_tr, length_tr, tlen_same h]) fun j hj => ?_
  rw [gx_tr, gx_tr, h]
theorem gx_pz0 (op : Int → Int → Int) (h0 : op 0 0 = 0) (zs ys : List Int) (j : Nat) : gx (pz op zs ys) j = op (gx zs j) (gx ys j) := by
  rcases Nat.lt_or_ge j (max zs.length ys.length) with h | h
  · exact gx_pz' op zs ys j h
  · rw [gx_past _ (max zs.length ys.length) (by rw [length_pz]; exact Nat.le_refl _) j h, gx_past zs zs.length (Nat.le_refl _) j (by omega), gx_past ys ys.length (Nat.le_refl _) j (by omega), h0]
theorem pz_sub (zs ys : List Int) : tr (pz (· + ·) zs (tr (ys.map (-1 * ·)))) = tr (pz (· - ·) zs ys) := by
  refine tr_same fun j => ?_
  rw [gx_pz0 _ rfl, gx_pz0 _ rfl, gx_tr, gx_map0 (-1 * ·) rfl]
  omega
theorem rOf_n (a : Int) (w : World) (h0 : -9223372036854775808 ≤ a) (h1 : a ≤ 9223372036854775807) :
    Calls Tryz.prog 41 #[.int .i64 a] w fun r w' => ∃ u : Ent, r = .returned (.agg #[.bool u.s, .slice u.p u.n u.c]) ∧ RE w' 4 a u ∧ Go.Proofs.YtejnhpjejcpekaaGreatDoor.From w.heap.size u.p ∧ Below w.heap.size w w' := by
  refine (rOf_any a w h0 h1).mono ?_
  rintro e w1 ⟨s1, p1, n1, d1, rfl, hR1, hv1, hn1, hF1, hb1⟩
  exact ⟨⟨s1, p1, n1, n1⟩, rfl, ⟨⟨d1, hR1, hv1, hn1⟩, rfl⟩, hF1, hb1⟩
def mulz (zs ys : List Int) : List Int := (List.range (zs.length + ys.length - 1)).map (ps zs ys zs.length)
theorem length_mulz (zs ys : List Int) : (mulz zs ys).length = zs.length + ys.length - 1 := by simp [mulz]
theorem gx_mulz (zs ys : List Int) (t : Nat) (h : t < zs.length + ys.length - 1) : gx (mulz zs ys) t = ps zs ys zs.length t := by
  rw [gx_mem _ _ (by rw [length_mulz]; exact h)]
  simp [mulz]
theorem ps_far (zs ys : List Int) (t : Nat) : ∀ i, i + ys.length ≤ t + 1 → ps zs ys i t = 0
  | 0, _ => rfl
  | i + 1, h => by
    rw [ps, ps_far zs ys t i (by omega), gx_past ys ys.length (Nat.le_refl _) (t - i) (by omega)]
    simp
theorem mulz_top {zs ys : List Int} (h1 : tlen zs = zs.length) (h2 : tlen ys = ys.length) (hz : 0 < zs.length) (hy : 0 < ys.length) : tlen (mulz zs ys) = zs.length + ys.length - 1 := by
  refine tlen_eq _ _ (fun j hj => gx_past _ _ (by rw [length_mulz]; exact Nat.le_refl _) j hj) (.inr ?_)
  rw [gx_mulz _ _ _ (by omega)]
  obtain ⟨a, ha⟩ : ∃ a, zs.length = a + 1 := ⟨zs.length - 1, by omega⟩
  rw [ha, ps, ps_far _ _ _ _ (by omega), if_pos (by omega)]
  have e1 := tlen_top zs (by omega)
  have e2 := tlen_top ys (by omega)
  rw [h1, ha] at e1
  rw [h2] at e2
  have e3 : a + 1 + ys.length - 1 - 1 - a = ys.length - 1 := by omega
  rw [e3]
  have e4 : a + 1 - 1 = a := by omega
  rw [e4] at e1
  rw [Int.zero_add]
  exact Int.mul_ne_zero e1 e2
def mulp (zs ys : List Int) : List Int := if zs.length = 0 ∨ ys.length = 0 then [] else mulz zs ys
theorem ps_past (zs ys : List Int) (t : Nat) : ∀ m, ps zs ys (zs.length + m) t = ps zs ys zs.length t
  | 0 => rfl
  | m + 1 => by rw [← Nat.add_assoc, ps_none zs ys _ t (gx_past zs _ (Nat.le_refl _) _ (by omega)), ps_past zs ys t m]
theorem ps_late (zs ys : List Int) (t : Nat) : ∀ m, ps zs ys (t + 1 + m) t = ps zs ys (t + 1) t
  | 0 => rfl
  | m + 1 => by
    rw [← Nat.add_assoc, ps, ps_late zs ys t m, if_neg (by omega), Int.add_zero]
theorem ps_nil (zs : List Int) (t : Nat) : ∀ i, ps zs [] i t = 0
  | 0 => rfl
  | i + 1 => by rw [ps, ps_nil zs t i]; simp [gx]
theorem gx_mulp (zs ys : List Int) (t : Nat) : gx (mulp zs ys) t = ps zs ys (t + 1) t := by
  have h0 : ps zs ys (t + 1) t = ps zs ys zs.length t := by
    have h1 := ps_late zs ys t (zs.length)
    have h2 := ps_past zs ys t (t + 1)
    rw [Nat.add_comm] at h2
    rw [← h1, h2]
  rw [h0, mulp]
  by_cases h : zs.length = 0 ∨ ys.length = 0
  · rw [if_pos h]
    rcases h with h | h
    · rw [h]; rfl
    · rw [List.eq_nil_of_length_eq_zero h, ps_nil]; rfl
  · rw [if_neg h]
    rcases Nat.lt_or_ge t (zs.length + ys.length - 1) with h1 | h1
    · rw [gx_mulz _ _ _ h1]
    · rw [gx_past _ (zs.length + ys.length - 1) (by rw [length_mulz]; exact Nat.le_refl _) t h1, ps_far zs ys t zs.length (by omega)]
theorem Sub_ev {w : World} {K L : Nat} {x y : Int} {e f : Ent} (h : EV w K x e) (k : EV w L y f) : Calls Tryz.prog 114 #[.agg #[.bool e.s, .slice e.p e.n e.c], .agg #[.bool f.s, .slice f.p f.n f.c]] w fun r w' => ∃ u : Ent, r = .returned (.agg #[.bool u.s, .slice u.p u.n u.c]) ∧ NV w.heap.size w' (K + L + 1) (x - y) u ∧ Below w.heap.size w w' := by
  obtain ⟨xs, h1, rfl, h3⟩ := h
  obtain ⟨ys, k1, rfl, k3⟩ := k
  refine (Sub_any e.s f.s e.p f.p e.n e.c f.n f.c xs ys w h1 k1).mono ?_
  rintro r w' ⟨s', p', n', zs, g1, g2, g3, g4⟩
  exact ⟨⟨s', p', n', n'⟩, g1, ⟨zs, g2, rfl, by show n' ≤ _; omega⟩, g4⟩
structure Kp (g h : Nat) (w w' : World) : Prop where
  block : ∀ k, k < w.heap.size → k ≠ g → k ≠ h → w'.heap[k]? = w.heap[k]?
  os : w'.os = w.os
  tape : w'.tape = w.tape
  output : w'.output = w.output
  size : w.heap.size ≤ w'.heap.size
theorem Kp.refl (g h : Nat) (w : World) : Kp g h w w := ⟨fun _ _ _ _ => rfl, rfl, rfl, rfl, Nat.le_refl _⟩
theorem Kp.set2 {g h : Nat} {w w1 : World} (k : Kp g h w w1) (j : Nat) (v : Value) : Kp g h w (w1.setCell ⟨h, j, none⟩ v) :=
  ⟨fun i hi a b => (heap_setCell_other w1 ⟨h, j, none⟩ i v b).trans (k.block i hi a b), k.os, k.tape, k.output, by simp [World.setCell]; exact k.size⟩
theorem Kp.drew {g h : Nat} {w w1 : World} (k : Kp g h w w1) : Kp g h w w1.drew := ⟨k.block, k.os, k.tape, k.output, k.size⟩
theorem Kp.alloc {g h : Nat} {w w1 : World} (k : Kp g h w w1) (o : Obj) : Kp g h w (w1.alloc o) :=
  ⟨fun i hi a b => (Below.heap_alloc w1 o i (Nat.lt_of_lt_of_le hi k.size)).trans (k.block i hi a b), k.os, k.tape, k.output, by simp; have := k.size; omega⟩
def Good (a b aa ab ba bb : Int) : Prop :=
  -1073741824 < aa ∧ aa < 1073741824 ∧ -1073741824 < ab ∧ ab < 1073741824 ∧ -1073741824 < ba ∧ ba < 1073741824 ∧ -1073741824 < bb ∧ bb < 1073741824 ∧ 0 ≤ ba * a + bb * b ∧ ba * a + bb * b < aa * a + ab * b ∧ aa * a + ab * b ≤ b ∧ Int.gcd (aa * a + ab * b) (ba * a + bb * b) = Int.gcd a b
def TTPost (g o n : Nat) (Z R vs : List Int) (d : Int) (w : World) (e : Ending) (w' : World) : Prop :=
  ∃ (R' : List Int) (lk : Bool), e = .returned (.bool lk) ∧ R'.length = n + 1 ∧ U32 R' ∧ Hid (val R' = val R - d * val vs + (if lk then pw (n + 1) else 0)) ∧ Row w' g 88 .u32 (mid Z o R') ∧ w.grownBy w' (some g)
theorem takeTimes_any (g o cap : Nat) (Z R : List Int) (p : Option Addr) (n nc : Nat) (vs : List Int) (d : Int) (w : World)
    (hz : o + (n + 1) ≤ Z.length) (hcap : cap ≤ 1099511627776) (hn : n + 1 ≤ cap) (hRl : R.length = n + 1) (hR : Row w g 88 .u32 (mid Z o R)) (hU : U32 R) (hv : vs.length = n)
    (hV : Rd w p .u32 vs) (hVu : U32 vs) (hoff : 0 < n → Off g p) (hd0 : 0 ≤ d) (hd1 : d < 4294967296) :
    Calls Tryz.prog 344 #[.slice (some ⟨g, o, none⟩) (n + 1) cap, .slice p n nc, .int .u64 d] w (TTPost g o n Z R vs d w) := by
  have HN : Hid (R.length = n + 1 ∧ vs.length = n) := ⟨hRl, hv⟩
  clear hRl hv
  go_enter Tryz.func344, Tryz.ntmps344
  go_wp2
  go_loopw [7, 15] (fun cv iv wr => ∃ (i : Nat) (c : Int) (T : List Int), i ≤ n ∧ iv = .int .i64 i ∧ cv = .int .u64 c ∧ 0 ≤ c ∧ c < 4294967296 ∧ Hid (T.length = n + 1 ∧ U32 T ∧ val T = val R - d * val (vs.take i) + pw i * c ∧ Row wr g 88 .u32 (mid Z o T) ∧ w.grownBy wr (some g))) (fun _ iv _ => n - (intOf iv).toNat)
  case atStart => exact ⟨0, 0, R, Nat.zero_le _, rfl, rfl, by decide, by decide, HN.out.1, hU, by simp [val], hR, grownBy_refl _ _⟩
  case round =>
    obtain ⟨i, c, T, hi, rfl, rfl, hc0, hc1, HT⟩ := hrel
    by_cases hlt : i < n
    · have hltI : (i : Int) < (n : Int) := by omega
      obtain ⟨hl, hu, hval, hr, hg⟩ := HT.out
      obtain ⟨b, off, rfl, hcell⟩ := (hV.keptOff hg (hoff (by omega))) (by have := HN.out; omega)
      have hcv := hcell i (by have := HN.out; omega)
      have hct := hr.mid_cell (by omega) i (by omega)
      have hfz := hr.frozen (o + i)
      obtain ⟨bt0, bt1⟩ := hu i
      obtain ⟨bm0, bm1⟩ := mul_bd (⟨hd0, hd1⟩ : 0 ≤ d ∧ d < 4294967296) (hVu i)
      have bm2 : d * gx vs i ≤ 18446744065119617025 := bm1
      obtain ⟨bv0, bv1⟩ := hVu i
      have hi1 : (i : Int) < (n : Int) + 1 := by omega
      clear hl hu hval hr hg hcell
      by_cases hb : gx T i < (d * gx vs i + c) % 4294967296
      · have q1 : IntKind.u32.wrap (gx T i - (d * gx vs i + c) % 4294967296) = gx T i - (d * gx vs i + c) % 4294967296 + 4294967296 := by rw [IntKind.wrap_u32']; omega
        go_wp2
        obtain ⟨hl, hu, hval, hr, hg⟩ := HT.out
        refine ⟨⟨i + 1, _, T.set i (gx T i - (d * gx vs i + c) % 4294967296 + 4294967296), by omega, by go_num, rfl, by omega, by omega, by rw [List.length_set]; exact hl, u32_set hu _ (by omega), ?_, hr.mid_set (by omega) i (by omega) _, grownBy_setCell hg _ _⟩, by simp [intOf]; omega⟩
        rw [val_set T _ _ (by omega), val_take_succ vs i (by have := HN.out; omega), pw_succ, hval]
        have e := cut_step (pw i) (d * gx vs i + c)
        have e2 : d * (val (vs.take i) + pw i * gx vs i) = d * val (vs.take i) + pw i * (d * gx vs i) := by
          rw [Int.mul_add]; congr 1; simp only [Int.mul_assoc, Int.mul_left_comm]
        rw [e2]
        simp only [Int.mul_add, Int.mul_sub] at e ⊢
        omega
      · have q1 : IntKind.u32.wrap (gx T i - (d * gx vs i + c) % 4294967296) = gx T i - (d * gx vs i + c) % 4294967296 := by rw [IntKind.wrap_u32']; omega
        go_wp2
        obtain ⟨hl, hu, hval, hr, hg⟩ := HT.out
        refine ⟨⟨i + 1, _, T.set i (gx T i - (d * gx vs i + c) % 4294967296), by omega, by go_num, rfl, by omega, by omega, by rw [List.length_set]; exact hl, u32_set hu _ (by omega), ?_, hr.mid_set (by omega) i (by omega) _, grownBy_setCell hg _ _⟩, by simp [intOf]; omega⟩
        rw [val_set T _ _ (by omega), val_take_succ vs i (by have := HN.out; omega), pw_succ, hval]
        have e := cut_step (pw i) (d * gx vs i + c)
        have e2 : d * (val (vs.take i) + pw i * gx vs i) = d * val (vs.take i) + pw i * (d * gx vs i) := by
          rw [Int.mul_add]; congr 1; simp only [Int.mul_assoc, Int.mul_left_comm]
        rw [e2]
        simp only [Int.mul_add, Int.mul_sub] at e ⊢
        omega
    · obtain rfl : i = n := by omega
      have hltI : ¬ (i : Int) < (i : Int) := by omega
      obtain ⟨hl, hu, hval, hr, hg⟩ := HT.out
      have hct := hr.mid_cell (by omega) i (by omega)
      have hfz := hr.frozen (o + i)
      obtain ⟨bt0, bt1⟩ := hu i
      clear hl hu hval hr hg
      by_cases hb : gx T i < c
      · have q1 : IntKind.u32.wrap (gx T i - c) = gx T i - c + 4294967296 := by rw [IntKind.wrap_u32']; omega
        go_wp2
        go_ret
        obtain ⟨hl, hu, hval, hr, hg⟩ := HT.out
        refine ⟨T.set i (gx T i - c + 4294967296), true, rfl, by rw [List.length_set]; exact hl, u32_set hu _ (by omega), ?_, hr.mid_set (by omega) i (by omega) _, grownBy_setCell hg _ _⟩
        show _ = _
        rw [val_set T _ _ (by omega), hval, List.take_of_length_le (by have := HN.out; omega), if_pos rfl, pw_succ]
        simp only [Int.mul_add, Int.mul_sub]
        omega
      · have q1 : IntKind.u32.wrap (gx T i - c) = gx T i - c := by rw [IntKind.wrap_u32']; omega
        go_wp2
        go_ret
        obtain ⟨hl, hu, hval, hr, hg⟩ := HT.out
        refine ⟨T.set i (gx T i - c), false, rfl, by rw [List.length_set]; exact hl, u32_set hu _ (by omega), ?_, hr.mid_set (by omega) i (by omega) _, grownBy_setCell hg _ _⟩
        show _ = _
        rw [val_set T _ _ (by omega), hval, List.take_of_length_le (by have := HN.out; omega), if_neg (by decide)]
        simp only [Int.mul_sub]
        omega
end Go.Proofs.YtejnhpjejcpekaaGreatDoor
