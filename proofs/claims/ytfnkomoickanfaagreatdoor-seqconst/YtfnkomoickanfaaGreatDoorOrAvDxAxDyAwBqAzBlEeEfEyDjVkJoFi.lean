/-
  math/bits.Mul64; the totals of package estimate, and its Times.
-/
import Derived.Test.YtfnkomoickanfaaGreatDoorProg
import Derived.Test.YtfnkomoickanfaaGreatDoorD3GaGbKpGcGd
import Derived.Lib.Mul64
import Derived.Laws.Bits64b
import Derived.Deep.DeepFit
import Derived.StillTailTactics
import Derived.Test.YtfnkomoickanfaaGreatDoorFeZeZfLhLjOiZgZhWnWoWpBgBfZiZnZpRqYiFf
import Derived.Test.YtfnkomoickanfaaGreatDoorMmWaWbWc
import Derived.Test.YtfnkomoickanfaaGreatDoorVtVyVzD1DhVvVnVcDu
import Derived.Test.YtfnkomoickanfaaGreatDoorWdWeNi
import Derived.Deep.DeepCutAuto
import Derived.Deep.RegionHeld3
import Derived.Test.YtfnkomoickanfaaGreatDoorAcDsAe
import Derived.Test.YtfnkomoickanfaaGreatDoorAfBpBnBoAhAdDtAgWvUhAiAjCuOaOfJp
import Derived.Test.YtfnkomoickanfaaGreatDoorD4PcRtVe
import Derived.Test.YtfnkomoickanfaaGreatDoorUgUjLeUkUiWiWjUlDd
import Derived.Test.YtfnkomoickanfaaGreatDoorGe
import Derived.Test.YtfnkomoickanfaaGreatDoorD0BsReRxRfRhCqRrRwVaVg
import Derived.Test.YtfnkomoickanfaaGreatDoorUaWhPnWkWlBxBb
import Derived.Test.YtfnkomoickanfaaGreatDoorCvNjUbUcUdOwRaWmBeRd
import Derived.Test.YtfnkomoickanfaaGreatDoorCyViVuWxUpUqRm
import Derived.Test.YtfnkomoickanfaaGreatDoorZsYdFaFdZjCwYh
import Derived.Test.YtfnkomoickanfaaGreatDoorRoVbDaCxRb
namespace Go.Proofs.YtfnkomoickanfaaGreatDoor
open Go.RowKit
set_option linter.unusedVariables false
set_option linter.unusedSimpArgs false
set_option maxHeartbeats 8000000
def tmf (c x : Int) : Int := min (c * max x 1) 4611686018427387904
def tms (xs : List Int) : Int := xs.foldl tmf 1
theorem tms_take (c : Int) (xs : List Int) (k : Nat) (h : k < xs.length) : (xs.take (k + 1)).foldl tmf c = tmf ((xs.take k).foldl tmf c) (gx xs k) := by
  rw [List.take_succ_eq_append_getElem h, List.foldl_append, gx_mem xs k h]
  rfl
theorem tmf_bd {c x : Int} (h0 : 1 ≤ c) : 1 ≤ tmf c x ∧ tmf c x ≤ 4611686018427387904 := by
  have h := Int.mul_le_mul h0 (Int.le_max_right x 1) (by decide) (by omega)
  unfold tmf
  omega
theorem tms_bd : ∀ (xs : List Int) (c : Int), 1 ≤ c → c ≤ 4611686018427387904 → 1 ≤ xs.foldl tmf c ∧ xs.foldl tmf c ≤ 4611686018427387904
  | [], c, h0, h1 => ⟨h0, h1⟩
  | x :: xs, c, h0, h1 => tms_bd xs (tmf c x) (tmf_bd h0).1 (tmf_bd h0).2
theorem Kp.cells {r : Nat} {a b : World} (h : Kp r r a b) {x : Addr} {v : Value} (hx : x.block ≠ r) (hc : a.cell? x = some v) : b.cell? x = some v :=
  (World.cell?_of_block (h.block x.block (block_lt_of_cell hc) hx hx)).trans hc
theorem Kp.bel {r B : Nat} {w0 a b : World} (h : Kp r r a b) (hB : Below B w0 a) (h1 : B ≤ r) (h2 : B ≤ a.heap.size) : Below B w0 b :=
  ⟨h.os.trans hB.os, h.tape.trans hB.tape, h.output.trans hB.output, Nat.le_trans hB.size h.size, fun k hk => (h.block k (by omega) (by omega) (by omega)).trans (hB.block k hk)⟩
theorem fold_take (f : Int → Int → Int) (c : Int) (xs : List Int) (k : Nat) (h : k < xs.length) : (xs.take (k + 1)).foldl f c = f ((xs.take k).foldl f c) (gx xs k) := by
  rw [List.take_succ_eq_append_getElem h, List.foldl_append, gx_mem xs k h]
  rfl
theorem fold_inv (f : Int → Int → Int) (P Q : Int → Prop) (hP : ∀ c x, P c → Q x → P (f c x)) : ∀ (xs : List Int) (c : Int), P c → (∀ x ∈ xs, Q x) → P (xs.foldl f c)
  | [], c, h, _ => h
  | x :: xs, c, h, hq => fold_inv f P Q hP xs (f c x) (hP c x h (hq x (by simp))) fun y hy => hq y (by simp [hy])
def smf (c x : Int) : Int := min (c + x) 4611686018427387904
def sms (xs : List Int) : Int := xs.foldl smf 0
def pmf (c x : Int) : Int := min (c * x) 4611686018427387904
theorem smf_bd (c x : Int) (h : 0 ≤ c ∧ c ≤ 4611686018427387904) (hx : 0 ≤ x ∧ x ≤ 9223372036854775807) : 0 ≤ smf c x ∧ smf c x ≤ 4611686018427387904 := by unfold smf; omega
theorem pmf_bd (c x : Int) (h : 0 ≤ c ∧ c ≤ 4611686018427387904) (hx : 0 ≤ x ∧ x ≤ 9223372036854775807) : 0 ≤ pmf c x ∧ pmf c x ≤ 4611686018427387904 := by
  have := Int.mul_nonneg h.1 hx.1
  unfold pmf
  omega
def InT (c : Int) : Prop := 0 ≤ c ∧ c ≤ 4611686018427387904
def InI (c : Int) : Prop := 0 ≤ c ∧ c ≤ 9223372036854775807
theorem rBy_any {w : World} (a b : Int) (ha : 1 ≤ a) (ha' : a ≤ 4611686018427387904) (hb : 1 ≤ b) :
    Calls Tryz.prog 76 #[.int .i64 a, .int .i64 b] w fun e w' => e = .returned (.int .i64 (min (a * b) 4611686018427387904)) ∧ w' = w := by
  have i1 : ¬ (4611686018427387904 < a) := by omega
  have i2 : (a != 0) = true := by rw [bne_iff_ne]; omega
  have i5 : a ≠ 0 := by omega
  have key : b ≤ 4611686018427387904 / a ↔ b * a ≤ 4611686018427387904 := Int.le_ediv_iff_mul_le (by omega)
  rw [Int.mul_comm b a] at key
  have hpos : 1 ≤ a * b := Int.mul_le_mul ha hb (by decide) (by omega)
  rcases Int.lt_or_le (4611686018427387904 / a) b with h | h
  · have HE : Hid (min (a * b) 4611686018427387904 = 4611686018427387904) := by
      have : ¬ a * b ≤ 4611686018427387904 := fun hh => by have := key.2 hh; omega
      show min (a * b) 4611686018427387904 = 4611686018427387904
      omega
    clear key hpos
    rw [HE.out]
    go_enter Tryz.func76, Tryz.ntmps76
    go_wp2
    go_ret
    exact ⟨rfl, rfl⟩
  · have h' := key.1 h
    have HE : Hid (min (a * b) 4611686018427387904 = a * b) := by
      show min (a * b) 4611686018427387904 = a * b
      omega
    have i4 : wrap64 (a * b) = a * b := by unfold wrap64; omega
    have i3 : ¬ (4611686018427387904 / a < b) := by omega
    clear key hpos h h'
    rw [HE.out]
    go_enter Tryz.func76, Tryz.ntmps76
    go_wp2
    go_ret
    exact ⟨rfl, rfl⟩
set_option maxRecDepth 100000 in
theorem rTimes_any {w : World} {p : Option Addr} {n nc : Nat} {xs : List Int} (hl : xs.length = n) (hX : Rd w p .i64 xs) (hn : n ≤ 1000000) :
    Calls Tryz.prog 73 #[.slice p n nc] w fun e w' => e = .returned (.int .i64 (tms xs)) ∧ w' = w := by
  have HX : Hid (xs.length = n ∧ Rd w p .i64 xs) := ⟨hl, hX⟩
  clear hl hX
  go_enter Tryz.func73, Tryz.ntmps73
  go_wp2_with fail
  go_loopw [3, 4] (fun cv iv wr => ∃ k : Nat, k ≤ n ∧ iv = .int .i64 k ∧ cv = .int .i64 (tms (xs.take k)) ∧ wr = w) (fun _ iv _ => n - (intOf iv).toNat)
  case atStart => exact ⟨0, Nat.zero_le _, by go_num, rfl, rfl⟩
  case round =>
    obtain ⟨k, hk, rfl, rfl, rfl⟩ := hrel
    obtain ⟨hl, hX⟩ := HX.out
    obtain ⟨d1, d2⟩ := tms_bd (xs.take k) 1 (by decide) (by decide)
    rcases Nat.lt_or_ge k n with hlt | hge
    · obtain ⟨b, o, hp, hc⟩ := hX (by omega)
      subst hp
      have c0 := hc k (by omega)
      have HP : Hid (tms (xs.take (k + 1)) = tmf (tms (xs.take k)) (gx xs k)) := tms_take 1 xs k (by omega)
      generalize gx xs k = x at *
      have d1' : 1 ≤ tms (xs.take k) := d1
      have d2' : tms (xs.take k) ≤ 4611686018427387904 := d2
      clear d1 d2
      generalize tms (xs.take k) = c at *
      have i1 : (k : Int) < (n : Int) := by omega
      clear hc hl hX
      rcases Int.lt_or_le 1 x with h1 | h1
      · have HP' : Hid (tms (xs.take (k + 1)) = min (c * x) 4611686018427387904) := by
          have h3 : max x 1 = x := by omega
          have h4 := HP.out
          unfold tmf at h4
          rw [h3] at h4
          exact h4
        clear HP
        go_wp2_with fail
        refine (rBy_any c x d1' d2' (by omega)).mono ?_
        rintro e w1 ⟨rfl, rfl⟩
        go_wp2_with fail
        refine ⟨⟨k + 1, by omega, by go_num, by rw [HP'.out], by first | rfl | trivial⟩, by simp [intOf]; omega⟩
      · have h2 : ¬ (1 < x) := by omega
        have HP' : Hid (tms (xs.take (k + 1)) = c) := by
          have h3 : max x 1 = 1 := by omega
          have h4 := HP.out
          unfold tmf at h4
          rw [h3, Int.mul_one] at h4
          show tms (xs.take (k + 1)) = c
          omega
        go_wp2_with fail
        refine ⟨⟨k + 1, by omega, by go_num, by rw [HP'.out], by first | rfl | trivial⟩, by simp [intOf]; omega⟩
    · obtain rfl : k = n := by omega
      have HE : Hid (tms (xs.take k) = tms xs) := by rw [List.take_of_length_le (by omega)]; rfl
      have i1 : ¬ (k : Int) < (k : Int) := by omega
      clear hX hl d1 d2
      go_wp2
      go_ret
      exact ⟨by rw [← HE.out]; rfl, rfl⟩
theorem rPlus_any {w : World} (a b : Int) (ha : InT a) (hb : InT b) :
    Calls Tryz.prog 74 #[.int .i64 a, .int .i64 b] w fun e w' => e = .returned (.int .i64 (smf a b)) ∧ w' = w := by
  unfold InT at ha hb
  have v1 : wrap64 (4611686018427387904 - b) = 4611686018427387904 - b := by unfold wrap64; omega
  rcases Int.lt_or_le (4611686018427387904 - b) a with h | h
  · have HE : Hid (smf a b = 4611686018427387904) := by show smf a b = _; unfold smf; omega
    rw [HE.out]
    go_enter Tryz.func74, Tryz.ntmps74
    go_wp2
    go_ret
    exact ⟨rfl, rfl⟩
  · have HE : Hid (smf a b = a + b) := by show smf a b = _; unfold smf; omega
    have h' : ¬ 4611686018427387904 - b < a := by omega
    have v2 : wrap64 (a + b) = a + b := by unfold wrap64; omega
    rw [HE.out]
    go_enter Tryz.func74, Tryz.ntmps74
    go_wp2
    go_ret
    exact ⟨rfl, rfl⟩
theorem rBy0_any {w : World} (a b : Int) (ha : InT a) (hb : InI b) :
    Calls Tryz.prog 76 #[.int .i64 a, .int .i64 b] w fun e w' => e = .returned (.int .i64 (pmf a b)) ∧ Below w.heap.size w w' := by
  rcases Int.lt_or_le 0 a with h0 | h0
  · rcases Int.lt_or_le 0 b with h1 | h1
    · refine (rBy_any a b (by omega) ha.2 (by omega)).mono ?_
      rintro e w' ⟨rfl, rfl⟩
      exact ⟨rfl, Below.refl _ _⟩
    · obtain rfl : b = 0 := by have := hb.1; omega
      have i1 : ¬ (4611686018427387904 < a) := by have := ha.2; omega
      have i2 : (a != 0) = true := by rw [bne_iff_ne]; omega
      have i5 : a ≠ 0 := by omega
      have hp : 0 ≤ 4611686018427387904 / a := Int.ediv_nonneg (by decide) (by omega)
      have i3 : ¬ (4611686018427387904 / a < 0) := by omega
      have HE : Hid (pmf a 0 = 0) := by show pmf a 0 = 0; unfold pmf; rw [Int.mul_zero]; rfl
      rw [HE.out]
      clear hp
      go_enter Tryz.func76, Tryz.ntmps76
      go_wp2
      go_ret
      exact ⟨rfl, Below.refl _ _⟩
  · obtain rfl : a = 0 := by have := ha.1; omega
    have HE : Hid (pmf 0 b = 0) := by show pmf 0 b = 0; unfold pmf; rw [Int.zero_mul]; rfl
    rw [HE.out]
    go_enter Tryz.func76, Tryz.ntmps76
    go_wp2
    go_ret
    exact ⟨rfl, Below.refl _ _⟩
set_option maxRecDepth 100000 in
theorem rSum_any {w : World} {p : Option Addr} {n nc : Nat} {xs : List Int} (hl : xs.length = n) (hX : Rd w p .i64 xs) (hn : n ≤ 1000000) (hx : ∀ x ∈ xs, InT x) :
    Calls Tryz.prog 75 #[.slice p n nc] w fun e w' => e = .returned (.int .i64 (sms xs)) ∧ w' = w := by
  have HX : Hid (xs.length = n ∧ Rd w p .i64 xs ∧ ∀ x ∈ xs, InT x) := ⟨hl, hX, hx⟩
  clear hl hX hx
  go_enter Tryz.func75, Tryz.ntmps75
  go_wp2_with fail
  go_loopw [3, 4] (fun cv iv wr => ∃ k : Nat, k ≤ n ∧ iv = .int .i64 k ∧ cv = .int .i64 (sms (xs.take k)) ∧ wr = w) (fun _ iv _ => n - (intOf iv).toNat)
  case atStart => exact ⟨0, Nat.zero_le _, by go_num, rfl, rfl⟩
  case round =>
    obtain ⟨k, hk, rfl, rfl, rfl⟩ := hrel
    obtain ⟨hl, hX, hx⟩ := HX.out
    rcases Nat.lt_or_ge k n with hlt | hge
    · obtain ⟨b, o, hp, hc⟩ := hX (by omega)
      subst hp
      have c0 := hc k (by omega)
      have HT : Hid (sms (xs.take (k + 1)) = smf (sms (xs.take k)) (gx xs k)) := fold_take smf 0 xs k (by omega)
      have hT : InT (sms (xs.take k)) := fold_inv smf InT InT (fun c x h1 h2 => smf_bd c x h1 ⟨h2.1, by have := h2.2; omega⟩) _ 0 ⟨by decide, by decide⟩ fun x hx' => hx x (List.mem_of_mem_take hx')
      have hg : InT (gx xs k) := by rw [gx_mem xs k (by omega)]; exact hx _ (List.getElem_mem _)
      have hpl := rPlus_any (w := wr) _ _ hT hg
      have i1 : (k : Int) < (n : Int) := by omega
      clear hl hX hx hc hT hg
      generalize gx xs k = x at *
      generalize sms (xs.take k) = c at *
      go_wp2_with fail
      go_fit hpl
      rintro e w1 ⟨rfl, hw⟩
      subst w1
      clear hpl
      go_wp2_with fail
      refine ⟨⟨k + 1, by omega, by go_num, by rw [HT.out], by first | rfl | trivial⟩, by simp [intOf]; omega⟩
    · obtain rfl : k = n := by omega
      have HE : Hid (sms (xs.take k) = sms xs) := by rw [List.take_of_length_le (by omega)]; rfl
      have i1 : ¬ (k : Int) < (k : Int) := by omega
      clear hX hl hx
      go_wp2
      go_ret
      exact ⟨by rw [← HE.out]; rfl, rfl⟩
def lay (listed : Array Bool) (vals : Nat → Value) : List (Nat × Nat) → Array Value → Array Value
  | [], t => t
  | (i, d) :: l, t => lay listed vals l (if listed.getD i false = true then t.setIfInBounds d (vals i) else t)
theorem lay_comm (listed : Array Bool) (vals : Nat → Value) (d : Nat) (v : Value) : ∀ (l : List (Nat × Nat)) (t : Array Value), d ∉ l.map Prod.snd → lay listed vals l (t.setIfInBounds d v) = (lay listed vals l t).setIfInBounds d v
  | [], t, _ => rfl
  | (i, e) :: l, t, h => by
    simp only [List.map_cons, List.mem_cons, not_or] at h
    rw [lay, lay]
    split
    · rw [← lay_comm listed vals d v l _ h.2, Array.setIfInBounds_comm _ _ h.1]
    · exact lay_comm listed vals d v l t h.2
theorem lay_other (listed : Array Bool) (vals : Nat → Value) (s : Nat) : ∀ (l : List (Nat × Nat)) (t : Array Value), s ∉ l.map Prod.snd → (lay listed vals l t).getD s undef = t.getD s undef
  | [], t, _ => rfl
  | (i, e) :: l, t, h => by
    simp only [List.map_cons, List.mem_cons, not_or] at h
    rw [lay, lay_other listed vals s l _ h.2]
    split
    · simp [Array.getElem?_setIfInBounds, Ne.symm h.1]
    · rfl
theorem lay_size (listed : Array Bool) (vals : Nat → Value) : ∀ (l : List (Nat × Nat)) (t : Array Value), (lay listed vals l t).size = t.size
  | [], t => rfl
  | (i, e) :: l, t => by
    rw [lay, lay_size listed vals l]
    split <;> simp
theorem lay_at (listed : Array Bool) (vals : Nat → Value) (i d : Nat) (hi : listed.getD i false = true) : ∀ (l : List (Nat × Nat)) (t : Array Value), (l.map Prod.snd).Nodup → (i, d) ∈ l → d < t.size → (lay listed vals l t).getD d undef = vals i
  | [], t, _, h, _ => by cases h
  | (j, e) :: l, t, hn, h, hd => by
    simp only [List.map_cons, List.nodup_cons] at hn
    rw [lay]
    rcases List.mem_cons.1 h with h1 | h1
    · cases h1
      rw [if_pos hi, lay_other listed vals d l _ hn.1]
      simp [hd]
    · refine lay_at listed vals i d hi l _ hn.2 h1 ?_
      split <;> simpa using hd
theorem lay_same (listed : Array Bool) (vals : Nat → Value) (j : Nat) (v : Value) : ∀ (l : List (Nat × Nat)) (t : Array Value), j ∉ l.map Prod.fst → lay (listed.setIfInBounds j true) (fun i => if i = j then v else vals i) l t = lay listed vals l t
  | [], t, _ => rfl
  | (i, e) :: l, t, h => by
    simp only [List.map_cons, List.mem_cons, not_or] at h
    have h1 : (listed.setIfInBounds j true).getD i false = listed.getD i false := by simp [Array.getElem?_setIfInBounds, h.1]
    rw [lay, lay, h1, if_neg (Ne.symm h.1), lay_same listed vals j v l _ h.2]
theorem lay_put (listed : Array Bool) (vals : Nat → Value) (j d : Nat) (v : Value) (hj : listed.getD j true = false) : ∀ (l : List (Nat × Nat)) (t : Array Value), (l.map Prod.fst).Nodup → (l.map Prod.snd).Nodup → (j, d) ∈ l → lay (listed.setIfInBounds j true) (fun i => if i = j then v else vals i) l t = (lay listed vals l t).setIfInBounds d v
  | [], t, _, _, h => by cases h
  | (i, e) :: l, t, hf, hs, h => by
    simp only [List.map_cons, List.nodup_cons] at hf hs
    have hlt : j < listed.size := by
      rcases Nat.lt_or_ge j listed.size with h' | h'
      · exact h'
      · simp [Array.getElem?_eq_none h'] at hj
    have hj' : listed.getD j false = false := by simpa [hlt] using hj
    have hnew : (listed.setIfInBounds j true).getD j false = true := by simp [hlt]
    rw [lay, lay]
    rcases List.mem_cons.1 h with h1 | h1
    · cases h1
      rw [if_pos hnew, if_pos rfl, hj', if_neg (by decide), lay_same listed vals j v l _ hf.1, lay_comm listed vals d v l t hs.1]
    · have hij : i ≠ j := fun e' => hf.1 (by rw [e']; exact List.mem_map.2 ⟨(j, d), h1, rfl⟩)
      have h2 : (listed.setIfInBounds j true).getD i false = listed.getD i false := by simp [Array.getElem?_setIfInBounds, Ne.symm hij]
      rw [h2, if_neg hij]
      exact lay_put listed vals j d v hj l _ hf.2 hs.2 h1
section
variable {P : Program} {ops : Array Oper} {Q : Exit → Act → World → Prop}
end
inductive Ans where
  | val (v : Value)
  | row (n : Nat) (xs : List Int)
def Ans.is : Ans → Value → World → Prop
  | .val v0, v, _ => v = v0
  | .row n xs, v, w => ∃ b, v = .slice (some ⟨b, 0, none⟩) n n ∧ Rd w (some ⟨b, 0, none⟩) .i64 xs
theorem Ans.later {a : Ans} {v : Value} {w w' : World} (h : a.is v w) (hb : Below w.heap.size w w') : a.is v w' := by
  cases a with
  | val v0 => exact h
  | row n xs =>
    obtain ⟨b, h1, h2⟩ := h
    exact ⟨b, h1, h2.below hb⟩
section
variable {P : Program} {Q : Exit → Act → World → Prop} {W : World} {t0 : Array Value} {dl : List (Nat × Nat)} {ans : List Ans} {i : Nat} {o : Oper}
end
theorem rd_lit (w : World) (xs : List Int) (t : TypeId) : Rd (w.alloc (.cells ((xs.map (Value.int .i64)).toArray) t)) (some ⟨w.heap.size, 0, none⟩) .i64 xs := fun _ => ⟨w.heap.size, 0, rfl, fun j hj => by
  simp only [World.cell?, heap_alloc_new, Nat.zero_add]
  simp [gx, hj]⟩
set_option maxRecDepth 100000 in
theorem rDegree8_any {w : World} {B T N E D : Nat} {l : List (List Int)} {h : Hdr} (H : HR D (EY N E) w B T l h) (hT : T ≤ w.heap.size) (hD : D ≤ 1000000) (hE : E ≤ 1000000) :
    Calls Tryz.prog 33 #[.slice h.p h.n h.c] w fun e w' => e = .returned (.int .i64 (odeg l)) ∧ Below w.heap.size w w' := by
  obtain ⟨hs, k⟩ := H
  have HX : Hid (HRow D (EY N E) w B T l h hs ∧ T ≤ w.heap.size) := ⟨k, hT⟩
  have hn : h.n ≤ D := k.few
  have HL : Hid (l.length = h.n) := k.tl
  obtain ⟨p, n, nc⟩ := h
  simp only at hn HL ⊢
  clear k hT
  go_enter Tryz.func33, Tryz.ntmps33
  go_wp2_with fail
  go_loopw [3, 4] (fun mv kv wr => ∃ i : Nat, i ≤ n ∧ mv = .int .i64 (odeg (l.take i)) ∧ kv = .int .i64 i ∧ Hid (Below w.heap.size w wr)) (fun _ kv _ => n - (intOf kv).toNat)
  case atStart => exact ⟨0, Nat.zero_le _, by simp [odeg], by go_num, Below.refl _ _⟩
  case round =>
    obtain ⟨i, hi, rfl, rfl, G⟩ := hrel
    rcases Nat.lt_or_ge i n with hlt | hge
    · have g4 := G.out
      obtain ⟨b, o, hp, hc⟩ := HX.out.1.hl (by rw [HX.out.1.el]; show 0 < n; omega)
      simp only at hp
      subst hp
      have c0 := hc i (by rw [HX.out.1.el]; exact hlt)
      have c1 : wr.cell? ⟨b, o + i, none⟩ = some (gh hs i).val := cell_later' g4 c0
      obtain ⟨es2, -, -, ht2, hd3, -⟩ := HX.out.1.ev i hlt
      have HT : Hid (odeg (l.take (i + 1)) = max (odeg (l.take i)) (((gh hs i).n : Int) - 1)) := by rw [← ht2]; exact odeg_take l i (by have := HL.out; omega)
      generalize gh hs i = hd at c1 hd3 HT
      obtain ⟨p2, n2, nc2⟩ := hd
      simp only [Hdr.val] at c1 hd3 HT
      have i1 : (i : Int) < (n : Int) := by omega
      have hcall := fun w' => rpDeg_any p2 n2 nc2 w' (by omega)
      obtain ⟨M, hM⟩ : ∃ M, odeg (l.take (i + 1)) = M := ⟨_, rfl⟩
      have HEQ := (show Hid _ from hM)
      rw [hM] at HT
      obtain ⟨t, ht⟩ : ∃ t, (n2 : Int) - 1 = t := ⟨_, rfl⟩
      rw [ht] at HT
      simp only [ht] at hcall
      generalize odeg (l.take i) = d at *
      clear hc c0 g4 hM ht ht2
      go_wp2_with fail
      go_fit (hcall _)
      rintro e w1 ⟨rfl, hb1⟩
      have HB1 : Hid (Below w.heap.size w w1) := bnext' G.out hb1
      clear c1 hcall hb1
      by_cases hdt : d < t
      · obtain rfl : t = M := by have := HT.out; omega
        go_wp2
        go_roundw
        case rel => exact ⟨i + 1, by omega, by rw [HEQ.out], by go_num, HB1.out⟩
        case measure => simp [intOf]; omega
      · obtain rfl : d = M := by have := HT.out; omega
        go_wp2
        go_roundw
        case rel => exact ⟨i + 1, by omega, by rw [HEQ.out], by go_num, HB1.out⟩
        case measure => simp [intOf]; omega
    · obtain rfl : i = n := by omega
      have i1 : ¬ (i : Int) < (i : Int) := by omega
      have HZ : Hid (l.take i = l) := List.take_of_length_le (by have := HL.out; omega)
      go_wp2
      go_ret
      exact ⟨by rw [HZ.out]; rfl, G.out⟩
set_option maxRecDepth 100000 in
theorem rBits8_any {w : World} {B T N E D : Nat} {l : List (List Int)} {h : Hdr} (H : HR D (EY N E) w B T l h) (hT : T ≤ w.heap.size) (hD : D ≤ 1000000) (hE : E ≤ 1000000) (hN : N ≤ 1000) :
    Calls Tryz.prog 114 #[.slice h.p h.n h.c] w fun e w' => e = .returned (.int .i64 (obit l)) ∧ Below w.heap.size w w' := by
  obtain ⟨hs, k⟩ := H
  have HX : Hid (HRow D (EY N E) w B T l h hs ∧ T ≤ w.heap.size) := ⟨k, hT⟩
  have hn : h.n ≤ D := k.few
  have HL : Hid (l.length = h.n) := k.tl
  obtain ⟨p, n, nc⟩ := h
  simp only at hn HL ⊢
  clear k hT
  go_enter Tryz.func114, Tryz.ntmps114
  go_wp2_with fail
  go_loopw [3, 4] (fun mv kv wr => ∃ i : Nat, i ≤ n ∧ mv = .int .i64 (obit (l.take i)) ∧ kv = .int .i64 i ∧ Hid (Below w.heap.size w wr)) (fun _ kv _ => n - (intOf kv).toNat)
  case atStart => exact ⟨0, Nat.zero_le _, by simp [obit], by go_num, Below.refl _ _⟩
  case round =>
    obtain ⟨i, hi, rfl, rfl, G⟩ := hrel
    rcases Nat.lt_or_ge i n with hlt | hge
    · have g4 := G.out
      obtain ⟨b, o, hp, hc⟩ := HX.out.1.hl (by rw [HX.out.1.el]; show 0 < n; omega)
      simp only at hp
      subst hp
      have c0 := hc i (by rw [HX.out.1.el]; exact hlt)
      have c1 : wr.cell? ⟨b, o + i, none⟩ = some (gh hs i).val := cell_later' g4 c0
      have hE2 := (lasts_EY N E).below (HX.out.1.ev i hlt) HX.out.2 g4
      have HT : Hid (obit (l.take (i + 1)) = max (obit (l.take i)) (pb (gt l i))) := obit_take l i (by have := HL.out; omega)
      generalize gh hs i = hd at c1 hE2
      obtain ⟨p2, n2, nc2⟩ := hd
      obtain ⟨es2, hP2, -, -, hd3, -⟩ := hE2
      simp only [Hdr.val] at c1 hd3 hP2
      have i1 : (i : Int) < (n : Int) := by omega
      have hcall := rpBits_any hP2 hN (by omega)
      obtain ⟨M, hM⟩ : ∃ M, obit (l.take (i + 1)) = M := ⟨_, rfl⟩
      have HEQ := (show Hid _ from hM)
      rw [hM] at HT
      generalize pb (gt l i) = t at *
      generalize obit (l.take i) = d at *
      clear hc c0 g4 hM hP2
      go_wp2_with fail
      go_fit hcall
      rintro e w1 ⟨rfl, hb1⟩
      have HB1 : Hid (Below w.heap.size w w1) := bnext' G.out hb1
      clear c1 hcall hb1
      by_cases hdt : d < t
      · obtain rfl : t = M := by have := HT.out; omega
        have i5 : (d : Int) < (t : Int) := by omega
        go_wp2
        go_roundw
        case rel => exact ⟨i + 1, by omega, by rw [HEQ.out], by go_num, HB1.out⟩
        case measure => simp [intOf]; omega
      · obtain rfl : d = M := by have := HT.out; omega
        have i5 : ¬ (d : Int) < (t : Int) := by omega
        go_wp2
        go_roundw
        case rel => exact ⟨i + 1, by omega, by rw [HEQ.out], by go_num, HB1.out⟩
        case measure => simp [intOf]; omega
    · obtain rfl : i = n := by omega
      have i1 : ¬ (i : Int) < (i : Int) := by omega
      have HZ : Hid (l.take i = l) := List.take_of_length_le (by have := HL.out; omega)
      go_wp2
      go_ret
      exact ⟨by rw [HZ.out]; rfl, G.out⟩
def rszO (l : List (List Int)) : Int := if l.length = 0 then 0 else (l.length : Int) - 1
def rszD (l : List (List Int)) : Int := if l.length = 0 then 0 else odeg l
def rszB (l : List (List Int)) : Int := if l.length = 0 then 0 else (obit l : Int)
set_option maxRecDepth 100000 in
theorem rSize8_any {w : World} {B T N E D : Nat} {l : List (List Int)} {h : Hdr} (H : HR D (EY N E) w B T l h) (hT : T ≤ w.heap.size) (hD : D ≤ 1000000) (hE : E ≤ 1000000) (hN : N ≤ 1000) :
    Calls Tryz.prog 70 #[.slice h.p h.n h.c] w fun e w' => e = .returned (.tuple #[.int .i64 (rszO l), .int .i64 (rszD l), .int .i64 (rszB l)]) ∧ Below w.heap.size w w' := by
  have h2 := fun w' (hb : Below w.heap.size w w') => rDegree8_any ((lasts_HR (lasts_EY N E)).below H hT hb) (Nat.le_trans hT hb.size) hD hE
  have h3 := fun w' (hb : Below w.heap.size w w') => rBits8_any ((lasts_HR (lasts_EY N E)).below H hT hb) (Nat.le_trans hT hb.size) hD hE hN
  have hl : l.length = h.n ∧ h.n ≤ 1000000 := by obtain ⟨_, k⟩ := H; exact ⟨k.tl, Nat.le_trans k.few hD⟩
  have hO : rszO l = if h.n = 0 then 0 else (h.n : Int) - 1 := by rw [rszO, hl.1]
  have hD' : rszD l = if h.n = 0 then 0 else odeg l := by rw [rszD, hl.1]
  have hB : rszB l = if h.n = 0 then 0 else (obit l : Int) := by rw [rszB, hl.1]
  rw [hO, hD', hB]
  obtain ⟨p, n, nc⟩ := h
  have hn := hl.2
  simp only at h2 h3 hn ⊢
  clear H hT hl hO hD' hB
  generalize odeg l = d at *
  generalize (obit l : Int) = k at *
  rcases Nat.eq_zero_or_pos n with h0 | h0
  · subst h0
    go_enter Tryz.func70, Tryz.ntmps70
    go_wp2
    refine bodyPost_ret (v := .tuple #[.int .i64 0, .int .i64 0, .int .i64 0]) (by simp [results, Tryz.results70, go_sem]) rfl ⟨rfl, Below.refl _ _⟩
  · have i1 : ((n : Int) == 0) = false := by rw [beq_eq_false_iff_ne]; omega
    have i2 : ¬ (n : Int) = 0 := by omega
    have i3 : ¬ n = 0 := by omega
    rw [if_neg i3, if_neg i3, if_neg i3]
    have hor := rOrder8_any w p n nc hn
    generalize (n : Int) - 1 = r at *
    go_enter Tryz.func70, Tryz.ntmps70
    go_wp2_with fail
    go_fit hor
    rintro e w1 ⟨rfl, hw⟩
    subst w1
    have h2' := h2 w (Below.refl _ _)
    go_wp2_with fail
    go_fit h2'
    rintro e w2 ⟨rfl, hb2⟩
    have h3' := h3 w2 hb2
    go_wp2_with fail
    go_fit h3'
    rintro e w3 ⟨rfl, hb3⟩
    have HB : Hid (Below w.heap.size w w3) := bnext' hb2 hb3
    clear h2 h3 h2' h3' hb2 hb3 hor
    go_wp2
    refine bodyPost_ret (v := .tuple #[.int .i64 r, .int .i64 d, .int .i64 k]) (by simp [results, Tryz.results70, go_sem]) rfl ⟨rfl, HB.out⟩
theorem rtimes_lit {w : World} {b : Nat} (xs : List Int) (n : Nat) (hl : xs.length = n) (hn : n ≤ 100) (h : Rd w (some ⟨b, 0, none⟩) .i64 xs) (hx : ∀ x ∈ xs, InI x) :
    Calls Tryz.prog 73 #[.slice (some ⟨b, 0, none⟩) n n] w fun e w' => e = .returned (.int .i64 (tms xs)) ∧ Below w.heap.size w w' :=
  (rTimes_any hl h (by omega)).mono fun e w' ⟨a, b⟩ => ⟨a, by rw [b]; exact Below.refl _ _⟩
theorem rsum_lit {w : World} {b : Nat} (xs : List Int) (n : Nat) (hl : xs.length = n) (hn : n ≤ 100) (h : Rd w (some ⟨b, 0, none⟩) .i64 xs) (hx : ∀ x ∈ xs, InT x) :
    Calls Tryz.prog 75 #[.slice (some ⟨b, 0, none⟩) n n] w fun e w' => e = .returned (.int .i64 (sms xs)) ∧ Below w.heap.size w w' :=
  (rSum_any hl h (by omega) hx).mono fun e w' ⟨a, b⟩ => ⟨a, by rw [b]; exact Below.refl _ _⟩
def SzB (x : List (List Int)) : Prop := (0 ≤ rszO x ∧ rszO x ≤ 1000000) ∧ (0 ≤ rszD x ∧ rszD x ≤ 1000000) ∧ (0 ≤ rszB x ∧ rszB x ≤ 1000000000)
theorem inT_small {x : Int} (h0 : 0 ≤ x) (h1 : x ≤ 1000000000000) : InT x := ⟨h0, by omega⟩
theorem inI_small {x : Int} (h0 : 0 ≤ x) (h1 : x ≤ 1000000000000) : InI x := ⟨h0, by omega⟩
theorem sms_inT {xs : List Int} (h : ∀ x ∈ xs, InT x) : InT (sms xs) := by
  have := fold_inv smf InT InI smf_bd xs 0 ⟨by decide, by decide⟩ (fun x hx => ⟨(h x hx).1, by have := (h x hx).2; omega⟩)
  exact this
theorem len_ib {x : Int} (h : InI x) : IB (Lib.bitLen x.toNat) x := by
  have h2 := h.2
  have hib := bitLenAux_ib 64 x.toNat (by omega)
  rwa [Int.toNat_of_nonneg h.1] at hib
theorem len_zb {x : Int} (h : InI x) : Lib.bitLen x.toNat = zb x := by
  have h1 := len_ib h
  have h2 := zb_ib x
  rw [show (x.natAbs : Int) = x by have := h.1; omega] at h2
  exact h1.uniq h2
theorem blen_le {x : Int} (h : InI x) : (Lib.bitLen x.toNat : Int) ≤ 64 := by
  have h1 := len_ib h
  rcases h1.2.2 with h2 | h2
  · omega
  · rcases Nat.lt_or_ge 64 (Lib.bitLen x.toNat) with h3 | h3
    · exfalso
      have h4 : (2 : Int) ^ 64 ≤ 2 ^ (Lib.bitLen x.toNat - 1) := p2_mono (by omega)
      have h5 := h.2
      omega
    · omega
end Go.Proofs.YtfnkomoickanfaaGreatDoor
