/-
  limbs.isNumeral: which texts are numerals.
-/
import Derived.Test.YtgdbhgpabehcfaaDoorWo
namespace Go.Proofs.YtgdbhgpabehcfaaDoor
open Go.RowKit
set_option linter.unusedVariables false
set_option linter.unusedSimpArgs false

/-- Bytes as integers. -/
def bz (l : List UInt8) : List Int := l.map fun c => (c.toNat : Int)
theorem length_bz (l : List UInt8) : (bz l).length = l.length := by simp [bz]
theorem gx_bz (l : List UInt8) (k : Nat) (h : k < l.length) (h' : k < (⟨l.toArray⟩ : ByteArray).size) : (((⟨l.toArray⟩ : ByteArray)[k]'h').toNat : Int) = gx (bz l) k := by
  rw [gx_mem _ _ (by rw [length_bz]; exact h)]
  simp [bz, ByteArray.getElem_eq_getElem_data]
theorem bz_cons (c : UInt8) (r : List UInt8) : bz (c :: r) = (c.toNat : Int) :: bz r := rfl
theorem size_bl (l : List UInt8) : (⟨l.toArray⟩ : ByteArray).size = l.length := by simp [ByteArray.size]
theorem ba_eq (l m : List UInt8) : ((⟨l.toArray⟩ : ByteArray) = ⟨m.toArray⟩) ↔ l = m := by simp
/-- Decimal digits. -/
def dgs (l : List UInt8) : Prop := ∀ j, j < l.length → 48 ≤ gx (bz l) j ∧ gx (bz l) j ≤ 57
/-- A numeral. -/
def numeral (l : List UInt8) : Prop := dgs l ∧ (l = [48] ∨ (l ≠ [] ∧ gx (bz l) 0 ≠ 48))

/-- What isNumeral answers. -/
def NumPost (l : List UInt8) (w : World) (e : Ending) (w' : World) : Prop := ∃ b : Bool, e = .returned (.bool b) ∧ (b = true ↔ numeral l) ∧ w = w'

set_option maxHeartbeats 1000000 in
theorem isNumeral_any (l : List UInt8) (w : World) (hl : l.length ≤ 1000000) :
    Calls Tryd.prog 44 #[.string ⟨l.toArray⟩] w (NumPost l w) := by
  go_enter Tryd.func44, Tryd.ntmps44
  go_wp2
  go_loop [6] (fun iv => ∃ k : Nat, k ≤ l.length ∧ iv = .int .i64 k ∧ Hid (∀ j, j < k → 48 ≤ gx (bz l) j ∧ gx (bz l) j ≤ 57)) (fun iv => (l.length - intOf iv).toNat)
  case atStart => exact ⟨0, Nat.zero_le _, by go_num, fun j hj => by omega⟩
  case round =>
    obtain ⟨k, hk, rfl, H⟩ := hrel
    by_cases hlt : k < l.length
    · have hg := gx_bz l k hlt (by rw [size_bl]; exact hlt)
      by_cases h1 : gx (bz l) k < 48
      · go_wp2
        go_ret
        exact ⟨false, rfl, ⟨(fun h => by cases h), fun h => by have := h.1 k hlt; omega⟩, rfl⟩
      · by_cases h2 : 57 < gx (bz l) k
        · go_wp2
          go_ret
          exact ⟨false, rfl, ⟨(fun h => by cases h), fun h => by have := h.1 k hlt; omega⟩, rfl⟩
        · go_wp2
          refine ⟨⟨k + 1, by omega, by go_num, fun j hj => ?_⟩, by simp [intOf]; omega⟩
          rcases Nat.lt_or_ge j k with h | h
          · exact H.out j h
          · obtain rfl : j = k := by omega
            omega
    · obtain rfl : k = l.length := by omega
      clear hlt hk
      have hd : dgs l := H.out
      have HD : Hid (dgs l) := hd
      clear hd H
      by_cases h1 : l = []
      · subst h1
        go_wp2
        go_ret
        exact ⟨false, rfl, ⟨(fun h => by cases h), fun h => by rcases h.2 with h | h; cases h; exact absurd rfl h.1⟩, rfl⟩
      · by_cases h2 : l = [48]
        · subst h2
          go_wp2
          go_ret
          exact ⟨true, rfl, ⟨fun _ => ⟨HD.out, .inl rfl⟩, fun _ => rfl⟩, rfl⟩
        · have e1 : (l == [48]) = false := by simpa using h2
          have e2 : l.isEmpty = false := by simpa using h1
          have e3 : 0 < l.length := List.length_pos_iff.2 h1
          have hg := gx_bz l 0 e3 (by rw [size_bl]; exact e3)
          have HN : Hid (l ≠ [] ∧ l ≠ [48]) := ⟨h1, h2⟩
          clear h1 h2
          by_cases h3 : gx (bz l) 0 = 48
          · have e4 : (gx (bz l) 0 != 48) = false := by simpa using h3
            have H3 : Hid (gx (bz l) 0 = 48) := h3
            clear h3
            go_wp2
            go_ret
            exact ⟨false, rfl, ⟨(fun h => by cases h), fun h => by rcases h.2 with h | h; exact absurd h HN.out.2; exact absurd H3.out h.2⟩, rfl⟩
          · have e4 : (gx (bz l) 0 != 48) = true := by simpa using h3
            have H3 : Hid (gx (bz l) 0 ≠ 48) := h3
            clear h3
            go_wp2
            go_ret
            exact ⟨true, rfl, ⟨fun _ => ⟨HD.out, .inr ⟨HN.out.1, H3.out⟩⟩, fun _ => rfl⟩, rfl⟩

/-- What CutPrefix of "-" answers. -/
def PrePost (l : List UInt8) (w : World) (e : Ending) (w' : World) : Prop := (∃ r, l = 45 :: r ∧ e = .returned (.tuple #[.string ⟨r.toArray⟩, .bool true]) ∧ w = w') ∨ ((∀ r, l ≠ 45 :: r) ∧ e = .returned (.tuple #[.string ⟨l.toArray⟩, .bool false]) ∧ w = w')

set_option maxHeartbeats 1000000 in
theorem HasPrefix_minus (l : List UInt8) (w : World) (hl : l.length ≤ maxLen) :
    Calls Tryd.prog 93 #[.string ⟨l.toArray⟩, .string ⟨#[45]⟩] w fun e w' => e = .returned (.bool (l.head? == some 45)) ∧ w = w' := by
  unfold maxLen at hl
  cases l with
  | nil =>
    go_enter Tryd.func93, Tryd.ntmps93
    go_wp2
    go_ret
    exact ⟨rfl, rfl⟩
  | cons c r =>
    go_enter Tryd.func93, Tryd.ntmps93
    go_wp2
    go_ret
    refine ⟨?_, rfl⟩
    have e : ((⟨(c :: r).toArray⟩ : ByteArray).extract 0 1).toList = [c] := by
      rw [ByteArray.extract_mk]
      simp [go_sem]
    show Ending.returned (.bool (((⟨(c :: r).toArray⟩ : ByteArray).extract 0 1).toList == [45])) = _
    rw [e]
    simp

set_option maxHeartbeats 1000000 in
theorem CutPrefix_lite (l : List UInt8) (w : World) (hl : l.length ≤ maxLen) :
    Calls Tryd.prog 69 #[.string ⟨l.toArray⟩, .string ⟨#[45]⟩] w (PrePost l w) := by
  by_cases h : ∃ r, l = 45 :: r
  · obtain ⟨r, rfl⟩ := h
    have hp := HasPrefix_minus (45 :: r) w hl
    unfold maxLen at hl
    simp only [List.length_cons] at hl
    go_enter Tryd.func69, Tryd.ntmps69
    go_wp2_with fail
    refine hp.mono ?_
    rintro e w' ⟨rfl, rfl⟩
    clear hp
    go_wp2
    go_ret2
    exact .inl ⟨r, rfl, by rw [extract_one]; rfl, rfl⟩
  · have hp := HasPrefix_minus l w hl
    have hh : (l.head? == some 45) = false := by
      cases l with
      | nil => rfl
      | cons c r => simp; intro e; exact h ⟨r, by rw [e]⟩
    rw [hh] at hp
    have HN : Hid (∀ r, l ≠ 45 :: r) := fun r e => h ⟨r, e⟩
    clear h hh
    go_enter Tryd.func69, Tryd.ntmps69
    go_wp2_with fail
    refine hp.mono ?_
    rintro e w' ⟨rfl, rfl⟩
    clear hp
    go_wp2
    go_ret2
    exact .inr ⟨HN.out, rfl, rfl⟩

set_option maxHeartbeats 1000000 in
/-- strings.CutPrefix of "-". -/
theorem CutPrefix_minus (l : List UInt8) (w : World) (hl : l.length ≤ maxLen) :
    Calls Tryd.prog 43 #[.string ⟨l.toArray⟩, .string ⟨#[45]⟩] w (PrePost l w) := by
  go_enter Tryd.func43, Tryd.ntmps43
  go_wp2_with fail
  refine (CutPrefix_lite l w hl).mono ?_
  rintro e w' (⟨r, hr, rfl, rfl⟩ | ⟨hr, rfl, rfl⟩)
  · have HN : Hid (l = 45 :: r) := hr
    clear hr
    go_wp2
    go_ret2
    exact .inl ⟨r, HN.out, rfl, rfl⟩
  · have HN : Hid (∀ r, l ≠ 45 :: r) := hr
    clear hr
    go_wp2
    go_ret2
    exact .inr ⟨HN.out, rfl, rfl⟩

end Go.Proofs.YtgdbhgpabehcfaaDoor
