/-
  How slices of integers lie in memory: what is read, what is owned whole.
-/
import Derived.Test.YtfnkomoickanfaaGreatDoorPl
import Derived.Deep.QuietTactic
import Derived.BigQuiet
import Derived.Laws.CopyOwn
import Derived.Deep.AppendLies
import Derived.Deep.RegionHeld3
import Derived.Deep.MidRow
import Derived.Deep.WholeRow
import Derived.Test.YtfnkomoickanfaaGreatDoorProg
namespace Go.Proofs.YtfnkomoickanfaaGreatDoor
open Go.RowKit
set_option linter.unusedVariables false
set_option linter.unusedSimpArgs false
set_option maxHeartbeats 8000000
def Rd (w : World) (p : Option Addr) (k : IntKind) (xs : List Int) : Prop :=
  0 < xs.length → ∃ b off, p = some ⟨b, off, none⟩ ∧ ∀ j, j < xs.length → w.cell? ⟨b, off + j, none⟩ = some (.int k (gx xs j))
def ca (k : IntKind) (xs : List Int) : Array Value := (xs.map (Value.int k)).toArray
def Row (w : World) (g : Nat) (e : TypeId) (k : IntKind) (xs : List Int) : Prop := w.heap[g]? = some (.cells (ca k xs) e (0, 0))
def From (B : Nat) (p : Option Addr) : Prop := ∀ a, p = some a → B ≤ a.block
def Off (g : Nat) (p : Option Addr) : Prop := ∀ a, p = some a → a.block ≠ g
section
variable {w w' : World} {g : Nat} {e : TypeId} {k : IntKind} {xs : List Int} {p : Option Addr}
theorem Row.lt (h : Row w g e k xs) : g < w.heap.size := (Array.getElem?_eq_some_iff.1 h).1
theorem Row.cell (h : Row w g e k xs) (j : Nat) (hj : j < xs.length) : w.cell? ⟨g, j, none⟩ = some (.int k (gx xs j)) := by
  rw [cell_of_row w g j _ e (0, 0) h, gx_mem xs j hj]; simp [ca, hj]
theorem Row.frozen (h : Row w g e k xs) (j : Nat) : w.frozen? ⟨g, j, none⟩ = false := frozen_of_row w g j _ e h
theorem Row.set (h : Row w g e k xs) (j : Nat) (v : Int) : Row (w.setCell ⟨g, j, none⟩ (.int k v)) g e k (xs.set j v) := by
  unfold Row
  rw [heap_setCell_same w g j _ e _ h]
  simp [ca, List.map_set]
theorem Row.kept {row : Option Nat} (h : Row w g e k xs) (hg : w.grownBy w' row) (hne : some g ≠ row) : Row w' g e k xs := (hg.block g h.lt hne).trans h
theorem Row.below {B : Nat} (h : Row w g e k xs) (hb : Below B w w') (hg : g < B) : Row w' g e k xs := (hb.block g hg).trans h
theorem Row.drew (h : Row w g e k xs) : Row w.drew g e k xs := h
theorem Row.alloc (h : Row w g e k xs) (o : Obj) : Row (w.alloc o) g e k xs := (Below.heap_alloc w o g h.lt).trans h
theorem Row.new (w : World) (e : TypeId) (k : IntKind) (xs : List Int) : Row (w.alloc (.cells (ca k xs) e)) w.heap.size e k xs := heap_alloc_new w _
theorem Row.set_other (h : Row w g e k xs) (a : Addr) (v : Value) (hne : g ≠ a.block) : Row (w.setCell a v) g e k xs := (heap_setCell_other w a g v hne).trans h
theorem Row.rd (h : Row w g e k xs) (o n : Nat) (hn : o + n ≤ xs.length) : Rd w (some ⟨g, o, none⟩) k ((xs.drop o).take n) := fun _ =>
  ⟨g, o, rfl, fun j hj => by
    have hj' : j < n := by simp at hj; omega
    rw [gx_take _ _ _ hj', gx_drop]
    exact h.cell (o + j) (by omega)⟩
theorem Row.rd_all (h : Row w g e k xs) : Rd w (some ⟨g, 0, none⟩) k xs := fun _ => ⟨g, 0, rfl, fun j hj => by rw [Nat.zero_add]; exact h.cell j hj⟩
theorem Row.rd_take (h : Row w g e k xs) (n : Nat) : Rd w (some ⟨g, 0, none⟩) k (xs.take n) := fun _ => ⟨g, 0, rfl, fun j hj => by
  have : j < n ∧ j < xs.length := by simp at hj; omega
  rw [Nat.zero_add, gx_take _ _ _ this.1]; exact h.cell j this.2⟩
theorem Row.step {Z new : List Int} {o : Nat} (h : Row w g e k (Z.take o ++ new ++ Z.drop (o + new.length))) (hl : o + new.length < Z.length) (v : Int) :
    Row (w.setCell ⟨g, o + new.length, none⟩ (.int k v)) g e k (Z.take o ++ (new ++ [v]) ++ Z.drop (o + (new ++ [v]).length)) := by
  have := h.set (o + new.length) v
  rw [row_set Z new o _ hl] at this
  simpa using this
theorem Row.at {Z new : List Int} {o j : Nat} (h : Row w g e k (Z.take o ++ new ++ Z.drop (o + new.length))) (hl : o + new.length ≤ Z.length) (hj : o + new.length ≤ j) (hj' : j < Z.length) :
    w.cell? ⟨g, j, none⟩ = some (.int k (gx Z j)) := by
  have := h.cell j (by rw [row_length Z new o hl]; exact hj')
  rwa [row_gx Z new o j hl hj] at this
theorem Rd.nil : Rd w p k [] := fun h => by simp at h
theorem Rd.lt (h : Rd w p k xs) (hx : 0 < xs.length) : ∃ b off, p = some ⟨b, off, none⟩ ∧ b < w.heap.size := by
  obtain ⟨b, off, hp, hc⟩ := h hx
  exact ⟨b, off, hp, block_lt_of_cell (hc 0 hx)⟩
theorem Rd.same (h : Rd w p k xs) (hs : ∀ a, p = some a → a.block < w.heap.size → w'.heap[a.block]? = w.heap[a.block]?) : Rd w' p k xs := fun hx => by
  obtain ⟨b, off, hp, hc⟩ := h hx
  refine ⟨b, off, hp, fun j hj => ?_⟩
  have hlt : b < w.heap.size := block_lt_of_cell (hc 0 hx)
  rw [← hc j hj]
  exact World.cell?_of_block (a := ⟨b, off + j, none⟩) (hs ⟨b, off, none⟩ hp hlt)
theorem Rd.kept {row : Option Nat} (h : Rd w p k xs) (hg : w.grownBy w' row) (hne : ∀ a, p = some a → some a.block ≠ row) : Rd w' p k xs :=
  h.same fun a ha hlt => hg.block a.block hlt (hne a ha)
theorem Rd.keptOff (h : Rd w p k xs) (hg : w.grownBy w' (some g)) (hne : Off g p) : Rd w' p k xs :=
  h.kept hg fun a ha e => hne a ha (Option.some.inj e)
theorem Rd.below (h : Rd w p k xs) (hb : Below w.heap.size w w') : Rd w' p k xs := h.same fun a _ hlt => hb.block a.block hlt
theorem Rd.off (h : Rd w p k xs) (hg : w.heap.size ≤ g) (hx : 0 < xs.length) : Off g p := fun a ha e => by
  obtain ⟨b, off, hp, hlt⟩ := h.lt hx
  rw [hp] at ha
  cases ha
  simp at e; omega
theorem Rd.drew (h : Rd w p k xs) : Rd w.drew p k xs := h
theorem Rd.alloc (h : Rd w p k xs) (o : Obj) : Rd (w.alloc o) p k xs := h.same fun a _ hlt => Below.heap_alloc w o a.block hlt
theorem Rd.set_other (h : Rd w p k xs) (a : Addr) (v : Value) (hne : Off a.block p) : Rd (w.setCell a v) p k xs := h.same fun b hb _ => heap_setCell_other w a b.block v (hne b hb)
theorem Rd.take (h : Rd w p k xs) (n : Nat) : Rd w p k (xs.take n) := fun hx => by
  obtain ⟨b, off, hp, hc⟩ := h (by simp at hx; omega)
  refine ⟨b, off, hp, fun j hj => ?_⟩
  have : j < n ∧ j < xs.length := by simp at hj; omega
  rw [gx_take _ _ _ this.1]; exact hc j this.2
theorem Rd.tr (h : Rd w p k xs) : Rd w p k (tr xs) := h.take _
end
def Fz (w : World) (p : Option Addr) : Prop := ∀ a, p = some a → a.block < w.heap.size ∧ ∀ j, w.frozen? ⟨a.block, j, none⟩ = false
theorem Row.fz {w : World} {g : Nat} {e : TypeId} {k : IntKind} {xs : List Int} (h : Row w g e k xs) (o : Nat) : Fz w (some ⟨g, o, none⟩) := fun a ha => by cases ha; exact ⟨h.lt, h.frozen⟩
theorem Fz.nil (w : World) : Fz w none := fun a ha => by cases ha
theorem Fz.below {w w' : World} {p : Option Addr} (h : Fz w p) (hb : Below w.heap.size w w') : Fz w' p := fun a ha => ⟨Nat.lt_of_lt_of_le (h a ha).1 hb.size, fun j => (hb.frozen (p := ⟨a.block, j, none⟩) (h a ha).1).trans ((h a ha).2 j)⟩
theorem Fz.set {w : World} {p : Option Addr} (h : Fz w p) (b : Addr) (v : Value) : Fz (w.setCell b v) p := fun a ha => ⟨by simpa [World.setCell] using (h a ha).1, fun j => by rw [World.frozen?_setCell]; exact (h a ha).2 j⟩
theorem Fz.drew {w : World} {p : Option Addr} (h : Fz w p) : Fz w.drew p := h
theorem grownBy_refl (w : World) (row : Option Nat) : w.grownBy w row := ⟨rfl, rfl, rfl, Nat.le_refl _, fun _ _ _ => rfl⟩
theorem grownBy_trans {a b c : World} {row : Option Nat} (h : a.grownBy b row) (k : b.grownBy c row) : a.grownBy c row :=
  ⟨k.os.trans h.os, k.tape.trans h.tape, k.output.trans h.output, Nat.le_trans h.size k.size, fun i hi hne => (k.block i (Nat.lt_of_lt_of_le hi h.size) hne).trans (h.block i hi hne)⟩
theorem grownBy_setCell {a w : World} {g : Nat} (h : a.grownBy w (some g)) (j : Nat) (v : Value) : a.grownBy (w.setCell ⟨g, j, none⟩ v) (some g) :=
  grownBy_trans h ⟨rfl, rfl, rfl, by simp [World.setCell], fun i _ hne => heap_setCell_other w _ i v (fun e => hne (by rw [e]))⟩
theorem grownBy_drew {a w : World} {row : Option Nat} (h : a.grownBy w row) : a.grownBy w.drew row := ⟨h.os, h.tape, h.output, h.size, h.block⟩
theorem grownBy_below {a w : World} (h : Below a.heap.size a w) (row : Option Nat) : a.grownBy w row := ⟨h.os, h.tape, h.output, h.size, fun k hk _ => h.block k hk⟩
theorem below_of_grown {w w' : World} (h : w.grownBy w' none) : Below w.heap.size w w' := ⟨h.os, h.tape, h.output, h.size, fun k hk => h.block k hk (by simp)⟩
theorem below_grown {B : Nat} {a w w' : World} {g : Nat} (h : Below B a w) (hg : w.grownBy w' (some g)) (hB : B ≤ w.heap.size) (hr : B ≤ g) : Below B a w' :=
  h.grown hg hB (fun k e => by cases e; exact hr)
def zeros (n : Nat) : List Int := List.replicate n 0
theorem length_zeros (n : Nat) : (zeros n).length = n := by simp [zeros]
theorem gx_zeros (n j : Nat) : gx (zeros n) j = 0 := by
  by_cases h : j < n
  · simp [gx, zeros, h]
  · exact gx_past _ n (by simp [zeros]) j (by omega)
theorem val_zero (n : Nat) : val (zeros n) = 0 := val_zeros _ (gx_zeros n)
theorem u32_zeros (n : Nat) : U32 (zeros n) := fun j => by rw [gx_zeros]; decide
theorem made_zeros (k : IntKind) (n : Nat) : madeCells #[.int k 0] (n * 1) = ca k (zeros n) := by
  apply Array.ext
  · simp [size_madeCells, zeros, ca]
  · intro i h1 h2
    simp [madeCells, zeros, ca, Nat.mod_one]
theorem size_ca (k : IntKind) (xs : List Int) : (ca k xs).size = xs.length := by simp [ca]
theorem oneCell_ca (k : IntKind) (xs : List Int) : ∀ v ∈ xs.map (Value.int k), v.oneCell' = true := fun v hv => by
  obtain ⟨x, _, rfl⟩ := List.mem_map.1 hv
  rfl
theorem Rd.src {w : World} {k : IntKind} {xs : List Int} {b off : Nat} (h : ∀ j, j < xs.length → w.cell? ⟨b, off + j, none⟩ = some (.int k (gx xs j))) :
    ∀ j v, (xs.map (Value.int k))[j]? = some v → w.cell? ((⟨b, off, none⟩ : Addr).add j) = some v := fun j v hv => by
  rw [Addr.add_mid]
  rw [List.getElem?_map] at hv
  cases hx : xs[j]? with
  | none => rw [hx] at hv; cases hv
  | some x =>
    rw [hx] at hv
    have hj := (List.getElem?_eq_some_iff.1 hx)
    rw [h j hj.1, gx_mem xs j hj.1, hj.2]
    exact hv
theorem trim_any (p : Option Addr) (len cap : Nat) (xs : List Int) (w : World) (hl : xs.length = len) (hc : len ≤ cap) (hm : cap ≤ maxLen) (hx : Rd w p .u32 xs) :
    Calls Tryz.prog 106 #[.slice p len cap] w fun e w' => e = .returned (.slice p (tlen xs) cap) ∧ w = w' := by
  unfold maxLen at hm
  go_enter Tryz.func106, Tryz.ntmps106
  go_wp2
  go_loop [3] (fun n => ∃ k : Nat, k ≤ len ∧ n = .int .i64 k ∧ Hid (∀ j, k ≤ j → gx xs j = 0)) (fun n => (intOf n).toNat)
  case atStart => exact ⟨len, Nat.le_refl _, rfl, gx_past xs len (by omega)⟩
  case round =>
    obtain ⟨k, hk, rfl, hz⟩ := hrel
    by_cases h0 : k = 0
    · subst h0
      go_wp2
      go_ret
      rw [tlen_eq xs 0 hz.out (.inl rfl)]
      exact ⟨rfl, rfl⟩
    · obtain ⟨m, rfl⟩ : ∃ m, k = m + 1 := ⟨k - 1, by omega⟩
      obtain ⟨b, off, rfl, hcell⟩ := hx (by omega)
      have hcm := hcell m (by omega)
      clear hcell
      by_cases h1 : gx xs m = 0
      · have h2 : (gx xs m == 0) = true := by simp only [h1]; rfl
        go_wp2
        go_round
        case rel => exact ⟨m, by omega, by go_num, fun j hj => by
          rcases Nat.lt_or_ge m j with h | h
          · exact hz.out j h
          · have : j = m := by omega
            subst this; exact h1⟩
        case measure => simp [intOf]
      · have h2 : (gx xs m == 0) = false := by simpa using h1
        go_wp2
        go_ret
        rw [tlen_eq xs (m + 1) hz.out (.inr h1)]
        exact ⟨rfl, rfl⟩
theorem addTo_any (g o n cap : Nat) (Z : List Int) (q : Option Addr) (m mc : Nat) (xs : List Int) (w : World)
    (hz : o + n ≤ Z.length) (hcap : cap ≤ 1099511627776) (hn : n ≤ cap) (hR : Row w g 132 .u32 Z) (hU : U32 Z) (hx : xs.length = m) (hm : m ≤ n)
    (hX : Rd w q .u32 xs) (hXu : U32 xs) (hoff : 0 < m → Off g q) :
    Calls Tryz.prog 146 #[.slice (some ⟨g, o, none⟩) n cap, .slice q m mc] w fun e w' => ∃ c new, e = .returned (.int .u32 c) ∧ new.length = n ∧ U32 new ∧ 0 ≤ c ∧ c ≤ 1 ∧
      val new + pw n * c = val ((Z.drop o).take n) + val xs ∧ Row w' g 132 .u32 (Z.take o ++ new ++ Z.drop (o + n)) ∧ w.grownBy w' (some g) := by
  go_enter Tryz.func146, Tryz.ntmps146
  go_wp2
  go_loopw [5, 12] (fun cv iv wr => ∃ (k : Nat) (c : Int) (new : List Int), k ≤ m ∧ iv = .int .i64 k ∧ cv = .int .u64 c ∧ 0 ≤ c ∧ c ≤ 1 ∧ Hid (new.length = k ∧ U32 new ∧ val new + pw k * c = val ((Z.drop o).take k) + val (xs.take k) ∧ Row wr g 132 .u32 (Z.take o ++ new ++ Z.drop (o + new.length)) ∧ w.grownBy wr (some g)))
    (fun _ iv _ => m - (intOf iv).toNat)
  case atStart => exact ⟨0, 0, [], Nat.zero_le _, rfl, rfl, by decide, by decide, rfl, u32_nil, by simp [val], by rw [row_zero]; exact hR, grownBy_refl _ _⟩
  case round =>
    obtain ⟨k, c, new, hk, rfl, rfl, hc0, hc1, H⟩ := hrel
    by_cases hlt : k < m
    · obtain ⟨hl, hu, hv, hr, hg⟩ := H.out
      obtain ⟨b, off, rfl, hcell⟩ := (hX.keptOff hg (hoff (by omega))) (by omega)
      have hcx := hcell k (by omega)
      have hcz := hr.at (j := o + k) (by omega) (by omega) (by omega)
      have hfz := hr.frozen (o + k)
      have bx := hXu k
      have bz := hU (o + k)
      obtain ⟨bx0, bx1⟩ := bx
      obtain ⟨bz0, bz1⟩ := bz
      clear hl hu hv hr hg hcell
      go_wp2
      refine ⟨⟨k + 1, _, new ++ [(gx Z (o + k) + gx xs k + c) % 4294967296], by omega, by go_num, rfl, by omega, by omega, ?_⟩, by simp [intOf]; omega⟩
      obtain ⟨rfl, hu, hv, hr, hg⟩ := H.out
      refine ⟨by simp, u32_append hu (u32_one (by omega)), ?_, ?_, grownBy_setCell hg _ _⟩
      · rw [val_append, val_one, val_take_succ _ _ (by simp; omega), val_take_succ _ _ (by omega), gx_drop, pw_succ]
        have e := cut_step (pw new.length) (gx Z (o + new.length) + gx xs new.length + c)
        simp only [Int.mul_add] at e
        simp only [Int.mul_assoc] at e ⊢
        omega
      · exact hr.step (by omega) _
    · have hkm : k = m := by omega
      subst hkm
      go_wp2
      go_loopw [5, 9] (fun cv iv wr => ∃ (k : Nat) (c : Int) (new : List Int), k ≤ n ∧ iv = .int .i64 k ∧ cv = .int .u64 c ∧ 0 ≤ c ∧ c ≤ 1 ∧ Hid (new.length = k ∧ U32 new ∧ val new + pw k * c = val ((Z.drop o).take k) + val xs ∧ Row wr g 132 .u32 (Z.take o ++ new ++ Z.drop (o + new.length)) ∧ w.grownBy wr (some g)))
        (fun _ iv _ => n - (intOf iv).toNat)
      case atStart =>
        refine ⟨k, c, new, hm, rfl, rfl, hc0, hc1, ?_⟩
        have h := H.out
        rw [List.take_of_length_le (l := xs) (by omega)] at h
        exact h
      case round =>
        clear H hc0 hc1
        obtain ⟨j, c, new, hj, rfl, rfl, hc0, hc1, H⟩ := hrel
        by_cases hjn : j < n
        · by_cases hcz : c = 0
          · subst hcz
            go_wp2
            go_ret
            obtain ⟨hl, hu, hv, hr, hg⟩ := H.out
            refine ⟨0, new ++ ((Z.drop o).take n).drop new.length, rfl, ?_, u32_append hu (u32_drop (part_u32 hU o n) _), by decide, by decide, ?_, ?_, hg⟩
            · have := part_length Z o n hz
              simp at this ⊢; omega
            · rw [val_append, val_drop_take ((Z.drop o).take n) new.length (by rw [part_length Z o n hz]; omega), List.take_take, Nat.min_eq_left (by omega), hl]
              simp only [Int.mul_zero] at hv ⊢
              omega
            · rw [← row_rest Z new o n hz (by omega)]
              exact hr
          · have hc1' : c = 1 := by omega
            subst hc1'
            obtain ⟨hl, hu, hv, hr, hg⟩ := H.out
            have hcz := hr.at (j := o + j) (by omega) (by omega) (by omega)
            have hfz := hr.frozen (o + j)
            obtain ⟨bz0, bz1⟩ := hU (o + j)
            clear hl hu hv hr hg
            go_wp2
            · have hne : ((gx Z (o + j) + 1) % 4294967296 != 0) = true := by assumption
              obtain ⟨rfl, hu, hv, hr, hg⟩ := H.out
              refine ⟨⟨new.length + 1, 0, new ++ [(gx Z (o + new.length) + 1) % 4294967296], by omega, by go_num, rfl, by decide, by decide, by simp, u32_append hu (u32_one (by omega)), ?_, hr.step (by omega) _, grownBy_setCell hg _ _⟩, by simp [intOf]; omega⟩
              rw [val_append, val_one, val_take_succ _ _ (by simp; omega), gx_drop, pw_succ]
              simp at hne
              rw [show (gx Z (o + new.length) + 1) % 4294967296 = gx Z (o + new.length) + 1 by omega]
              simp only [Int.mul_add, Int.mul_zero, Int.mul_one] at hv ⊢
              omega
            · have hne : ((gx Z (o + j) + 1) % 4294967296 != 0) = false := by assumption
              obtain ⟨rfl, hu, hv, hr, hg⟩ := H.out
              refine ⟨⟨new.length + 1, 1, new ++ [(gx Z (o + new.length) + 1) % 4294967296], by omega, by go_num, rfl, by decide, by decide, by simp, u32_append hu (u32_one (by omega)), ?_, hr.step (by omega) _, grownBy_setCell hg _ _⟩, by simp [intOf]; omega⟩
              rw [val_append, val_one, val_take_succ _ _ (by simp; omega), gx_drop, pw_succ]
              simp at hne
              rw [show gx Z (o + new.length) = 4294967295 by omega]
              simp only [Int.mul_one] at hv ⊢
              omega
        · have hjn' : j = n := by omega
          subst hjn'
          go_wp2
          go_ret
          obtain ⟨hl, hu, hv, hr, hg⟩ := H.out
          exact ⟨c, new, rfl, hl, hu, hc0, hc1, hv, hl ▸ hr, hg⟩
theorem takeFrom_any (g o n cap : Nat) (Z : List Int) (q : Option Addr) (m mc : Nat) (xs : List Int) (w : World)
    (hz : o + n ≤ Z.length) (hcap : cap ≤ 1099511627776) (hn : n ≤ cap) (hR : Row w g 132 .u32 Z) (hU : U32 Z) (hx : xs.length = m) (hm : m ≤ n)
    (hX : Rd w q .u32 xs) (hXu : U32 xs) (hoff : 0 < m → Off g q) :
    Calls Tryz.prog 147 #[.slice (some ⟨g, o, none⟩) n cap, .slice q m mc] w fun e w' => ∃ c new, e = .returned (.int .u32 c) ∧ new.length = n ∧ U32 new ∧ 0 ≤ c ∧ c ≤ 1 ∧
      val new + val xs = val ((Z.drop o).take n) + pw n * c ∧ Row w' g 132 .u32 (Z.take o ++ new ++ Z.drop (o + n)) ∧ w.grownBy w' (some g) := by
  go_enter Tryz.func147, Tryz.ntmps147
  go_wp2
  go_loopw [5, 12] (fun cv iv wr => ∃ (k : Nat) (c : Int) (new : List Int), k ≤ m ∧ iv = .int .i64 k ∧ cv = .int .u64 c ∧ 0 ≤ c ∧ c ≤ 1 ∧ Hid (new.length = k ∧ U32 new ∧ val new + val (xs.take k) = val ((Z.drop o).take k) + pw k * c ∧ Row wr g 132 .u32 (Z.take o ++ new ++ Z.drop (o + new.length)) ∧ w.grownBy wr (some g)))
    (fun _ iv _ => m - (intOf iv).toNat)
  case atStart => exact ⟨0, 0, [], Nat.zero_le _, rfl, rfl, by decide, by decide, rfl, u32_nil, by simp [val], by rw [row_zero]; exact hR, grownBy_refl _ _⟩
  case round =>
    obtain ⟨k, c, new, hk, rfl, rfl, hc0, hc1, H⟩ := hrel
    by_cases hlt : k < m
    · obtain ⟨hl, hu, hv, hr, hg⟩ := H.out
      obtain ⟨b, off, rfl, hcell⟩ := (hX.keptOff hg (hoff (by omega))) (by omega)
      have hcx := hcell k (by omega)
      have hcz := hr.at (j := o + k) (by omega) (by omega) (by omega)
      have hfz := hr.frozen (o + k)
      have bx := hXu k
      have bz := hU (o + k)
      obtain ⟨bx0, bx1⟩ := bx
      obtain ⟨bz0, bz1⟩ := bz
      clear hl hu hv hr hg hcell
      go_wp2
      rw [borrow_hi _ _ _ bz0 bz1 bx0 bx1 hc0 hc1, borrow_lo _ _ _ bz0 bz1 bx0 bx1 hc0 hc1]
      refine ⟨⟨k + 1, _, new ++ [(gx Z (o + k) - gx xs k - c) % 4294967296], by omega, by go_num, rfl, by omega, by omega, ?_⟩, by simp [intOf]; omega⟩
      obtain ⟨rfl, hu, hv, hr, hg⟩ := H.out
      refine ⟨by simp, u32_append hu (u32_one (by omega)), ?_, ?_, grownBy_setCell hg _ _⟩
      · rw [val_append, val_one, val_take_succ xs _ (by omega), val_take_succ _ _ (by simp; omega), gx_drop, pw_succ]
        have e := cut_step (pw new.length) (gx Z (o + new.length) - gx xs new.length - c)
        simp only [Int.mul_sub] at e
        simp only [Int.mul_assoc, Int.mul_neg] at e ⊢
        omega
      · exact hr.step (by omega) _
    · have hkm : k = m := by omega
      subst hkm
      go_wp2
      go_loopw [5, 9] (fun cv iv wr => ∃ (k : Nat) (c : Int) (new : List Int), k ≤ n ∧ iv = .int .i64 k ∧ cv = .int .u64 c ∧ 0 ≤ c ∧ c ≤ 1 ∧ Hid (new.length = k ∧ U32 new ∧ val new + val xs = val ((Z.drop o).take k) + pw k * c ∧ Row wr g 132 .u32 (Z.take o ++ new ++ Z.drop (o + new.length)) ∧ w.grownBy wr (some g)))
        (fun _ iv _ => n - (intOf iv).toNat)
      case atStart =>
        refine ⟨k, c, new, hm, rfl, rfl, hc0, hc1, ?_⟩
        have h := H.out
        rw [List.take_of_length_le (l := xs) (by omega)] at h
        exact h
      case round =>
        clear H hc0 hc1
        obtain ⟨j, c, new, hj, rfl, rfl, hc0, hc1, H⟩ := hrel
        by_cases hjn : j < n
        · by_cases hcz : c = 0
          · subst hcz
            go_wp2
            go_ret
            obtain ⟨hl, hu, hv, hr, hg⟩ := H.out
            refine ⟨0, new ++ ((Z.drop o).take n).drop new.length, rfl, ?_, u32_append hu (u32_drop (part_u32 hU o n) _), by decide, by decide, ?_, ?_, hg⟩
            · have := part_length Z o n hz
              simp at this ⊢; omega
            · rw [val_append, val_drop_take ((Z.drop o).take n) new.length (by rw [part_length Z o n hz]; omega), List.take_take, Nat.min_eq_left (by omega), hl]
              simp only [Int.mul_zero] at hv ⊢
              omega
            · rw [← row_rest Z new o n hz (by omega)]
              exact hr
          · have hc1' : c = 1 := by omega
            subst hc1'
            obtain ⟨hl, hu, hv, hr, hg⟩ := H.out
            have hcz := hr.at (j := o + j) (by omega) (by omega) (by omega)
            have hfz := hr.frozen (o + j)
            obtain ⟨bz0, bz1⟩ := hU (o + j)
            clear hl hu hv hr hg
            go_wp2
            · have hne : (gx Z (o + j) != 0) = true := by assumption
              obtain ⟨rfl, hu, hv, hr, hg⟩ := H.out
              refine ⟨⟨new.length + 1, 0, new ++ [(gx Z (o + new.length) - 1) % 4294967296], by omega, by go_num, rfl, by decide, by decide, by simp, u32_append hu (u32_one (by omega)), ?_, hr.step (by omega) _, grownBy_setCell hg _ _⟩, by simp [intOf]; omega⟩
              rw [val_append, val_one, val_take_succ _ _ (by simp; omega), gx_drop, pw_succ]
              simp at hne
              rw [show (gx Z (o + new.length) - 1) % 4294967296 = gx Z (o + new.length) - 1 by omega]
              simp only [Int.mul_sub, Int.mul_zero, Int.mul_one] at hv ⊢
              omega
            · have hne : (gx Z (o + j) != 0) = false := by assumption
              obtain ⟨rfl, hu, hv, hr, hg⟩ := H.out
              refine ⟨⟨new.length + 1, 1, new ++ [(gx Z (o + new.length) - 1) % 4294967296], by omega, by go_num, rfl, by decide, by decide, by simp, u32_append hu (u32_one (by omega)), ?_, hr.step (by omega) _, grownBy_setCell hg _ _⟩, by simp [intOf]; omega⟩
              rw [val_append, val_one, val_take_succ _ _ (by simp; omega), gx_drop, pw_succ]
              simp at hne
              rw [show gx Z (o + new.length) = 0 by omega]
              simp only [Int.mul_one, Int.mul_zero] at hv ⊢
              omega
        · have hjn' : j = n := by omega
          subst hjn'
          go_wp2
          go_ret
          obtain ⟨hl, hu, hv, hr, hg⟩ := H.out
          exact ⟨c, new, rfl, hl, hu, hc0, hc1, hv, hl ▸ hr, hg⟩
theorem info_u32 : (Tryz.prog.info? 132).map (fun i => (i.zero, i.size, i.bytes)) = some (some (.int .u32 0), 1, 4) := by kernel_rfl
theorem mk_u32 (n : Nat) (h : n ≤ 1099511627776) (w : World) : (Instr.makeSlice 22 (.int .i64 n) (.int .i64 n)).run Tryz.prog w =
    .ok (.slice (some ⟨w.heap.size, 0, none⟩) n n) (w.alloc (.cells (ca .u32 (zeros n)) 132)) := by
  have hi := info_u32
  cases hq : Tryz.prog.info? 132 with
  | none => rw [hq] at hi; cases hi
  | some i =>
    rw [hq] at hi
    simp only [Option.map_some, Option.some.injEq, Prod.mk.injEq] at hi
    obtain ⟨h1, h2, h3⟩ := hi
    have hr := run_make (P := Tryz.prog) w 22 132 i (.int .u32 0) Tryz.underlying22 hq h1 .i64 .i64 n n (by omega) (Int.le_refl _) (by rw [h3]; omega) (by omega)
    rw [Int.toNat_natCast, h2] at hr
    rw [hr]
    exact congrArg (fun c => Result.ok (Value.slice (some ⟨w.heap.size, 0, none⟩) n n) (w.alloc (.cells c 132))) (made_zeros .u32 n)
theorem copy_u32 (ty : TypeId) (w : World) (q : Option Addr) (m mc n : Nat) (xs : List Int) (hX : Rd w q .u32 xs) (hl : xs.length = m) (hmn : m ≤ n) :
    (Builtin.copy_ #[22, 22] ty #[.slice (some ⟨w.heap.size, 0, none⟩) n n, .slice q m mc]).run Tryz.prog (w.alloc (.cells (ca .u32 (zeros n)) 132)) =
      .ok (.int .i64 m) (w.alloc (.cells (ca .u32 (xs ++ zeros (n - m))) 132)) := by
  by_cases h0 : m = 0
  · subst h0
    have : xs = [] := List.eq_nil_of_length_eq_zero hl
    subst this
    exact run_copy_none (P := Tryz.prog) _ 22 22 ty 132 _ _ n n 0 mc Tryz.underlying22 (by kernel_rfl) (by simp)
  · obtain ⟨b, off, rfl, hc⟩ := (hX.alloc (.cells (ca .u32 (zeros n)) 132)) (by omega)
    rw [run_copy_row Tryz.prog _ 22 22 ty 132 w.heap.size 0 n n ⟨b, off, none⟩ m mc _ 132 (xs.map (Value.int .u32)) Tryz.underlying22 (by kernel_rfl) (heap_alloc_new w _) (by simp only [List.length_map, hl]; exact (Nat.min_eq_left hmn).symm) (Rd.src hc) (by simp [size_ca, length_zeros]; omega) (oneCell_ca _ _)]
    rw [World.setRow_alloc_new]
    congr 2
    · simp [hl]
    · simp [ca, zeros, hl]
theorem clone_any (q : Option Addr) (m mc : Nat) (xs : List Int) (w : World) (hl : xs.length = m) (hm : m ≤ 1099511627776) (hX : Rd w q .u32 xs) :
    Calls Tryz.prog 140 #[.slice q m mc] w fun e w' => e = .returned (.slice (some ⟨w.heap.size, 0, none⟩) m m) ∧ w.alloc (.cells (ca .u32 xs) 132) = w' := by
  have hmk := mk_u32 m hm
  have hcp := fun ty => copy_u32 ty w q m mc m xs hX hl (Nat.le_refl m)
  rw [Nat.sub_self, show xs ++ zeros 0 = xs by simp [zeros]] at hcp
  go_enter Tryz.func140, Tryz.ntmps140
  go_wp2
  go_ret
  exact ⟨rfl, rfl⟩
theorem clip_any (q : Option Addr) (m mc : Nat) (w : World) (hm : m ≤ mc) (hc : mc ≤ maxLen) :
    Calls Tryz.prog 139 #[.slice q m mc] w fun e w' => e = .returned (.slice q m m) ∧ w = w' := by
  unfold maxLen at hc
  go_enter Tryz.func139, Tryz.ntmps139
  go_wp2
  go_ret
  exact ⟨rfl, rfl⟩
def nsg (neg : Bool) (xs : List Int) : Bool := if tlen xs = 0 then false else neg
def nad (q : Option Addr) (xs : List Int) : Option Addr := if tlen xs = 0 then none else q
theorem number_any (neg : Bool) (q : Option Addr) (m mc : Nat) (xs : List Int) (w : World) (hl : xs.length = m) (hm : m ≤ mc) (hc : mc ≤ maxLen) (hX : Rd w q .u32 xs) :
    Calls Tryz.prog 104 #[.bool neg, .slice q m mc] w fun e w' => e = .returned (.agg #[.bool (nsg neg xs), .slice (nad q xs) (tlen xs) (tlen xs)]) ∧ Below w.heap.size w w' := by
  have ht := tlen_le xs
  by_cases h0 : tlen xs = 0
  · rw [nsg, nad, if_pos h0, if_pos h0, h0]
    have hc' := hc
    unfold maxLen at hc'
    go_enter Tryz.func104, Tryz.ntmps104
    go_wp2_with (go_at_call 106; refine (trim_any q m mc xs _ hl hm hc (hX.alloc _)).mono ?_; rintro e w' ⟨rfl, rfl⟩)
    exact bodyPost_ret (v := .agg #[.bool false, .slice none 0 0]) (by simp [results, Tryz.results104, go_sem]) rfl ⟨rfl, (Below.refl _ _).alloc (Nat.le_refl _) _⟩
  · rw [nsg, nad, if_neg h0, if_neg h0]
    have hc' := hc
    unfold maxLen at hc'
    have h1 : (((tlen xs : Nat) : Int) == 0) = false := beq_eq_false_iff_ne.2 (by omega)
    go_enter Tryz.func104, Tryz.ntmps104
    go_wp2_with (first
      | (go_at_call 106; refine (trim_any q m mc xs _ hl hm hc (hX.alloc _)).mono ?_; rintro e w' ⟨rfl, rfl⟩)
      | (go_at_call 139; refine (clip_any q (tlen xs) mc _ (by omega) hc).mono ?_; rintro e w' ⟨rfl, rfl⟩))
    exact bodyPost_ret (v := .agg #[.bool neg, .slice q (tlen xs) (tlen xs)]) (by simp [results, Tryz.results104, go_sem]) rfl ⟨rfl, (Below.refl _ _).alloc (Nat.le_refl _) _⟩
theorem words_any (m : Int) (w : World) (h0 : 0 ≤ m) (h1 : m < 18446744073709551616) :
    Calls Tryz.prog 105 #[.int .u64 m] w fun e w' => e = .returned (.slice (some ⟨w.heap.size, 0, none⟩) 2 2) ∧ w.alloc (.cells (ca .u32 [m % 4294967296, m / 4294967296]) 132) = w' := by
  go_enter Tryz.func105, Tryz.ntmps105
  go_wp2
  go_ret
  exact ⟨rfl, rfl⟩
end Go.Proofs.YtfnkomoickanfaaGreatDoor
