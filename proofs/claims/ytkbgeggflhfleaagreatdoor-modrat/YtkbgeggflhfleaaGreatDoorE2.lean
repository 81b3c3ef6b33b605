/-
  What the runner's memory says of a memory: names stand for blocks.
-/
import Derived.Test.YtkbgeggflhfleaaGreatDoorE1
namespace Go.Proofs.YtkbgeggflhfleaaGreatDoor.Ev
structure Pl where
  blk : Nat
  base : Nat
  cap : Nat
abbrev Ren := Nat → Option Pl
mutual
inductive VR (ρ : Ren) : LV → Value → Prop where
  | bool (b : Bool) : VR ρ (.bool b) (.bool b)
  | int (k : IntKind) (n : Int) : VR ρ (.int k n) (.int k n)
  | str (s : ByteArray) : VR ρ (.str s) (.string s)
  | ptr {n off : Nat} {p : Pl} : ρ n = some p → VR ρ (.ptr n off) (.pointer (some ⟨p.blk, p.base + off, none⟩))
  | nil : VR ρ .nil (.pointer none)
  | known {n off len c : Nat} {p : Pl} : ρ n = some p → VR ρ (.slice n off len (.known c)) (.slice (some ⟨p.blk, p.base + off, none⟩) len c)
  | more {n off len u : Nat} {p : Pl} : ρ n = some p → VR ρ (.slice n off len (.more u)) (.slice (some ⟨p.blk, p.base + off, none⟩) len (p.cap - u))
  | nilSlice : VR ρ .nilSlice (.slice none 0 0)
  | func {fn : Fn} {a b : List LV} {x y : List Value} : VRs ρ a x → VRs ρ b y → VR ρ (.func fn a b) (.func fn x.toArray y.toArray)
  | nilFunc : VR ρ .nilFunc .nilFunc
  | iface {t : TypeId} {v : LV} {x : Value} : VR ρ v x → VR ρ (.iface t v) (.iface t x)
  | nilIface : VR ρ .nilIface .nilIface
  | agg {cs : List LV} {xs : List Value} : VRs ρ cs xs → VR ρ (.agg cs) (.agg xs.toArray)
  | tuple {cs : List LV} {xs : List Value} : VRs ρ cs xs → VR ρ (.tuple cs) (.tuple xs.toArray)
  | yield {n : Nat} {p : Pl} : ρ n = some p → VR ρ (.yield n) (.func (.yield p.blk) #[] #[])
inductive VRs (ρ : Ren) : List LV → List Value → Prop where
  | nil : VRs ρ [] []
  | cons {v : LV} {x : Value} {vs : List LV} {xs : List Value} : VR ρ v x → VRs ρ vs xs → VRs ρ (v :: vs) (x :: xs)
end
def Ren.le (ρ σ : Ren) : Prop := ∀ n p, ρ n = some p → σ n = some p
mutual
theorem VR.mono {ρ σ : Ren} (h : ρ.le σ) : ∀ {v : LV} {x : Value}, VR ρ v x → VR σ v x
  | _, _, .bool b => .bool b
  | _, _, .int k n => .int k n
  | _, _, .str s => .str s
  | _, _, .ptr e => .ptr (h _ _ e)
  | _, _, .nil => .nil
  | _, _, .known e => .known (h _ _ e)
  | _, _, .more e => .more (h _ _ e)
  | _, _, .nilSlice => .nilSlice
  | _, _, .func a b => .func (VRs.mono h a) (VRs.mono h b)
  | _, _, .nilFunc => .nilFunc
  | _, _, .iface a => .iface (VR.mono h a)
  | _, _, .nilIface => .nilIface
  | _, _, .agg a => .agg (VRs.mono h a)
  | _, _, .tuple a => .tuple (VRs.mono h a)
  | _, _, .yield e => .yield (h _ _ e)
theorem VRs.mono {ρ σ : Ren} (h : ρ.le σ) : ∀ {v : List LV} {x : List Value}, VRs ρ v x → VRs σ v x
  | _, _, .nil => .nil
  | _, _, .cons a b => .cons (VR.mono h a) (VRs.mono h b)
end
theorem VRs.length {ρ : Ren} : ∀ {vs : List LV} {xs : List Value}, VRs ρ vs xs → xs.length = vs.length
  | _, _, .nil => rfl
  | _, _, .cons _ b => by simp [b.length]
theorem VRs.get {ρ : Ren} : ∀ {vs : List LV} {xs : List Value}, VRs ρ vs xs → ∀ {i : Nat} {v : LV}, vs[i]? = some v → ∃ x, xs[i]? = some x ∧ VR ρ v x
  | _, _, .nil, i, v, h => by simp at h
  | _, _, .cons (x := x) a b, 0, v, h => by simp at h; exact ⟨x, by simp, h ▸ a⟩
  | _, _, .cons a b, i + 1, v, h => by
    simp at h
    obtain ⟨y, hy, hv⟩ := b.get h
    exact ⟨y, by simpa using hy, hv⟩
theorem VRs.append {ρ : Ren} : ∀ {vs : List LV} {xs : List Value}, VRs ρ vs xs → ∀ {us : List LV} {ys : List Value}, VRs ρ us ys → VRs ρ (vs ++ us) (xs ++ ys)
  | _, _, .nil, _, _, h => h
  | _, _, .cons a b, _, _, h => .cons a (b.append h)
theorem VRs.drop {ρ : Ren} : ∀ (k : Nat) {vs : List LV} {xs : List Value}, VRs ρ vs xs → VRs ρ (vs.drop k) (xs.drop k)
  | 0, _, _, h => by simpa using h
  | k + 1, _, _, .nil => by simpa using VRs.nil
  | k + 1, _, _, .cons _ b => by simpa using b.drop k
theorem VRs.take {ρ : Ren} : ∀ (k : Nat) {vs : List LV} {xs : List Value}, VRs ρ vs xs → VRs ρ (vs.take k) (xs.take k)
  | 0, _, _, h => by simpa using VRs.nil
  | k + 1, _, _, .nil => by simpa using VRs.nil
  | k + 1, _, _, .cons a b => by simpa using VRs.cons a (b.take k)
theorem VRs.of_get {ρ : Ren} : ∀ {vs : List LV} {xs : List Value}, xs.length = vs.length → (∀ (i : Nat) (v : LV) (x : Value), vs[i]? = some v → xs[i]? = some x → VR ρ v x) → VRs ρ vs xs
  | [], [], _, _ => .nil
  | [], _ :: _, h, _ => by simp at h
  | _ :: _, [], h, _ => by simp at h
  | v :: vs, x :: xs, h, hv => .cons (hv 0 v x (by simp) (by simp)) (VRs.of_get (by simpa using h) fun i u y hu hy => hv (i + 1) u y (by simpa using hu) (by simpa using hy))
theorem VR.cells {ρ : Ren} {v : LV} {x : Value} (h : VR ρ v x) : VRs ρ v.cells x.cells.toList := by
  cases h <;> first | (simp only [LV.cells, Value.cells]; assumption) | exact .cons (by constructor <;> assumption) .nil
def Value.one : Value → Bool
  | .agg _ | .tuple _ => false
  | _ => true
theorem VR.one {ρ : Ren} {v : LV} {x : Value} (h : VR ρ v x) : Value.one x = v.one := by
  cases h <;> rfl
theorem ofV1_vr {ρ : Ren} {x : Value} {v : LV} (h : ofV1 x = some v) : VR ρ v x := by
  unfold ofV1 at h
  split at h <;> cases h <;> constructor
theorem ofVs_vrs {ρ : Ren} : ∀ {xs : List Value} {vs : List LV}, ofVs xs = some vs → VRs ρ vs xs
  | [], vs, h => by cases h; exact .nil
  | x :: xs, vs, h => by
    simp only [ofVs] at h
    split at h
    · rename_i a b ha hb
      cases h
      exact .cons (ofV1_vr ha) (ofVs_vrs hb)
    · cases h
theorem ofV_vr {ρ : Ren} {x : Value} {v : LV} (h : ofV x = some v) : VR ρ v x := by
  unfold ofV at h
  split at h
  · rename_i cs
    cases hc : ofVs cs.toList with
    | none => rw [hc] at h; cases h
    | some l =>
      rw [hc] at h
      cases h
      exact .agg (ofVs_vrs hc)
  · exact ofV1_vr h
/- The tree. -/
theorem Tr.get_e {α : Type} (i : Nat) : (Tr.e : Tr α).get i = none := rfl
theorem Tr.get_n {α : Type} (l : Tr α) (v : Option α) (r : Tr α) (i : Nat) : (Tr.n l v r).get i = if i = 0 then v else if i % 2 = 1 then l.get (i / 2) else r.get (i / 2 - 1) := by
  show sel (Nat.beq i 0) v (sel (Nat.beq (i % 2) 1) (l.get (i / 2)) (r.get (i / 2 - 1))) = _
  by_cases h0 : i = 0
  · subst h0; rfl
  · have : Nat.beq i 0 = false := by
      cases h : Nat.beq i 0 with
      | true => exact absurd (Nat.eq_of_beq_eq_true h) h0
      | false => rfl
    rw [this, if_neg h0]
    by_cases h1 : i % 2 = 1
    · rw [h1]; rfl
    · have : Nat.beq (i % 2) 1 = false := by
        cases h : Nat.beq (i % 2) 1 with
        | true => exact absurd (Nat.eq_of_beq_eq_true h) h1
        | false => rfl
      rw [this, if_neg h1]
theorem sel_nat {α : Type} (i : Nat) (a b c : α) : sel (Nat.beq i 0) a (sel (Nat.beq (i % 2) 1) b c) = if i = 0 then a else if i % 2 = 1 then b else c := by
  by_cases h0 : i = 0
  · subst h0; rfl
  · have : Nat.beq i 0 = false := by
      cases h : Nat.beq i 0 with
      | true => exact absurd (Nat.eq_of_beq_eq_true h) h0
      | false => rfl
    rw [this, if_neg h0]
    by_cases h1 : i % 2 = 1
    · rw [h1]; rfl
    · have : Nat.beq (i % 2) 1 = false := by
        cases h : Nat.beq (i % 2) 1 with
        | true => exact absurd (Nat.eq_of_beq_eq_true h) h1
        | false => rfl
      rw [this, if_neg h1]
theorem Tr.path_s {α : Type} (f i : Nat) (x : Option α) : Tr.path (f + 1) i x = if i = 0 then .n .e x .e else if i % 2 = 1 then .n (Tr.path f (i / 2) x) none .e else .n .e none (Tr.path f (i / 2 - 1) x) := sel_nat i _ _ _
theorem Tr.put_n {α : Type} (f : Nat) (l : Tr α) (v : Option α) (r : Tr α) (i : Nat) (x : Option α) : (Tr.n l v r).put f i x = if i = 0 then .n l x r else if i % 2 = 1 then .n (l.put f (i / 2) x) v r else .n l v (r.put f (i / 2 - 1) x) := sel_nat i _ _ _
theorem Tr.get_path {α : Type} : ∀ (f i : Nat) (x : Option α) (j : Nat), i + 1 < 2 ^ f → (Tr.path f i x).get j = if j = i then x else none
  | 0, i, x, j, h => by simp at h
  | f + 1, i, x, j, h => by
    rw [Nat.pow_succ] at h
    rw [Tr.path_s]
    by_cases h0 : i = 0
    · subst h0
      rw [if_pos rfl, Tr.get_n]
      by_cases hj : j = 0
      · rw [if_pos hj, if_pos hj]
      · rw [if_neg hj, if_neg hj]; simp [Tr.get_e]
    · rw [if_neg h0]
      by_cases h1 : i % 2 = 1
      · rw [if_pos h1, Tr.get_n]
        by_cases hj : j = 0
        · rw [if_pos hj, if_neg (by omega)]
        · rw [if_neg hj]
          by_cases hj1 : j % 2 = 1
          · rw [if_pos hj1, Tr.get_path f _ _ _ (by omega)]
            by_cases e : j = i
            · subst e; simp
            · rw [if_neg (by omega), if_neg e]
          · rw [if_neg hj1, Tr.get_e, if_neg (by intro e; subst e; omega)]
      · rw [if_neg h1, Tr.get_n]
        by_cases hj : j = 0
        · rw [if_pos hj, if_neg (by omega)]
        · rw [if_neg hj]
          by_cases hj1 : j % 2 = 1
          · rw [if_pos hj1, Tr.get_e, if_neg (by intro e; subst e; omega)]
          · rw [if_neg hj1, Tr.get_path f _ _ _ (by omega)]
            by_cases e : j = i
            · subst e; simp
            · rw [if_neg (by omega), if_neg e]
theorem Tr.get_put {α : Type} (f : Nat) (t : Tr α) : ∀ (i : Nat) (x : Option α) (j : Nat), i + 1 < 2 ^ f → (t.put f i x).get j = if j = i then x else t.get j := by
  induction t with
  | e => intro i x j h; exact Tr.get_path f i x j h
  | n l v r ihl ihr =>
    intro i x j h
    rw [Tr.put_n]
    by_cases h0 : i = 0
    · subst h0
      rw [if_pos rfl, Tr.get_n, Tr.get_n]
      by_cases hj : j = 0
      · rw [if_pos hj, if_pos hj]
      · rw [if_neg hj, if_neg hj, if_neg hj]
    · rw [if_neg h0]
      by_cases h1 : i % 2 = 1
      · rw [if_pos h1, Tr.get_n, Tr.get_n]
        by_cases hj : j = 0
        · rw [if_pos hj, if_neg (by omega), if_pos hj]
        · rw [if_neg hj, if_neg hj]
          by_cases hj1 : j % 2 = 1
          · rw [if_pos hj1, if_pos hj1, ihl _ _ _ (by omega)]
            by_cases e : j = i
            · subst e; simp
            · rw [if_neg (by omega), if_neg e]
          · rw [if_neg hj1, if_neg hj1, if_neg (by intro e; subst e; omega)]
      · rw [if_neg h1, Tr.get_n, Tr.get_n]
        by_cases hj : j = 0
        · rw [if_pos hj, if_neg (by omega), if_pos hj]
        · rw [if_neg hj, if_neg hj]
          by_cases hj1 : j % 2 = 1
          · rw [if_pos hj1, if_pos hj1, if_neg (by intro e; subst e; omega)]
          · rw [if_neg hj1, if_neg hj1, ihr _ _ _ (by omega)]
            by_cases e : j = i
            · subst e; simp
            · rw [if_neg (by omega), if_neg e]
end Go.Proofs.YtkbgeggflhfleaaGreatDoor.Ev
