/-
  Plain facts on skew products: polynomials by their entries, what a letter makes of a polynomial, the rule of products, and that a product of operators acts as one behind the other.
-/
import Derived.Test.YtejnhpjejcpekaaGreatDoorPl
import Derived.Test.YtejnhpjejcpekaaGreatDoorKqNtNuNvNwNk
namespace Go.Proofs.YtejnhpjejcpekaaGreatDoor.Sk
open Go.Proofs.YtejnhpjejcpekaaGreatDoor
set_option maxHeartbeats 8000000
theorem gx_cons_zero (c : Int) (l : List Int) : gx (c :: l) 0 = c := rfl
theorem gx_cons_succ (c : Int) (l : List Int) (t : Nat) : gx (c :: l) (t + 1) = gx l t := rfl
def sm : Nat → (Nat → Int) → Int
  | 0, _ => 0
  | n + 1, F => sm n F + F n
theorem sm_congr {n : Nat} {F G : Nat → Int} (h : ∀ i, i < n → F i = G i) : sm n F = sm n G := by
  induction n with
  | zero => rfl
  | succ n ih => rw [sm, sm, ih fun i hi => h i (by omega), h n (by omega)]
theorem sm_zero (n : Nat) {F : Nat → Int} (h : ∀ i, i < n → F i = 0) : sm n F = 0 := by
  induction n with
  | zero => rfl
  | succ n ih => rw [sm, ih fun i hi => h i (by omega), h n (by omega)]; rfl
theorem sm_lin (n : Nat) (k m : Int) (F G : Nat → Int) : sm n (fun i => k * F i + m * G i) = k * sm n F + m * sm n G := by
  induction n with
  | zero => simp [sm]
  | succ n ih => rw [sm, sm, sm, ih]; grind
theorem sm_add (n : Nat) (F G : Nat → Int) : sm n (fun i => F i + G i) = sm n F + sm n G := by
  have := sm_lin n 1 1 F G
  simpa using this
theorem sm_mul (n : Nat) (k : Int) (F : Nat → Int) : sm n (fun i => k * F i) = k * sm n F := by
  have := sm_lin n k 0 F F
  simpa using this
theorem sm_left (n : Nat) (F : Nat → Int) : sm (n + 1) F = F 0 + sm n fun i => F (i + 1) := by
  induction n with
  | zero => simp [sm]
  | succ n ih => rw [sm, ih, sm]; omega
theorem sm_more {n N : Nat} {F : Nat → Int} (h : ∀ i, n ≤ i → F i = 0) (hN : n ≤ N) : sm N F = sm n F := by
  induction N with
  | zero => rw [show n = 0 by omega]
  | succ N ih =>
    rcases Nat.lt_or_ge n (N + 1) with h1 | h1
    · rw [sm, ih (by omega), h N (by omega), Int.add_zero]
    · rw [show n = N + 1 by omega]
theorem sm_comm (n m : Nat) (F : Nat → Nat → Int) : sm n (fun i => sm m (F i)) = sm m fun j => sm n fun i => F i j := by
  induction n with
  | zero => simp only [sm]; rw [sm_zero]; exact fun _ _ => rfl
  | succ n ih => simp only [sm]; rw [ih, ← sm_add]
def fx (g : Nat → Int) : Nat → Int
  | 0 => 0
  | t + 1 => g t
theorem fx_lin (k m : Int) (a b : Nat → Int) (t : Nat) : fx (fun i => k * a i + m * b i) t = k * fx a t + m * fx b t := by
  cases t with
  | zero => simp [fx]
  | succ t => rfl
theorem fx_congr {a b : Nat → Int} (h : ∀ i, a i = b i) (t : Nat) : fx a t = fx b t := by
  rw [funext h]
def cv (a g : Nat → Int) (t : Nat) : Int := sm (t + 1) fun i => a i * g (t - i)
theorem cv_congr {a b g h : Nat → Int} (h1 : ∀ i, a i = b i) (h2 : ∀ i, g i = h i) (t : Nat) : cv a g t = cv b h t := by
  rw [funext h1, funext h2]
theorem cv_linl (k m : Int) (a b g : Nat → Int) (t : Nat) : cv (fun i => k * a i + m * b i) g t = k * cv a g t + m * cv b g t := by
  rw [cv, cv, cv, ← sm_lin]
  exact sm_congr fun i _ => by grind
theorem cv_linr (k m : Int) (a g h : Nat → Int) (t : Nat) : cv a (fun i => k * g i + m * h i) t = k * cv a g t + m * cv a h t := by
  rw [cv, cv, cv, ← sm_lin]
  exact sm_congr fun i _ => by grind
theorem cv_zl {a : Nat → Int} (h : ∀ i, a i = 0) (g : Nat → Int) (t : Nat) : cv a g t = 0 := sm_zero _ fun i _ => by rw [h i, Int.zero_mul]
theorem cv_zr {g : Nat → Int} (h : ∀ i, g i = 0) (a : Nat → Int) (t : Nat) : cv a g t = 0 := sm_zero _ fun i _ => by rw [h, Int.mul_zero]
theorem cv_xl (a g : Nat → Int) (t : Nat) : cv (fx a) g t = fx (cv a g) t := by
  cases t with
  | zero => simp [cv, fx, sm]
  | succ t =>
    rw [cv, sm_left, fx, fx, cv, Int.zero_mul, Int.zero_add]
    exact sm_congr fun i _ => by rw [fx, Nat.add_sub_add_right]
theorem gx_cons (c : Int) (l : List Int) (t : Nat) : gx (c :: l) t = (if t = 0 then c else 0) + fx (gx l) t := by
  cases t with
  | zero => rw [gx_cons_zero, fx]; simp
  | succ t => rw [gx_cons_succ, fx]; simp
theorem cv_c (c : Int) (g : Nat → Int) (t : Nat) : cv (fun i => if i = 0 then c else 0) g t = c * g t := by
  rw [cv, sm_left, if_pos rfl, Nat.sub_zero, sm_zero, Int.add_zero]
  intro i _
  rw [if_neg (by omega), Int.zero_mul]
theorem cv_cons (c : Int) (l : List Int) (g : Nat → Int) (t : Nat) : cv (gx (c :: l)) g t = c * g t + fx (cv (gx l) g) t := by
  have h : ∀ i, gx (c :: l) i = 1 * (if i = 0 then c else 0) + 1 * fx (gx l) i := fun i => by rw [gx_cons]; omega
  rw [cv_congr h (fun _ => rfl), cv_linl, cv_c, cv_xl, Int.one_mul, Int.one_mul]
theorem gx_nil (t : Nat) : gx [] t = 0 := by simp [gx]
theorem cv_assoc (b g : Nat → Int) : ∀ (l : List Int) (t : Nat), cv (gx l) (cv b g) t = cv (cv (gx l) b) g t
  | [], t => by rw [cv_zl gx_nil, cv_zl]; exact fun i => cv_zl gx_nil _ _
  | c :: l, t => by
    rw [cv_cons, fx_congr (cv_assoc b g l)]
    have h : ∀ i, cv (gx (c :: l)) b i = c * b i + 1 * fx (cv (gx l) b) i := fun i => by rw [cv_cons, Int.one_mul]
    rw [cv_congr h (fun _ => rfl), cv_linl, cv_xl, Int.one_mul]
def TT (u v w e : Int) : List Int → Nat → Int
  | [], _ => 0
  | c :: p, t => (if t = 0 then c * e else 0) + (u * fx (TT u v w e p) t + (v * TT u v w e p t + w * gx p t))
def ta (u v w e : Int) : Nat → Nat → Int
  | 0, t => if t = 0 then e else 0
  | i + 1, t => u * fx (ta u v w e i) t + (v * ta u v w e i t + w * (if t = i then 1 else 0))
theorem gx_beyond (l : List Int) (t : Nat) (h : l.length ≤ t) : gx l t = 0 := by simp [gx, List.getElem?_eq_none h]
theorem sm_pick (n : Nat) (F : Nat → Int) (t : Nat) (h : t < n) : sm n (fun i => F i * (if t = i then 1 else 0)) = F t := by
  induction n with
  | zero => omega
  | succ n ih =>
    rw [sm]
    rcases Nat.lt_or_ge t n with h1 | h1
    · rw [ih h1, if_neg (by omega), Int.mul_zero, Int.add_zero]
    · have h2 : t = n := by omega
      subst h2
      rw [sm_zero, if_pos rfl]
      · omega
      · intro i hi
        rw [if_neg (by omega), Int.mul_zero]
theorem fx_sm (n : Nat) (G : Nat → Nat → Int) (t : Nat) : fx (fun s => sm n fun i => G i s) t = sm n fun i => fx (G i) t := by
  cases t with
  | zero => simp only [fx]; rw [sm_zero]; exact fun _ _ => rfl
  | succ t => rfl
theorem TT_sm (u v w e : Int) : ∀ (p : List Int) (N : Nat), p.length ≤ N → ∀ t, TT u v w e p t = sm N fun i => gx p i * ta u v w e i t
  | [], N, _, t => by rw [TT, sm_zero]; intro i _; rw [gx_nil, Int.zero_mul]
  | c :: p, 0, h, t => by simp at h
  | c :: p, N + 1, h, t => by
    have h' : p.length ≤ N := by simpa using h
    have ih := TT_sm u v w e p N h'
    have e1 : (fun i => gx (c :: p) (i + 1) * ta u v w e (i + 1) t) = fun i => u * (gx p i * fx (ta u v w e i) t) + 1 * (v * (gx p i * ta u v w e i t) + w * (gx p i * if t = i then 1 else 0)) := by
      funext i
      rw [gx_cons_succ, ta]
      grind
    rw [TT, sm_left, gx_cons_zero, ta, e1, sm_lin, sm_lin, ih t, fx_congr ih, fx_sm]
    have e2 : ∀ i, fx (fun s => gx p i * ta u v w e i s) t = gx p i * fx (ta u v w e i) t := fun i => by
      have := fx_lin (gx p i) 0 (ta u v w e i) (ta u v w e i) t
      simpa using this
    rw [sm_congr fun i _ => e2 i]
    have e3 : sm N (fun i => gx p i * if t = i then 1 else 0) = gx p t := by
      rcases Nat.lt_or_ge t N with h1 | h1
      · exact sm_pick N _ t h1
      · rw [gx_beyond p t (by omega), sm_zero]
        intro i hi
        rw [if_neg (by omega), Int.mul_zero]
    rw [e3]
    split <;> grind
theorem TT_lin (u v w e k m : Int) {r p q : List Int} (h : ∀ t, gx r t = k * gx p t + m * gx q t) (t : Nat) : TT u v w e r t = k * TT u v w e p t + m * TT u v w e q t := by
  have hN : ∃ N, r.length ≤ N ∧ p.length ≤ N ∧ q.length ≤ N := ⟨r.length + p.length + q.length, by omega, by omega, by omega⟩
  obtain ⟨N, h1, h2, h3⟩ := hN
  rw [TT_sm u v w e r N h1, TT_sm u v w e p N h2, TT_sm u v w e q N h3, ← sm_lin]
  exact sm_congr fun i _ => by rw [h i]; grind
theorem TT_congr (u v w e : Int) {p q : List Int} (h : ∀ t, gx p t = gx q t) (t : Nat) : TT u v w e p t = TT u v w e q t := by
  have := TT_lin u v w e 1 0 (r := p) (p := q) (q := q) (fun t => by rw [h t]; omega) t
  simpa using this
theorem TT_zero (u v w e : Int) {p : List Int} (h : ∀ t, gx p t = 0) (t : Nat) : TT u v w e p t = 0 := by
  rw [TT_congr u v w e (q := []) (fun t => by rw [h t, gx_nil])]; rfl
def lof (n : Nat) (F : Nat → Int) : List Int := (List.range n).map F
theorem gx_lof (n : Nat) (F : Nat → Int) (h : ∀ t, n ≤ t → F t = 0) (t : Nat) : gx (lof n F) t = F t := by
  rcases Nat.lt_or_ge t n with h1 | h1
  · simp [gx, lof, h1]
  · rw [h t h1, gx_beyond _ _ (by simpa [lof] using h1)]
theorem cv_len (p f : List Int) (t : Nat) (h : p.length + f.length ≤ t) : cv (gx p) (gx f) t = 0 := by
  refine sm_zero _ fun i hi => ?_
  rcases Nat.lt_or_ge i p.length with h1 | h1
  · rw [gx_beyond f _ (by omega), Int.mul_zero]
  · rw [gx_beyond p _ h1, Int.zero_mul]
theorem leib (u v w e : Int) (f : List Int) : ∀ (p r : List Int), (∀ t, gx r t = cv (gx p) (gx f) t) → ∀ t, TT u v w e r t = cv (TT u v 0 1 p) (TT u v w e f) t + cv (TT u v w 0 p) (gx f) t
  | [], r, h, t => by
    rw [TT_zero u v w e (fun t => by rw [h t, cv_zl gx_nil]), cv_zl (a := TT u v 0 1 []) (fun _ => rfl), cv_zl (a := TT u v w 0 []) (fun _ => rfl)]
    rfl
  | c :: p, r, h, t => by
    have hr' : ∃ r', ∀ t, gx r' t = cv (gx p) (gx f) t := ⟨lof (p.length + f.length) (cv (gx p) (gx f)), gx_lof _ _ fun t ht => cv_len p f t ht⟩
    obtain ⟨r', hr'⟩ := hr'
    have ih := leib u v w e f p r' hr'
    have h1 : TT u v w e r t = c * TT u v w e f t + 1 * TT u v w e (0 :: r') t := TT_lin u v w e c 1 (fun t => by
      rw [h t, cv_cons, gx_cons, fx_congr hr']
      split <;> omega) t
    have h2 : ∀ i, TT u v 0 1 (c :: p) i = 1 * (if i = 0 then c else 0) + 1 * (u * fx (TT u v 0 1 p) i + v * TT u v 0 1 p i) := fun i => by
      rw [TT]; split <;> grind
    have h3 : ∀ i, TT u v w 0 (c :: p) i = u * fx (TT u v w 0 p) i + 1 * (v * TT u v w 0 p i + w * gx p i) := fun i => by
      rw [TT]; split <;> grind
    have h4 : TT u v w e (0 :: r') t = u * fx (TT u v w e r') t + (v * TT u v w e r' t + w * gx r' t) := by
      rw [TT]; split <;> grind
    rw [h1, cv_congr h2 (fun _ => rfl), cv_congr h3 (fun _ => rfl), cv_linl, cv_linl, cv_linl, cv_linl, cv_c, cv_xl, cv_xl, h4, ih t, hr' t]
    have h5 : fx (TT u v w e r') t = fx (fun i => 1 * cv (TT u v 0 1 p) (TT u v w e f) i + 1 * cv (TT u v w 0 p) (gx f) i) t := fx_congr (fun i => by rw [ih i]; omega) t
    rw [h5, fx_lin]
    grind
theorem cv_sml (n : Nat) (A : Nat → Nat → Int) (g : Nat → Int) (t : Nat) : cv (fun i => sm n fun j => A j i) g t = sm n fun j => cv (A j) g t := by
  simp only [cv]
  rw [← sm_comm]
  refine sm_congr fun i _ => ?_
  rw [Int.mul_comm, ← sm_mul]
  exact sm_congr fun j _ => Int.mul_comm _ _
theorem cv_smr (n : Nat) (a : Nat → Int) (G : Nat → Nat → Int) (t : Nat) : cv a (fun i => sm n fun j => G j i) t = sm n fun j => cv a (G j) t := by
  simp only [cv]
  rw [← sm_comm]
  refine sm_congr fun i _ => ?_
  rw [← sm_mul]
theorem TT_sum (u v w e : Int) (r : Nat → List Int) : ∀ (n : Nat) (o : List Int), (∀ t, gx o t = sm n fun j => gx (r j) t) → ∀ t, TT u v w e o t = sm n fun j => TT u v w e (r j) t
  | 0, o, h, t => TT_zero u v w e h t
  | n + 1, o, h, t => by
    have ho : ∃ o', ∀ t, gx o' t = gx o t - gx (r n) t := ⟨lof (o.length + (r n).length) fun t => gx o t - gx (r n) t, gx_lof _ _ fun t ht => by
      rw [gx_beyond o t (by omega), gx_beyond (r n) t (by omega)]; rfl⟩
    obtain ⟨o', ho⟩ := ho
    have ih := TT_sum u v w e r n o' (fun t => by rw [ho t, h t, sm]; omega) t
    have h1 := TT_lin u v w e 1 1 (r := o) (p := o') (q := r n) (fun t => by rw [ho t]; omega) t
    rw [h1, ih, sm]
    omega
theorem cv_list (p f : List Int) : ∃ r : List Int, ∀ t, gx r t = cv (gx p) (gx f) t := ⟨lof (p.length + f.length) (cv (gx p) (gx f)), gx_lof _ _ fun t ht => cv_len p f t ht⟩
set_option linter.unusedVariables false
set_option linter.unusedSimpArgs false
theorem TT_00 (u v : Int) : ∀ (p : List Int) (t : Nat), TT u v 0 0 p t = 0
  | [], t => rfl
  | c :: p, t => by
    have h : fx (TT u v 0 0 p) t = 0 := by
      rw [fx_congr (b := fun _ => 0) (TT_00 u v p)]
      cases t <;> rfl
    rw [TT, h, TT_00 u v p t]
    split <;> simp
theorem leib_s (u v : Int) (f p r : List Int) (h : ∀ t, gx r t = cv (gx p) (gx f) t) (t : Nat) : TT u v 0 1 r t = cv (TT u v 0 1 p) (TT u v 0 1 f) t := by
  rw [leib u v 0 1 f p r h t, cv_zl (TT_00 u v p)]
  omega
def lt1 (u v w : Int) (o : Nat → List Int) (k t : Nat) : Int := (if k = 0 then 0 else TT u v 0 1 (o (k - 1)) t) + TT u v w 0 (o k) t
theorem op_letter (u v w : Int) {C : Nat → Nat → List Int} {b b' o : Nat → List Int} {n : Nat} (hC : ∀ j k t, gx (C (j + 1) k) t = lt1 u v w (C j) k t) (hb : ∀ j, n ≤ j → ∀ t, gx (b j) t = 0)
    (hb' : ∀ j t, gx (b' j) t = lt1 u v w b j t) (ho : ∀ k t, gx (o k) t = sm n fun j => cv (gx (b j)) (gx (C j k)) t) (k t : Nat) :
    lt1 u v w o k t = sm (n + 1) fun j => cv (gx (b' j)) (gx (C j k)) t := by
  have hr : ∃ r : Nat → Nat → List Int, ∀ k j t, gx (r k j) t = cv (gx (b j)) (gx (C j k)) t := ⟨fun k j => (cv_list (b j) (C j k)).choose, fun k j => (cv_list (b j) (C j k)).choose_spec⟩
  obtain ⟨r, hr⟩ := hr
  have hD : TT u v w 0 (o k) t = sm n fun j => cv (TT u v 0 1 (b j)) (TT u v w 0 (C j k)) t + cv (TT u v w 0 (b j)) (gx (C j k)) t := by
    rw [TT_sum u v w 0 (r k) n (o k) (fun t => by rw [ho k t]; exact sm_congr fun j _ => (hr k j t).symm) t]
    exact sm_congr fun j _ => leib u v w 0 (C j k) (b j) (r k j) (hr k j) t
  have hS : (if k = 0 then 0 else TT u v 0 1 (o (k - 1)) t) = sm n fun j => cv (TT u v 0 1 (b j)) (fun i => if k = 0 then 0 else TT u v 0 1 (C j (k - 1)) i) t := by
    split
    · rename_i h0
      rw [sm_zero]
      exact fun i _ => cv_zr (fun _ => rfl) _ _
    · rename_i h0
      rw [TT_sum u v 0 1 (r (k - 1)) n (o (k - 1)) (fun t => by rw [ho (k - 1) t]; exact sm_congr fun j _ => (hr (k - 1) j t).symm) t]
      exact sm_congr fun j _ => leib_s u v (C j (k - 1)) (b j) (r (k - 1) j) (hr (k - 1) j) t
  rw [lt1, hS, hD, sm_add]
  have h1 : (fun j => cv (gx (b' j)) (gx (C j k)) t) = fun j => cv (fun i => if j = 0 then 0 else TT u v 0 1 (b (j - 1)) i) (gx (C j k)) t + cv (TT u v w 0 (b j)) (gx (C j k)) t := by
    funext j
    have h2 : ∀ i, gx (b' j) i = 1 * (if j = 0 then 0 else TT u v 0 1 (b (j - 1)) i) + 1 * TT u v w 0 (b j) i := fun i => by rw [hb' j i, lt1]; omega
    rw [cv_congr h2 (fun _ => rfl), cv_linl, Int.one_mul, Int.one_mul]
  rw [h1, sm_add, sm_left, sm, cv_zl (a := fun i => if 0 = 0 then 0 else _) (fun i => if_pos rfl), cv_zl (a := TT u v w 0 (b n)) (fun i => TT_zero u v w 0 (hb n (Nat.le_refl _)) i)]
  have h3 : sm n (fun j => cv (fun i => if j + 1 = 0 then 0 else TT u v 0 1 (b (j + 1 - 1)) i) (gx (C (j + 1) k)) t) = sm n fun j => cv (TT u v 0 1 (b j)) (fun i => if k = 0 then 0 else TT u v 0 1 (C j (k - 1)) i) t + cv (TT u v 0 1 (b j)) (TT u v w 0 (C j k)) t := by
    refine sm_congr fun j _ => ?_
    have h4 : ∀ i, gx (C (j + 1) k) i = 1 * (if k = 0 then 0 else TT u v 0 1 (C j (k - 1)) i) + 1 * TT u v w 0 (C j k) i := fun i => by rw [hC j k i, lt1]; omega
    rw [cv_congr (b := TT u v 0 1 (b j)) (fun i => by rw [if_neg (by omega), Nat.add_sub_cancel]) h4, cv_linr, Int.one_mul, Int.one_mul]
  rw [h3, sm_add]
  omega
theorem op_comp (u v w : Int) {C O : Nat → Nat → List Int} {B : Nat → Nat → List Int} {n : Nat} (hC : ∀ j k t, gx (C (j + 1) k) t = lt1 u v w (C j) k t) (hO : ∀ j k t, gx (O (j + 1) k) t = lt1 u v w (O j) k t)
    (hb : ∀ j, n ≤ j → ∀ t, gx (B 0 j) t = 0) (hB : ∀ i j t, gx (B (i + 1) j) t = lt1 u v w (B i) j t)
    (h0 : ∀ k t, gx (O 0 k) t = sm n fun j => cv (gx (B 0 j)) (gx (C j k)) t) : ∀ i, (∀ j, n + i ≤ j → ∀ t, gx (B i j) t = 0) ∧ ∀ k t, gx (O i k) t = sm (n + i) fun j => cv (gx (B i j)) (gx (C j k)) t
  | 0 => ⟨hb, h0⟩
  | i + 1 => by
    obtain ⟨h1, h2⟩ := op_comp u v w hC hO hb hB h0 i
    refine ⟨fun j hj t => ?_, fun k t => ?_⟩
    · rw [hB, lt1, TT_zero u v w 0 (h1 j (by omega)), if_neg (by omega), TT_zero u v 0 1 (h1 (j - 1) (by omega))]; rfl
    · rw [hO i k t, op_letter u v w hC h1 (hB i) h2 k t]; rfl
theorem op_prod (u v w : Int) {C O : Nat → Nat → List Int} {a P : Nat → List Int} {B : Nat → Nat → List Int} {n m N : Nat} (hC : ∀ j k t, gx (C (j + 1) k) t = lt1 u v w (C j) k t) (hO : ∀ j k t, gx (O (j + 1) k) t = lt1 u v w (O j) k t)
    (hb : ∀ j, n ≤ j → ∀ t, gx (B 0 j) t = 0) (hB : ∀ i j t, gx (B (i + 1) j) t = lt1 u v w (B i) j t)
    (h0 : ∀ k t, gx (O 0 k) t = sm n fun j => cv (gx (B 0 j)) (gx (C j k)) t) (hP : ∀ j t, gx (P j) t = sm m fun i => cv (gx (a i)) (gx (B i j)) t) (hN : n + m ≤ N) (k t : Nat) :
    sm N (fun j => cv (gx (P j)) (gx (C j k)) t) = sm m fun i => cv (gx (a i)) (gx (O i k)) t := by
  have h1 : (fun j => cv (gx (P j)) (gx (C j k)) t) = fun j => sm m fun i => cv (cv (gx (a i)) (gx (B i j))) (gx (C j k)) t := by
    funext j
    rw [cv_congr (hP j) (fun _ => rfl), cv_sml]
  rw [h1, ← sm_comm m N (fun i j => cv (cv (gx (a i)) (gx (B i j))) (gx (C j k)) t)]
  refine sm_congr fun i hi => ?_
  obtain ⟨h2, h3⟩ := op_comp u v w hC hO hb hB h0 i
  rw [sm_congr fun j _ => (cv_assoc (gx (B i j)) (gx (C j k)) (a i) t).symm, ← cv_smr]
  refine cv_congr (fun _ => rfl) (fun i' => ?_) t
  rw [h3 k i']
  exact sm_more (fun j hj => cv_zl (h2 j (by omega)) _ _) (by omega)
theorem lt1_add (u v w : Int) {a b c : Nat → List Int} (h : ∀ j t, gx (c j) t = gx (a j) t + gx (b j) t) (k t : Nat) : lt1 u v w c k t = lt1 u v w a k t + lt1 u v w b k t := by
  have h' : ∀ j t, gx (c j) t = 1 * gx (a j) t + 1 * gx (b j) t := fun j t => by rw [h]; omega
  rw [lt1, lt1, lt1, TT_lin u v w 0 1 1 (h' k)]
  split
  · omega
  · rw [TT_lin u v 0 1 1 1 (h' (k - 1))]
    omega
def lu (al y : Int) : Int := if al = 3 then y else 1
def lv (al : Int) : Int := if al = 1 then 1 else 0
def lw (al : Int) : Int := if al = 2 then 1 else 0
theorem TT_co : ∀ (p : List Int) (t : Nat), TT 1 1 0 1 p t = co 1 p t
  | [], t => by cases t <;> rfl
  | c :: p, 0 => by rw [TT, co, ← TT_co p 0, fx]; simp
  | c :: p, t + 1 => by rw [TT, co, ← TT_co p t, ← TT_co p (t + 1), fx]; simp
theorem TT_dl (y : Int) : ∀ (p : List Int) (t : Nat), TT y 0 0 1 p t = dl y p t
  | [], t => by cases t <;> rfl
  | c :: p, 0 => by rw [TT, dl, fx]; simp
  | c :: p, t + 1 => by rw [TT, dl, ← TT_dl y p t, fx]; simp
theorem TT_id : ∀ (p : List Int) (t : Nat), TT 1 0 0 1 p t = gx p t
  | [], t => by rw [gx_nil]; rfl
  | c :: p, 0 => by rw [TT, gx_cons_zero, fx]; simp
  | c :: p, t + 1 => by rw [TT, gx_cons_succ, fx, TT_id p t]; simp
theorem TT_de : ∀ (p : List Int) (t : Nat), TT 1 0 1 0 p t = ((t : Int) + 1) * gx p (t + 1)
  | [], t => by rw [gx_nil, Int.mul_zero]; rfl
  | c :: p, 0 => by rw [TT, fx, gx_cons_succ]; simp
  | c :: p, t + 1 => by rw [TT, fx, TT_de p t, gx_cons_succ]; push_cast; simp; grind
theorem gx_SGM {al y : Int} (ha : al = 1 ∨ al = 2 ∨ al = 3) (zs : List Int) (t : Nat) : gx (SGM al y zs) t = TT (lu al y) (lv al) 0 1 zs t := by
  unfold SGM lu lv
  rcases ha with rfl | rfl | rfl
  · simp only [if_true, if_neg (show ¬ ((1 : Int) = 3) by decide)]
    rw [gx_coz, ← TT_co]
    exact TT_congr _ _ _ _ (fun t => gx_tr _ _) t
  · simp only [if_neg (show ¬ ((2 : Int) = 3) by decide), if_neg (show ¬ ((2 : Int) = 1) by decide)]
    rw [gx_tr, TT_id]
  · simp only [if_true, if_neg (show ¬ ((3 : Int) = 1) by decide)]
    rw [gx_dlz, TT_dl]
theorem gx_DLM {al y : Int} (ha : al = 1 ∨ al = 2 ∨ al = 3) (zs : List Int) (t : Nat) : gx (DLM al zs) t = TT (lu al y) (lv al) (lw al) 0 zs t := by
  unfold DLM lu lv lw
  rcases ha with rfl | rfl | rfl
  · simp only [if_true, if_neg (show ¬ ((1 : Int) = 3) by decide), if_neg (show ¬ ((1 : Int) = 2) by decide)]
    rw [TT_00, gx_nil]
  · simp only [if_true, if_neg (show ¬ ((2 : Int) = 3) by decide), if_neg (show ¬ ((2 : Int) = 1) by decide)]
    rw [gx_derz', TT_de, gx_tr]
  · simp only [if_true, if_neg (show ¬ ((3 : Int) = 1) by decide), if_neg (show ¬ ((3 : Int) = 2) by decide)]
    rw [TT_00, gx_nil]
theorem gx_mulp_cv (a b : List Int) (t : Nat) : gx (mulp a b) t = cv (gx a) (gx b) t := by
  rw [gx_mulp, ps_sq _ _ _ _ (Nat.le_refl _), cv]
  have : ∀ n F, sq F n = sm n F := fun n F => by
    induction n with
    | zero => rfl
    | succ n ih => rw [sq, sm, ih]
  exact this _ _
theorem zero_past (zss : List (List Int)) (j : Nat) (h : olen zss ≤ j) (t : Nat) : gx (gt zss j) t = 0 := by
  rw [← gx_tr, tr, olen_zero zss j h]
  rfl
theorem gx_gtomp {f : List Int → List Int} (h0 : ∀ z, (∀ t, gx z t = 0) → ∀ t, gx (f z) t = 0) (z : List (List Int)) (j t : Nat) : gx (gt (omp f z) j) t = gx (f (gt z j)) t := by
  rw [omp, gx_gtrng]
  split
  · rfl
  · rw [h0 _ (zero_past z j (by omega)) t]
theorem gx_LXz {al y : Int} (ha : al = 1 ∨ al = 2 ∨ al = 3) (b : List (List Int)) (j t : Nat) : gx (gt (LXz al y b) j) t = lt1 (lu al y) (lv al) (lw al) (gt b) j t := by
  have hs : ∀ z, (∀ t, gx z t = 0) → ∀ t, gx (SGM al y z) t = 0 := fun z hz t => by rw [gx_SGM ha, TT_zero _ _ _ _ hz]
  have hd : ∀ z, (∀ t, gx z t = 0) → ∀ t, gx (DLM al z) t = 0 := fun z hz t => by rw [gx_DLM (y := y) ha, TT_zero _ _ _ _ hz]
  rw [LXz, gx_gtopz _ rfl, gx_gtcons, gx_gtotr, gx_gtotr, gx_gtomp hd, gx_gtomp hs, gx_DLM (y := y) ha, lt1]
  split
  · rfl
  · rw [gx_SGM ha]
theorem gx_Bzs {al y : Int} (ha : al = 1 ∨ al = 2 ∨ al = 3) (b : List (List Int)) (i j t : Nat) : gx (gt (Bzs al y b (i + 1)) j) t = lt1 (lu al y) (lv al) (lw al) (gt (Bzs al y b i)) j t := by
  rw [Bzs, gx_gtotr, gx_LXz ha]
theorem gx_Szs (c : List Int) (b : List (List Int)) (j t : Nat) : gx (gt (Szs c b) j) t = cv (gx c) (gx (gt b j)) t := by
  rw [Szs, gx_gtrng]
  split
  · rw [gx_mulp_cv]
    exact cv_congr (fun i => gx_tr _ _) (fun i => gx_tr _ _) t
  · rw [cv_zr (zero_past b j (by omega))]
theorem gx_gtnil (j t : Nat) : gx (gt ([] : List (List Int)) j) t = 0 := gx_nil t
theorem gx_Pzs (al y : Int) (a b : List (List Int)) (j t : Nat) : ∀ n, gx (gt (Pzs al y a b n) j) t = sm n fun i => cv (gx (gt a i)) (gx (gt (Bzs al y b i) j)) t
  | 0 => by rw [Pzs, sm]; exact gx_gtnil j t
  | n + 1 => by rw [Pzs, gx_gtotr, gx_gtopz _ rfl, gx_gtotr, gx_Szs, gx_Pzs al y a b j t n, sm]
theorem assoc_eq {al y : Int} (ha : al = 1 ∨ al = 2 ∨ al = 3) (a b c : List (List Int)) (N : Nat) (hN : olen b + olen a ≤ N) (k t : Nat) : gx (gt (Pzs al y (Pzs al y a b (olen a)) c N) k) t = gx (gt (Pzs al y a (Pzs al y b c (olen b)) (olen a)) k) t := by
  rw [gx_Pzs, gx_Pzs]
  exact op_prod (lu al y) (lv al) (lw al) (C := fun i => gt (Bzs al y c i)) (O := fun i => gt (Bzs al y (Pzs al y b c (olen b)) i)) (a := gt a) (P := gt (Pzs al y a b (olen a))) (B := fun i => gt (Bzs al y b i)) (n := olen b) (m := olen a) (N := N) (fun j k t => gx_Bzs ha c j k t) (fun j k t => gx_Bzs ha _ j k t) (fun j hj t => zero_past b j hj t) (fun k j t => gx_Bzs ha b k j t) (fun k t => by show gx (gt (Bzs al y _ 0) k) t = _; rw [Bzs, gx_Pzs]; rfl) (fun j t => gx_Pzs al y a b j t _) hN k t
theorem Bzs_add {al y : Int} (ha : al = 1 ∨ al = 2 ∨ al = 3) {a b c : List (List Int)} (h : ∀ j t, gx (gt c j) t = gx (gt a j) t + gx (gt b j) t) : ∀ i j t, gx (gt (Bzs al y c i) j) t = gx (gt (Bzs al y a i) j) t + gx (gt (Bzs al y b i) j) t
  | 0, j, t => h j t
  | i + 1, j, t => by rw [gx_Bzs ha, gx_Bzs ha, gx_Bzs ha, lt1_add _ _ _ (Bzs_add ha h i)]
theorem right_sum {al y : Int} (ha : al = 1 ∨ al = 2 ∨ al = 3) {a b c d : List (List Int)} (h : ∀ j t, gx (gt d j) t = gx (gt b j) t + gx (gt c j) t) (n k t : Nat) : gx (gt (Pzs al y a d n) k) t = gx (gt (Pzs al y a b n) k) t + gx (gt (Pzs al y a c n) k) t := by
  rw [gx_Pzs, gx_Pzs, gx_Pzs, ← sm_add]
  refine sm_congr fun i _ => ?_
  have h2 : ∀ s, gx (gt (Bzs al y d i) k) s = 1 * gx (gt (Bzs al y b i) k) s + 1 * gx (gt (Bzs al y c i) k) s := fun s => by rw [Bzs_add ha h i k s]; omega
  rw [cv_congr (fun _ => rfl) h2, cv_linr, Int.one_mul, Int.one_mul]
theorem Pzs_more {al y : Int} (a b : List (List Int)) (n N : Nat) (hn : olen a ≤ n) (hN : n ≤ N) (k t : Nat) : gx (gt (Pzs al y a b N) k) t = gx (gt (Pzs al y a b n) k) t := by
  rw [gx_Pzs, gx_Pzs]
  exact sm_more (fun i hi => cv_zl (zero_past a i (by omega)) _ _) hN
theorem left_sum {al y : Int} {a b c d : List (List Int)} (h : ∀ j t, gx (gt d j) t = gx (gt a j) t + gx (gt b j) t) (n k t : Nat) : gx (gt (Pzs al y d c n) k) t = gx (gt (Pzs al y a c n) k) t + gx (gt (Pzs al y b c n) k) t := by
  rw [gx_Pzs, gx_Pzs, gx_Pzs, ← sm_add]
  refine sm_congr fun i _ => ?_
  have h2 : ∀ s, gx (gt d i) s = 1 * gx (gt a i) s + 1 * gx (gt b i) s := fun s => by rw [h i s]; omega
  rw [cv_congr h2 (fun _ => rfl), cv_linl, Int.one_mul, Int.one_mul]
end Go.Proofs.YtejnhpjejcpekaaGreatDoor.Sk
