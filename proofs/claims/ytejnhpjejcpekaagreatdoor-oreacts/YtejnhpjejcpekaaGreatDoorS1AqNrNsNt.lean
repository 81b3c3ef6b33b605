/-
  Plain facts on skew products: polynomials by their entries, what a letter makes of a polynomial, the rule of products, and that a product of operators acts as one behind the other.
-/
import Derived.Test.YtejnhpjejcpekaaGreatDoorPl
import Derived.Test.YtejnhpjejcpekaaGreatDoorApEpGiGj
import Derived.Defers
import Derived.Recover
import Derived.Laws.Pointers
import Derived.Deep.DeepFit
import Derived.Test.YtejnhpjejcpekaaGreatDoorHxCbNgNk
import Derived.Test.YtejnhpjejcpekaaGreatDoorAdDtAgAiVdRtDhVeRsVfVcAjDrBmBqDuAkAl
import Derived.Test.YtejnhpjejcpekaaGreatDoorAcDsAeAfBnBoBrBpAh
import Derived.Test.YtejnhpjejcpekaaGreatDoorKqOr
namespace Go.Proofs.YtejnhpjejcpekaaGreatDoor.Sk
open Go.Proofs.YtejnhpjejcpekaaGreatDoor
set_option maxHeartbeats 8000000
theorem gx_cons_zero (c : Int) (l : List Int) : gx (c :: l) 0 = c := rfl
theorem gx_cons_succ (c : Int) (l : List Int) (t : Nat) : gx (c :: l) (t + 1) = gx l t := rfl
def sm : Nat → (Nat → Int) → Int
  | 0, _ => 0
  | n + 1, F => sm n F + F n
theorem sm_congr {n : Nat} {F G : Nat → Int} (h : ∀ i, i < n → F i = G i) : sm n F = sm n G := by
  induction n with
  | zero => rfl
  | succ n ih => rw [sm, sm, ih fun i hi => h i (by omega), h n (by omega)]
theorem sm_zero (n : Nat) {F : Nat → Int} (h : ∀ i, i < n → F i = 0) : sm n F = 0 := by
  induction n with
  | zero => rfl
  | succ n ih => rw [sm, ih fun i hi => h i (by omega), h n (by omega)]; rfl
theorem sm_lin (n : Nat) (k m : Int) (F G : Nat → Int) : sm n (fun i => k * F i + m * G i) = k * sm n F + m * sm n G := by
  induction n with
  | zero => simp [sm]
  | succ n ih => rw [sm, sm, sm, ih]; grind
theorem sm_add (n : Nat) (F G : Nat → Int) : sm n (fun i => F i + G i) = sm n F + sm n G := by
  have := sm_lin n 1 1 F G
  simpa using this
theorem sm_mul (n : Nat) (k : Int) (F : Nat → Int) : sm n (fun i => k * F i) = k * sm n F := by
  have := sm_lin n k 0 F F
  simpa using this
theorem sm_left (n : Nat) (F : Nat → Int) : sm (n + 1) F = F 0 + sm n fun i => F (i + 1) := by
  induction n with
  | zero => simp [sm]
  | succ n ih => rw [sm, ih, sm]; omega
theorem sm_more {n N : Nat} {F : Nat → Int} (h : ∀ i, n ≤ i → F i = 0) (hN : n ≤ N) : sm N F = sm n F := by
  induction N with
  | zero => rw [show n = 0 by omega]
  | succ N ih =>
    rcases Nat.lt_or_ge n (N + 1) with h1 | h1
    · rw [sm, ih (by omega), h N (by omega), Int.add_zero]
    · rw [show n = N + 1 by omega]
theorem sm_comm (n m : Nat) (F : Nat → Nat → Int) : sm n (fun i => sm m (F i)) = sm m fun j => sm n fun i => F i j := by
  induction n with
  | zero => simp only [sm]; rw [sm_zero]; exact fun _ _ => rfl
  | succ n ih => simp only [sm]; rw [ih, ← sm_add]
def fx (g : Nat → Int) : Nat → Int
  | 0 => 0
  | t + 1 => g t
theorem fx_lin (k m : Int) (a b : Nat → Int) (t : Nat) : fx (fun i => k * a i + m * b i) t = k * fx a t + m * fx b t := by
  cases t with
  | zero => simp [fx]
  | succ t => rfl
theorem fx_congr {a b : Nat → Int} (h : ∀ i, a i = b i) (t : Nat) : fx a t = fx b t := by
  rw [funext h]
def cv (a g : Nat → Int) (t : Nat) : Int := sm (t + 1) fun i => a i * g (t - i)
theorem cv_congr {a b g h : Nat → Int} (h1 : ∀ i, a i = b i) (h2 : ∀ i, g i = h i) (t : Nat) : cv a g t = cv b h t := by
  rw [funext h1, funext h2]
theorem cv_linl (k m : Int) (a b g : Nat → Int) (t : Nat) : cv (fun i => k * a i + m * b i) g t = k * cv a g t + m * cv b g t := by
  rw [cv, cv, cv, ← sm_lin]
  exact sm_congr fun i _ => by grind
theorem cv_linr (k m : Int) (a g h : Nat → Int) (t : Nat) : cv a (fun i => k * g i + m * h i) t = k * cv a g t + m * cv a h t := by
  rw [cv, cv, cv, ← sm_lin]
  exact sm_congr fun i _ => by grind
theorem cv_zl {a : Nat → Int} (h : ∀ i, a i = 0) (g : Nat → Int) (t : Nat) : cv a g t = 0 := sm_zero _ fun i _ => by rw [h i, Int.zero_mul]
theorem cv_zr {g : Nat → Int} (h : ∀ i, g i = 0) (a : Nat → Int) (t : Nat) : cv a g t = 0 := sm_zero _ fun i _ => by rw [h, Int.mul_zero]
theorem cv_xl (a g : Nat → Int) (t : Nat) : cv (fx a) g t = fx (cv a g) t := by
  cases t with
  | zero => simp [cv, fx, sm]
  | succ t =>
    rw [cv, sm_left, fx, fx, cv, Int.zero_mul, Int.zero_add]
    exact sm_congr fun i _ => by rw [fx, Nat.add_sub_add_right]
theorem gx_cons (c : Int) (l : List Int) (t : Nat) : gx (c :: l) t = (if t = 0 then c else 0) + fx (gx l) t := by
  cases t with
  | zero => rw [gx_cons_zero, fx]; simp
  | succ t => rw [gx_cons_succ, fx]; simp
theorem cv_c (c : Int) (g : Nat → Int) (t : Nat) : cv (fun i => if i = 0 then c else 0) g t = c * g t := by
  rw [cv, sm_left, if_pos rfl, Nat.sub_zero, sm_zero, Int.add_zero]
  intro i _
  rw [if_neg (by omega), Int.zero_mul]
theorem cv_cons (c : Int) (l : List Int) (g : Nat → Int) (t : Nat) : cv (gx (c :: l)) g t = c * g t + fx (cv (gx l) g) t := by
  have h : ∀ i, gx (c :: l) i = 1 * (if i = 0 then c else 0) + 1 * fx (gx l) i := fun i => by rw [gx_cons]; omega
  rw [cv_congr h (fun _ => rfl), cv_linl, cv_c, cv_xl, Int.one_mul, Int.one_mul]
theorem gx_nil (t : Nat) : gx [] t = 0 := by simp [gx]
theorem cv_assoc (b g : Nat → Int) : ∀ (l : List Int) (t : Nat), cv (gx l) (cv b g) t = cv (cv (gx l) b) g t
  | [], t => by rw [cv_zl gx_nil, cv_zl]; exact fun i => cv_zl gx_nil _ _
  | c :: l, t => by
    rw [cv_cons, fx_congr (cv_assoc b g l)]
    have h : ∀ i, cv (gx (c :: l)) b i = c * b i + 1 * fx (cv (gx l) b) i := fun i => by rw [cv_cons, Int.one_mul]
    rw [cv_congr h (fun _ => rfl), cv_linl, cv_xl, Int.one_mul]
def TT (u v w e : Int) : List Int → Nat → Int
  | [], _ => 0
  | c :: p, t => (if t = 0 then c * e else 0) + (u * fx (TT u v w e p) t + (v * TT u v w e p t + w * gx p t))
def ta (u v w e : Int) : Nat → Nat → Int
  | 0, t => if t = 0 then e else 0
  | i + 1, t => u * fx (ta u v w e i) t + (v * ta u v w e i t + w * (if t = i then 1 else 0))
theorem gx_beyond (l : List Int) (t : Nat) (h : l.length ≤ t) : gx l t = 0 := by simp [gx, List.getElem?_eq_none h]
theorem sm_pick (n : Nat) (F : Nat → Int) (t : Nat) (h : t < n) : sm n (fun i => F i * (if t = i then 1 else 0)) = F t := by
  induction n with
  | zero => omega
  | succ n ih =>
    rw [sm]
    rcases Nat.lt_or_ge t n with h1 | h1
    · rw [ih h1, if_neg (by omega), Int.mul_zero, Int.add_zero]
    · have h2 : t = n := by omega
      subst h2
      rw [sm_zero, if_pos rfl]
      · omega
      · intro i hi
        rw [if_neg (by omega), Int.mul_zero]
theorem fx_sm (n : Nat) (G : Nat → Nat → Int) (t : Nat) : fx (fun s => sm n fun i => G i s) t = sm n fun i => fx (G i) t := by
  cases t with
  | zero => simp only [fx]; rw [sm_zero]; exact fun _ _ => rfl
  | succ t => rfl
theorem TT_sm (u v w e : Int) : ∀ (p : List Int) (N : Nat), p.length ≤ N → ∀ t, TT u v w e p t = sm N fun i => gx p i * ta u v w e i t
  | [], N, _, t => by rw [TT, sm_zero]; intro i _; rw [gx_nil, Int.zero_mul]
  | c :: p, 0, h, t => by simp at h
  | c :: p, N + 1, h, t => by
    have h' : p.length ≤ N := by simpa using h
    have ih := TT_sm u v w e p N h'
    have e1 : (fun i => gx (c :: p) (i + 1) * ta u v w e (i + 1) t) = fun i => u * (gx p i * fx (ta u v w e i) t) + 1 * (v * (gx p i * ta u v w e i t) + w * (gx p i * if t = i then 1 else 0)) := by
      funext i
      rw [gx_cons_succ, ta]
      grind
    rw [TT, sm_left, gx_cons_zero, ta, e1, sm_lin, sm_lin, ih t, fx_congr ih, fx_sm]
    have e2 : ∀ i, fx (fun s => gx p i * ta u v w e i s) t = gx p i * fx (ta u v w e i) t := fun i => by
      have := fx_lin (gx p i) 0 (ta u v w e i) (ta u v w e i) t
      simpa using this
    rw [sm_congr fun i _ => e2 i]
    have e3 : sm N (fun i => gx p i * if t = i then 1 else 0) = gx p t := by
      rcases Nat.lt_or_ge t N with h1 | h1
      · exact sm_pick N _ t h1
      · rw [gx_beyond p t (by omega), sm_zero]
        intro i hi
        rw [if_neg (by omega), Int.mul_zero]
    rw [e3]
    split <;> grind
theorem TT_lin (u v w e k m : Int) {r p q : List Int} (h : ∀ t, gx r t = k * gx p t + m * gx q t) (t : Nat) : TT u v w e r t = k * TT u v w e p t + m * TT u v w e q t := by
  have hN : ∃ N, r.length ≤ N ∧ p.length ≤ N ∧ q.length ≤ N := ⟨r.length + p.length + q.length, by omega, by omega, by omega⟩
  obtain ⟨N, h1, h2, h3⟩ := hN
  rw [TT_sm u v w e r N h1, TT_sm u v w e p N h2, TT_sm u v w e q N h3, ← sm_lin]
  exact sm_congr fun i _ => by rw [h i]; grind
theorem TT_congr (u v w e : Int) {p q : List Int} (h : ∀ t, gx p t = gx q t) (t : Nat) : TT u v w e p t = TT u v w e q t := by
  have := TT_lin u v w e 1 0 (r := p) (p := q) (q := q) (fun t => by rw [h t]; omega) t
  simpa using this
theorem TT_zero (u v w e : Int) {p : List Int} (h : ∀ t, gx p t = 0) (t : Nat) : TT u v w e p t = 0 := by
  rw [TT_congr u v w e (q := []) (fun t => by rw [h t, gx_nil])]; rfl
def lof (n : Nat) (F : Nat → Int) : List Int := (List.range n).map F
theorem gx_lof (n : Nat) (F : Nat → Int) (h : ∀ t, n ≤ t → F t = 0) (t : Nat) : gx (lof n F) t = F t := by
  rcases Nat.lt_or_ge t n with h1 | h1
  · simp [gx, lof, h1]
  · rw [h t h1, gx_beyond _ _ (by simpa [lof] using h1)]
theorem cv_len (p f : List Int) (t : Nat) (h : p.length + f.length ≤ t) : cv (gx p) (gx f) t = 0 := by
  refine sm_zero _ fun i hi => ?_
  rcases Nat.lt_or_ge i p.length with h1 | h1
  · rw [gx_beyond f _ (by omega), Int.mul_zero]
  · rw [gx_beyond p _ h1, Int.zero_mul]
theorem leib (u v w e : Int) (f : List Int) : ∀ (p r : List Int), (∀ t, gx r t = cv (gx p) (gx f) t) → ∀ t, TT u v w e r t = cv (TT u v 0 1 p) (TT u v w e f) t + cv (TT u v w 0 p) (gx f) t
  | [], r, h, t => by
    rw [TT_zero u v w e (fun t => by rw [h t, cv_zl gx_nil]), cv_zl (a := TT u v 0 1 []) (fun _ => rfl), cv_zl (a := TT u v w 0 []) (fun _ => rfl)]
    rfl
  | c :: p, r, h, t => by
    have hr' : ∃ r', ∀ t, gx r' t = cv (gx p) (gx f) t := ⟨lof (p.length + f.length) (cv (gx p) (gx f)), gx_lof _ _ fun t ht => cv_len p f t ht⟩
    obtain ⟨r', hr'⟩ := hr'
    have ih := leib u v w e f p r' hr'
    have h1 : TT u v w e r t = c * TT u v w e f t + 1 * TT u v w e (0 :: r') t := TT_lin u v w e c 1 (fun t => by
      rw [h t, cv_cons, gx_cons, fx_congr hr']
      split <;> omega) t
    have h2 : ∀ i, TT u v 0 1 (c :: p) i = 1 * (if i = 0 then c else 0) + 1 * (u * fx (TT u v 0 1 p) i + v * TT u v 0 1 p i) := fun i => by
      rw [TT]; split <;> grind
    have h3 : ∀ i, TT u v w 0 (c :: p) i = u * fx (TT u v w 0 p) i + 1 * (v * TT u v w 0 p i + w * gx p i) := fun i => by
      rw [TT]; split <;> grind
    have h4 : TT u v w e (0 :: r') t = u * fx (TT u v w e r') t + (v * TT u v w e r' t + w * gx r' t) := by
      rw [TT]; split <;> grind
    rw [h1, cv_congr h2 (fun _ => rfl), cv_congr h3 (fun _ => rfl), cv_linl, cv_linl, cv_linl, cv_linl, cv_c, cv_xl, cv_xl, h4, ih t, hr' t]
    have h5 : fx (TT u v w e r') t = fx (fun i => 1 * cv (TT u v 0 1 p) (TT u v w e f) i + 1 * cv (TT u v w 0 p) (gx f) i) t := fx_congr (fun i => by rw [ih i]; omega) t
    rw [h5, fx_lin]
    grind
theorem cv_sml (n : Nat) (A : Nat → Nat → Int) (g : Nat → Int) (t : Nat) : cv (fun i => sm n fun j => A j i) g t = sm n fun j => cv (A j) g t := by
  simp only [cv]
  rw [← sm_comm]
  refine sm_congr fun i _ => ?_
  rw [Int.mul_comm, ← sm_mul]
  exact sm_congr fun j _ => Int.mul_comm _ _
theorem cv_smr (n : Nat) (a : Nat → Int) (G : Nat → Nat → Int) (t : Nat) : cv a (fun i => sm n fun j => G j i) t = sm n fun j => cv a (G j) t := by
  simp only [cv]
  rw [← sm_comm]
  refine sm_congr fun i _ => ?_
  rw [← sm_mul]
theorem TT_sum (u v w e : Int) (r : Nat → List Int) : ∀ (n : Nat) (o : List Int), (∀ t, gx o t = sm n fun j => gx (r j) t) → ∀ t, TT u v w e o t = sm n fun j => TT u v w e (r j) t
  | 0, o, h, t => TT_zero u v w e h t
  | n + 1, o, h, t => by
    have ho : ∃ o', ∀ t, gx o' t = gx o t - gx (r n) t := ⟨lof (o.length + (r n).length) fun t => gx o t - gx (r n) t, gx_lof _ _ fun t ht => by
      rw [gx_beyond o t (by omega), gx_beyond (r n) t (by omega)]; rfl⟩
    obtain ⟨o', ho⟩ := ho
    have ih := TT_sum u v w e r n o' (fun t => by rw [ho t, h t, sm]; omega) t
    have h1 := TT_lin u v w e 1 1 (r := o) (p := o') (q := r n) (fun t => by rw [ho t]; omega) t
    rw [h1, ih, sm]
    omega
theorem cv_list (p f : List Int) : ∃ r : List Int, ∀ t, gx r t = cv (gx p) (gx f) t := ⟨lof (p.length + f.length) (cv (gx p) (gx f)), gx_lof _ _ fun t ht => cv_len p f t ht⟩
theorem act_letter (u v w e : Int) {F b b' : Nat → List Int} {n : Nat} (hF : ∀ k t, gx (F (k + 1)) t = TT u v w e (F k) t) (hb : ∀ j, n ≤ j → ∀ t, gx (b j) t = 0)
    (hb' : ∀ j t, gx (b' j) t = (if j = 0 then 0 else TT u v 0 1 (b (j - 1)) t) + TT u v w 0 (b j) t) {o : List Int} (ho : ∀ t, gx o t = sm n fun j => cv (gx (b j)) (gx (F j)) t) (t : Nat) :
    TT u v w e o t = sm (n + 1) fun j => cv (gx (b' j)) (gx (F j)) t := by
  have hr : ∃ r : Nat → List Int, ∀ j t, gx (r j) t = cv (gx (b j)) (gx (F j)) t := ⟨fun j => (cv_list (b j) (F j)).choose, fun j => (cv_list (b j) (F j)).choose_spec⟩
  obtain ⟨r, hr⟩ := hr
  rw [TT_sum u v w e r n o (fun t => by rw [ho t]; exact sm_congr fun j _ => (hr j t).symm) t, sm_congr fun j _ => leib u v w e (F j) (b j) (r j) (hr j) t, sm_add]
  have h1 : (fun j => cv (gx (b' j)) (gx (F j)) t) = fun j => cv (fun i => if j = 0 then 0 else TT u v 0 1 (b (j - 1)) i) (gx (F j)) t + cv (TT u v w 0 (b j)) (gx (F j)) t := by
    funext j
    have h2 : ∀ i, gx (b' j) i = 1 * (if j = 0 then 0 else TT u v 0 1 (b (j - 1)) i) + 1 * TT u v w 0 (b j) i := fun i => by rw [hb' j i]; omega
    rw [cv_congr h2 (fun _ => rfl), cv_linl, Int.one_mul, Int.one_mul]
  rw [h1, sm_add, sm_left, sm, cv_zl (a := fun i => if 0 = 0 then 0 else _) (fun i => if_pos rfl), cv_zl (a := TT u v w 0 (b n)) (fun i => TT_zero u v w 0 (hb n (Nat.le_refl _)) i)]
  have h3 : sm n (fun j => cv (fun i => if j + 1 = 0 then 0 else TT u v 0 1 (b (j + 1 - 1)) i) (gx (F (j + 1))) t) = sm n fun j => cv (TT u v 0 1 (b j)) (TT u v w e (F j)) t :=
    sm_congr fun j _ => cv_congr (fun i => by rw [if_neg (by omega), Nat.add_sub_cancel]) (hF j) t
  rw [h3]
  omega
theorem act_comp (u v w e : Int) {F O : Nat → List Int} {B : Nat → Nat → List Int} {n : Nat} (hF : ∀ k t, gx (F (k + 1)) t = TT u v w e (F k) t) (hO : ∀ k t, gx (O (k + 1)) t = TT u v w e (O k) t)
    (hb : ∀ j, n ≤ j → ∀ t, gx (B 0 j) t = 0) (hB : ∀ k j t, gx (B (k + 1) j) t = (if j = 0 then 0 else TT u v 0 1 (B k (j - 1)) t) + TT u v w 0 (B k j) t)
    (h0 : ∀ t, gx (O 0) t = sm n fun j => cv (gx (B 0 j)) (gx (F j)) t) : ∀ k, (∀ j, n + k ≤ j → ∀ t, gx (B k j) t = 0) ∧ ∀ t, gx (O k) t = sm (n + k) fun j => cv (gx (B k j)) (gx (F j)) t
  | 0 => ⟨hb, h0⟩
  | k + 1 => by
    obtain ⟨h1, h2⟩ := act_comp u v w e hF hO hb hB h0 k
    refine ⟨fun j hj t => ?_, fun t => ?_⟩
    · rw [hB, TT_zero u v w 0 (h1 j (by omega)), if_neg (by omega), TT_zero u v 0 1 (h1 (j - 1) (by omega))]; rfl
    · rw [hO k t, act_letter u v w e hF h1 (hB k) h2 t]; rfl
theorem act_prod (u v w e : Int) {F O a P : Nat → List Int} {B : Nat → Nat → List Int} {n m N : Nat} (hF : ∀ k t, gx (F (k + 1)) t = TT u v w e (F k) t) (hO : ∀ k t, gx (O (k + 1)) t = TT u v w e (O k) t)
    (hb : ∀ j, n ≤ j → ∀ t, gx (B 0 j) t = 0) (hB : ∀ k j t, gx (B (k + 1) j) t = (if j = 0 then 0 else TT u v 0 1 (B k (j - 1)) t) + TT u v w 0 (B k j) t)
    (h0 : ∀ t, gx (O 0) t = sm n fun j => cv (gx (B 0 j)) (gx (F j)) t) (hP : ∀ j t, gx (P j) t = sm m fun k => cv (gx (a k)) (gx (B k j)) t) (hN : n + m ≤ N) (t : Nat) :
    sm N (fun j => cv (gx (P j)) (gx (F j)) t) = sm m fun k => cv (gx (a k)) (gx (O k)) t := by
  have h1 : (fun j => cv (gx (P j)) (gx (F j)) t) = fun j => sm m fun k => cv (cv (gx (a k)) (gx (B k j))) (gx (F j)) t := by
    funext j
    rw [cv_congr (hP j) (fun _ => rfl), cv_sml]
  rw [h1, ← sm_comm m N (fun k j => cv (cv (gx (a k)) (gx (B k j))) (gx (F j)) t)]
  refine sm_congr fun k hk => ?_
  obtain ⟨h2, h3⟩ := act_comp u v w e hF hO hb hB h0 k
  rw [sm_congr fun j _ => (cv_assoc (gx (B k j)) (gx (F j)) (a k) t).symm, ← cv_smr]
  refine cv_congr (fun _ => rfl) (fun i => ?_) t
  rw [h3 i]
  exact sm_more (fun j hj => cv_zl (h2 j (by omega)) _ _) (by omega)
end Go.Proofs.YtejnhpjejcpekaaGreatDoor.Sk
namespace Go.Proofs.YtejnhpjejcpekaaGreatDoor
open Go.RowKit
set_option linter.unusedVariables false
set_option linter.unusedSimpArgs false
theorem each_idle (p : Addr) (w : World) :
    CallsD Tryz.prog 278 #[.pointer (some p)] .returning w fun e u' w' => e = .returned (.tuple #[]) ∧ u' = .returning ∧ w' = w := by
  refine callsD_of_wpS Tryz.func278 rfl fun c₀ cs hu => ?_
  apply wpS_seq
  apply wpS_region
  simp [wpOpsS, go_sem, recoverD, hu, Tryz.ntmps278, Exit.thenS]
  refine wpS_cond (t := false) (by simp [Act.eval, Array.replicate]) ?_
  simp only [Bool.false_eq_true, if_false]
  refine wpS_of_wp (wp_skip ?_)
  cases c₀
  simp_all [bodyPostS, results, Tryz.results278]
theorem eq_nilO (f : Fn) (a b : Array Value) (w : World) : (binOp .eql 92 (.func f a b) .nilFunc).run Tryz.prog w = .ok (.bool false) w := by
  have h : ∀ d : Nat, (Op.equalIn (d + 1) 92 (.func f a b) .nilFunc).run Tryz.prog w = .ok false w := fun d => by
    simp [Op.equalIn, run_underlying Tryz.underlying92]
  simp only [binOp]
  simp [Op.equal, Op.maxDepth, h 9999]
theorem NO.put {B : Nat} {w : World} {K E : Nat} {l : List (List Int)} {p : Option Addr} {n : Nat} {hs : List Hdr} (h : NO B w K E l p n hs) {b o : Nat} (hb : b < B) (v : Value) : NO B (w.setCell ⟨b, o, none⟩ v) K E l p n hs :=
  ⟨h.el, h.tl, h.hl.same fun a ha _ _ => Below.heap_setCell w ⟨b, o, none⟩ v a.block (by have := h.fr a ha; show a.block ≠ b; omega), h.fr, fun j hj => let ⟨a, c, es, d⟩ := h.ev j hj; ⟨a, c, es, d.put hb v⟩⟩
theorem callEach2 (args : Array Value) (w' : World) : Sem.run Tryz.prog (callFunc 279 args) w' = .ok (.enter 279 args) w' := by
  have h1 : ¬ Tryz.f279.name = "runtime.NumGoroutine" := of_decide_eq_false (by kernel_rfl)
  have h2 : ¬ Tryz.f279.body = none := fun h => by cases h
  simp only [callFunc, Tryz.func279, go_sem]
  simp [h1, h2, go_sem]
set_option maxRecDepth 100000 in
theorem each2M_any {w : World} {lo base g K' : Nat} {J : Nat} {R0 : Value} {hd : Hdr} {z : List Int} {I : World → Prop} (hX : w.cell? ⟨g, 0, none⟩ = some (.func (.func J) #[R0] #[])) (hE0 : ∀ args w', Sem.run Tryz.prog (callFunc J args) w' = .ok (.enter J args) w') (hK : K' ≤ 1000)
    (hI : ∀ w1 w2, I w1 → Below base w1 w2 → I w2) (hbw : base ≤ w.heap.size)
    (hJ : Calls Tryz.prog J #[R0, Hdr.val hd] w fun e w' => ∃ p n c es, e = .returned (.slice p n c) ∧ PA w' K' p n c es z ∧ n ≤ 1000 ∧ I w' ∧ Kq lo base w w') :
    Calls Tryz.prog 279 #[Hdr.val hd, .pointer (some ⟨g, 0, none⟩)] w fun e w' => ∃ p n es, e = .returned (.slice p n n) ∧ PN w.heap.size w' K' p n es (tr z) ∧ I w' ∧ Kq lo base w w' := by
  obtain ⟨p, n, nc⟩ := hd
  simp only [Hdr.val] at hJ ⊢
  have HI := (show Hid _ from hI)
  clear hI
  go_enter Tryz.func279, Tryz.ntmps279
  go_wp2_with fail
  go_fit hJ
  rintro e w1 ⟨p1, n1, c1, es1, rfl, hP, hn1, hI1, hk1⟩
  have hc := uNorm_any K' p1 n1 c1 es1 z w1 hP (by omega) hK
  clear hJ hP
  go_wp2_with fail
  go_fit hc
  rintro e w2 ⟨p2, n2, es2, rfl, hN, hb2⟩
  have HR' : Hid (PN w.heap.size w2 K' p2 n2 es2 (tr z) ∧ I w2 ∧ Kq lo base w w2) := ⟨hN.mono hk1.size, HI.out _ _ hI1 (hb2.mono (Nat.le_trans hbw hk1.size)), hk1.trans (Kq.of hb2)⟩
  clear hc hN hb2 hk1 hI1
  go_wp2
  go_ret
  exact ⟨p2, n2, es2, rfl, HR'.out⟩
set_option maxRecDepth 100000 in
theorem oEachM_gen {w : World} {lo base B T K E D K' E' : Nat} {zss : List (List Int)} {h : Hdr} (H : HR D (EZ K E) w B T zss h) (hT : T ≤ w.heap.size) (hbw : base ≤ w.heap.size) (hD : D ≤ 1000) (hE : E ≤ 1000000) (hK : K ≤ 1000) (hK' : K' ≤ 1000) (hE' : E' ≤ 1000000) (J : Nat) (R0 : Value) (hE0 : ∀ args w', Sem.run Tryz.prog (callFunc J args) w' = .ok (.enter J args) w') (F : Nat → List Int) (I : Nat → World → Prop)
    (hI : ∀ i w1 w2, I i w1 → Below base w1 w2 → I i w2) (hI0 : I 0 w)
    (hJ : ∀ wq i p n es, i < olen zss → Kq lo base w wq → I i wq → PN w.heap.size wq K p n es (tr (gt zss i)) → n ≤ E → Calls Tryz.prog J #[R0, .slice p n n] wq fun e w' => ∃ p n c es, e = .returned (.slice p n c) ∧ PA w' K' p n c es (F i) ∧ n ≤ 1000 ∧ I (i + 1) w' ∧ Kq lo base wq w') (hF : ∀ i, i < olen zss → (F i).length ≤ E') :
    Calls Tryz.prog 205 #[.slice h.p h.n h.c, .func (.func J) #[R0] #[]] w (OpK lo base (I (olen zss)) ((List.range (olen zss)).map fun i => tr (F i)) K' E' w) := by
  have HN := (show Hid _ from fun w' (hb : Below w.heap.size w w') => oNorm_any ((lasts_HR (lasts_EZ K E)).below H hT hb) (Nat.le_trans hT hb.size) hD hE hK)
  have hmf : ∀ (fn : Fn) (first cap : Array Value) (w : World), (Instr.makeFunc fn first cap).run Tryz.prog w = .ok (.func fn first cap) w := fun _ _ _ _ => rfl
  have hnil := eq_nilO
  obtain ⟨p, n, nc⟩ := h
  simp only at HN ⊢
  have hW : Below w.heap.size w ((w.alloc (.cells #[.func (.func J) #[R0] #[]] 92)).alloc (.cells #[.slice none 0 0] 51)) := ((Below.refl _ _).alloc (Nat.le_refl _) _).alloc (by simp) _
  have hF0 : ((w.alloc (.cells #[.func (.func J) #[R0] #[]] 92)).alloc (.cells #[.slice none 0 0] 51)).heap[w.heap.size]? = some (.cells #[.func (.func J) #[R0] #[]] 92 (0, 0)) := by
    rw [Below.heap_alloc _ _ _ (by simp)]
    exact heap_alloc_new w _
  have hO0 : ((w.alloc (.cells #[.func (.func J) #[R0] #[]] 92)).alloc (.cells #[.slice none 0 0] 51)).heap[w.heap.size + 1]? = some (.cells #[.slice none 0 0] 51 (0, 0)) := by
    have := heap_alloc_new (w.alloc (.cells #[.func (.func J) #[R0] #[]] 92)) (.cells #[.slice none 0 0] 51)
    simpa using this
  have HJ := (show Hid _ from hJ)
  have HF := (show Hid _ from hF)
  have HI := (show Hid _ from hI)
  have HH : Hid (olen zss ≤ 1000) := by obtain ⟨_, k⟩ := H; have h1 := olen_le zss; have h2 := k.tl; have h3 := k.few; show _ ≤ _; simp only at h2 h3; omega
  clear hJ hF hI H
  obtain ⟨l, hl⟩ : ∃ l, ((List.range (olen zss)).map fun i => tr (F i)) = l := ⟨_, rfl⟩
  rw [hl]
  have HLL := (show Hid _ from hl)
  clear hl
  go_enter_defers Tryz.func205, Tryz.ntmps205
  go_wp2_with fail
  generalize (w.alloc (.cells #[.func (.func J) #[R0] #[]] 92)).alloc (.cells #[.slice none 0 0] 51) = W at *
  have sW : w.heap.size + 1 < W.heap.size := (Array.getElem?_eq_some_iff.1 hO0).1
  have hc := HN.out W hW
  rw [rng_oz] at hc
  clear HN
  go_fit hc
  rintro e w2 ⟨q, hs, rfl, hNO, hb2⟩
  rw [otr_oz] at hNO
  rw [olen_oz] at hNO
  have HB2 : Hid (Kq lo base w w2) := Kq.of (bnext' hW hb2)
  have hI2 : I 0 w2 := HI.out _ _ _ hI0 ((bnext' hW hb2).mono hbw)
  have hF2 : w2.heap[w.heap.size]? = some (.cells #[.func (.func J) #[R0] #[]] 92 (0, 0)) := (hb2.block _ (by omega)).trans hF0
  have hO2 : w2.heap[w.heap.size + 1]? = some (.cells #[.slice none 0 0] 51 (0, 0)) := (hb2.block _ sW).trans hO0
  have s2 : w.heap.size + 1 < w2.heap.size := (Array.getElem?_eq_some_iff.1 hO2).1
  have hcv := convert_gen (lo := lo) (base := base) (K' := K') (E' := E') (hNO.hrow hK hE (by have := HH.out; omega)) (Nat.le_refl _) (by omega) (by omega) HH.out hE hK' hE' 279 #[.pointer (some ⟨w.heap.size, 0, none⟩)] callEach2 (fun i => tr (F i)) I HI.out hI2 (fun wq i hi hk hIq he => by
      rw [olen_oz] at hi
      obtain ⟨a1, a2, es2, a3⟩ := hNO.ev i hi
      rw [gt_oz] at a3
      have a4 := (a3.kp hk (by omega)).mono (show w.heap.size ≤ W.heap.size by omega)
      have hc1 : wq.cell? ⟨w.heap.size, 0, none⟩ = some (.func (.func J) #[R0] #[]) := by
        rw [World.cell?_of_block (a := ⟨w.heap.size, 0, none⟩) (hk.block _ (show w.heap.size < w2.heap.size by omega) (.inr hbw))]
        simp only [World.cell?]
        rw [hF2]
        rfl
      generalize gh hs i = hd at a1 a2 a4
      obtain ⟨p2, n2, c2⟩ := hd
      simp only at a1 a2 a4
      subst a1
      exact each2M_any hc1 hE0 hK' (fun w1 w2 h1 h2 => HI.out _ w1 w2 h1 h2) (by have := hk.size; omega) (HJ.out wq i p2 c2 es2 hi (HB2.out.trans hk) hIq a4 a2)) (fun i hi => by rw [olen_oz] at hi; rw [length_tr]; exact Nat.le_trans (tlen_le _) (HF.out i hi))
  rw [olen_oz, HLL.out] at hcv
  simp only at hcv
  rw [olen_oz]
  clear hc hNO hb2 hF0 hO0 hF2 hI2 hI0 HJ HF
  go_wp2_with fail
  go_fit hcv
  rintro e w3 ⟨q3, hs3, rfl, hN3, hI3, hk3⟩
  have hO3 : w3.heap[w.heap.size + 1]? = some (.cells #[.slice none 0 0] 51 (0, 0)) := (hk3.block _ s2 (.inr (by omega))).trans hO2
  have z0 : w3.cell? ⟨w.heap.size + 1, 0, none⟩ = some (.slice none 0 0) := by
    simp only [World.cell?]
    rw [hO3]
    rfl
  have f0 : w3.frozen? ⟨w.heap.size + 1, 0, none⟩ = false := frozen_of_row w3 _ _ _ _ hO3
  have s3 := hk3.size
  have HR' : Hid (OpK lo base (I (olen zss)) l K' E' w (.returned (.slice q3 (olen l) (olen l))) (w3.setCell ⟨w.heap.size + 1, 0, none⟩ (.slice q3 (olen l) (olen l)))) :=
    ⟨q3, hs3, rfl, (hN3.put s2 _).mono (by omega), HI.out _ _ _ hI3 ((Below.refl base w3).setCell (p := ⟨w.heap.size + 1, 0, none⟩) (by show base ≤ w.heap.size + 1; omega) _), (HB2.out.trans hk3).put ⟨w.heap.size + 1, 0, none⟩ _ (.inr (by show w.heap.size ≤ w.heap.size + 1; omega))⟩
  clear hcv hN3 hI3 hk3 hO2
  generalize olen l = m at *
  go_wp2
  refine leaves_cons (f := 278) (args := #[.pointer (some ⟨w.heap.size + 1, 0, none⟩)]) (by simp) (by simp [go_sem]) ?_
  refine (each_idle ⟨w.heap.size + 1, 0, none⟩ _).mono ?_
  rintro e u' w'' ⟨rfl, rfl, rfl⟩
  have z1 : (w3.setCell ⟨w.heap.size + 1, 0, none⟩ (.slice q3 m m)).cell? ⟨w.heap.size + 1, 0, none⟩ = some (.slice q3 m m) := by simp [go_sem, z0]
  have HR2 := HR'.out
  simp [Leaves, settle, results, Tryz.results205, go_sem, z0]
  exact HR2
theorem callSigma (args : Array Value) (w' : World) : Sem.run Tryz.prog (callFunc 63 args) w' = .ok (.enter 63 args) w' := by
  have h1 : ¬ Tryz.f63.name = "runtime.NumGoroutine" := of_decide_eq_false (by kernel_rfl)
  have h2 : ¬ Tryz.f63.body = none := fun h => by cases h
  simp only [callFunc, Tryz.func63, go_sem]
  simp [h1, h2, go_sem]
theorem callDelta (args : Array Value) (w' : World) : Sem.run Tryz.prog (callFunc 64 args) w' = .ok (.enter 64 args) w' := by
  have h1 : ¬ Tryz.f64.name = "runtime.NumGoroutine" := of_decide_eq_false (by kernel_rfl)
  have h2 : ¬ Tryz.f64.body = none := fun h => by cases h
  simp only [callFunc, Tryz.func64, go_sem]
  simp [h1, h2, go_sem]
def omp (f : List Int → List Int) (zss : List (List Int)) : List (List Int) := (List.range (olen zss)).map fun i => f (gt zss i)
theorem omp_tr (f : List Int → List Int) (hf : ∀ z, tlen (f z) = (f z).length) (zss : List (List Int)) : ((List.range (olen zss)).map fun i => tr (f (gt zss i))) = omp f zss := by
  unfold omp
  congr 1
  funext i
  exact tr_self (hf _)
theorem eachL {w : World} {g J : Nat} {al y : Int} (hr : RuleQ w g al y) {B T K E D : Nat} {zss : List (List Int)} {h : Hdr} (H : HR D (EZ K E) w B T zss h) (hT : T ≤ w.heap.size) (hD : D ≤ 1000) (hE : E ≤ 15) (hK : K ≤ 60) (hE0 : ∀ args w', Sem.run Tryz.prog (callFunc J args) w' = .ok (.enter J args) w') (f : List Int → List Int) (hfn : ∀ z, tlen (f z) = (f z).length) (hfl : ∀ z, (f z).length ≤ z.length) (hft : ∀ z, f (tr z) = f z)
    (hJ : ∀ (v : World) (p : Option Addr) (n nc : Nat) (es : List Ent) (zf : List Int), RuleQ v g al y → PA v K p n nc es zf → n ≤ 15 → K ≤ 60 → Calls Tryz.prog J #[.pointer (some ⟨g, 0, none⟩), .slice p n nc] v (PnP (f zf) (K + n * 2) v)) :
    Calls Tryz.prog 205 #[.slice h.p h.n h.c, .func (.func J) #[.pointer (some ⟨g, 0, none⟩)] #[]] w (OpP (omp f zss) (K + E * 2) E w) := by
  have hlen := hr_len H
  have h1 := oEachM_gen (lo := w.heap.size) (base := w.heap.size) (K' := K + E * 2) (E' := E) H hT (Nat.le_refl _) hD (by omega) (by omega) (by omega) (by omega) J (.pointer (some ⟨g, 0, none⟩)) hE0 (fun i => f (gt zss i)) (fun _ v => Below w.heap.size w v) (fun i w1 w2 a b => a.trans b) (Below.refl _ _) (fun wq i p n es hi hk hI hP hn => by
    refine (hJ wq p n n es (tr (gt zss i)) (hr.below hI) (hP.pa (by omega) (by omega)) (by omega) hK).mono ?_
    rintro r w' ⟨p1, n1, e1, rfl, h2, h3⟩
    rw [hft] at h2
    have h4 := h2.zl
    have h5 := hfl (gt zss i)
    have h6 := hlen i
    exact ⟨p1, n1, n1, e1, rfl, (h2.wider (by omega)).pa (by omega) (by omega), by omega, bnext' hI h3, Kq.of h3⟩) (fun i hi => Nat.le_trans (hfl _) (hlen i))
  rw [omp_tr f hfn] at h1
  refine h1.mono ?_
  rintro r w' ⟨p, hs, rfl, h2, h3, h4⟩
  exact ⟨p, hs, rfl, h2, h3⟩
theorem eachSigma {w : World} {g : Nat} {al y : Int} (hr : RuleQ w g al y) {B T K E D : Nat} {zss : List (List Int)} {h : Hdr} (H : HR D (EZ K E) w B T zss h) (hT : T ≤ w.heap.size) (hD : D ≤ 1000) (hE : E ≤ 15) (hK : K ≤ 60) :
    Calls Tryz.prog 205 #[.slice h.p h.n h.c, .func (.func 63) #[.pointer (some ⟨g, 0, none⟩)] #[]] w (OpP (omp (SGM al y) zss) (K + E * 2) E w) :=
  eachL hr H hT hD hE hK callSigma (SGM al y) (SGM_nrm al y) (SGM_len al y) (SGM_tr al y) (fun v p n nc es zf a b c d => oSigma_all a b c d)
theorem eachDelta {w : World} {g : Nat} {al y : Int} (hr : RuleQ w g al y) {B T K E D : Nat} {zss : List (List Int)} {h : Hdr} (H : HR D (EZ K E) w B T zss h) (hT : T ≤ w.heap.size) (hD : D ≤ 1000) (hE : E ≤ 15) (hK : K ≤ 60) :
    Calls Tryz.prog 205 #[.slice h.p h.n h.c, .func (.func 64) #[.pointer (some ⟨g, 0, none⟩)] #[]] w (OpP (omp (DLM al) zss) (K + E * 2) E w) :=
  eachL hr H hT hD hE hK callDelta (DLM al) (DLM_nrm al) (DLM_len al) (DLM_tr al) (fun v p n nc es zf a b c d => oDelta_all a b c d)
set_option maxRecDepth 100000 in
theorem oscale1_gen {w : World} {K L g : Nat} {p q : Option Addr} {n nc m mc : Nat} {es fs : List Ent} {zs ys : List Int} (hX : w.cell? ⟨g, 0, none⟩ = some (.slice p n nc)) (h : PA w K p n nc es zs) (k : PA w L q m mc fs ys) (hn : n ≤ 80) (hm : m ≤ 80) (hKL : K + L + 1 ≤ 70) :
    Calls Tryz.prog 206 #[.slice q m mc, .pointer (some ⟨g, 0, none⟩)] w (PnP (mulp (tr zs) (tr ys)) (K + L + 1) w) := by
  have hc := uMul_pk h k hn hm hKL
  go_enter Tryz.func206, Tryz.ntmps206
  go_wp2_with fail
  go_fit hc
  rintro e w1 ⟨p1, n1, e1, rfl, h1, h2⟩
  clear hc
  go_wp2
  go_ret
  exact ⟨p1, n1, e1, rfl, h1, h2⟩
set_option maxRecDepth 100000 in
theorem oScale_gen {w : World} {K L E B T D N : Nat} {p : Option Addr} {n nc : Nat} {es : List Ent} {zs : List Int} {yss : List (List Int)} {h : Hdr} (P : PA w K p n nc es zs) (hn : n ≤ N) (hN : N ≤ 80) (hE : E ≤ 80) (hKL : K + L + 1 ≤ 70) (H : HR D (EZ L E) w B T yss h) (hT : T ≤ w.heap.size) (hD : D ≤ 1000) :
    Calls Tryz.prog 134 #[.slice p n nc, .slice h.p h.n h.c] w (OpP ((List.range (olen yss)).map fun i => mulp (tr zs) (tr (gt yss i))) (K + L + 1) (N + E) w) := by
  have hal := bel_al (o := .cells #[.slice p n nc] 23) (Below.refl w.heap.size w)
  have hcell : (w.alloc (.cells #[.slice p n nc] 23)).cell? ⟨w.heap.size, 0, none⟩ = some (.slice p n nc) := by
    simp only [World.cell?]
    rw [heap_alloc_new]
    rfl
  have P1 := P.below hal
  have H1 := (lasts_HR (lasts_EZ L E)).below H hT hal
  have hT1 := Nat.le_trans hT hal.size
  obtain ⟨q, m, mc⟩ := h
  simp only at H1 ⊢
  clear P H hT
  obtain ⟨l, hl⟩ : ∃ l, (List.range (olen yss)).map (fun i => mulp (tr zs) (tr (gt yss i))) = l := ⟨_, rfl⟩
  rw [hl]
  have HLL := (show Hid _ from hl)
  clear hl
  go_enter Tryz.func134, Tryz.ntmps134
  go_wp2_with fail
  generalize w.alloc (.cells #[.slice p n nc] 23) = W1 at *
  have hlen : Hid (zs.length ≤ N ∧ ∀ i, (gt yss i).length ≤ E) := ⟨by rw [P1.zl]; exact hn, hr_len H1⟩
  have hc := convert_any (K' := K + L + 1) (E' := N + E) H1 hT1 hD (by omega) (by omega) (by omega) 206 #[.pointer (some ⟨w.heap.size, 0, none⟩)] callScaleO (fun y => mulp (tr zs) (tr y)) (fun wq i hd hi hb he => by
    obtain ⟨fs, hP, hd3, -⟩ := he
    exact oscale1_gen (cell_later' hb hcell) (P1.below hb) hP (by omega) (by omega) hKL) (fun i hi => Nat.le_trans (mulp_le _ _) (by rw [length_tr, length_tr]; have := tlen_le zs; have := tlen_le (gt yss i); have := hlen.out.1; have := hlen.out.2 i; omega))
  simp only at hc
  clear hlen H1 P1 hcell
  have HAL : Hid (Below w.heap.size w W1) := hal
  clear hal
  rw [HLL.out] at hc
  go_fit hc
  rintro e w1 ⟨q1, hs, rfl, h1, h2⟩
  have HR' : Hid (OpP l (K + L + 1) (N + E) w (.returned (.slice q1 (olen l) (olen l))) w1) := ⟨q1, hs, rfl, h1.mono HAL.out.size, bnext' HAL.out h2⟩
  clear hc h1 h2
  generalize olen l = m at *
  go_wp2
  go_ret
  exact HR'.out
end Go.Proofs.YtejnhpjejcpekaaGreatDoor
