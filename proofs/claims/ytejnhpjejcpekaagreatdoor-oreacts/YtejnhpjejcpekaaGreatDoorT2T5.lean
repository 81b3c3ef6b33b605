/-
  Plain: tighter bounds of what letters make; sizes of skew products.
-/
import Derived.Test.YtejnhpjejcpekaaGreatDoorNuNvT1
import Derived.Test.YtejnhpjejcpekaaGreatDoorAyNlQl
import Derived.Deep.DeepFit
namespace Go.Proofs.YtejnhpjejcpekaaGreatDoor
open Go.RowKit
set_option linter.unusedVariables false
set_option linter.unusedSimpArgs false
set_option maxHeartbeats 8000000
theorem co_tight {K : Nat} : ∀ (zs : List Int), (∀ t, ((gx zs t).natAbs : Int) < pw K) → ∀ t, ((co 1 zs t).natAbs : Int) < pw (K + zs.length)
  | [], _, t => by
    have h : co 1 [] t = 0 := by cases t <;> rfl
    rw [h]
    simpa using pw_pos _
  | c :: cs, h, t => by
    have ih := co_tight cs (fun j => by have := h (j + 1); rwa [gx_cons_succ] at this)
    have e : K + (c :: cs).length = K + cs.length + 1 := by simp only [List.length_cons]; omega
    rw [e, pw_succ]
    have hp := pw_pos (K + cs.length)
    cases t with
    | zero =>
      rw [co]
      have h1 := h 0
      rw [gx_cons_zero] at h1
      have h2 := ih 0
      have h3 := pw_mono (show K ≤ K + cs.length by omega)
      omega
    | succ t =>
      rw [co]
      have h1 := ih t
      have h2 := ih (t + 1)
      omega
theorem dl_tight {a : Int} {K : Nat} (ha : (a.natAbs : Int) < pw 1) : ∀ (zs : List Int), (∀ t, ((gx zs t).natAbs : Int) < pw K) → ∀ t, ((dl a zs t).natAbs : Int) < pw (K + zs.length)
  | [], _, t => by simpa [dl] using pw_pos _
  | c :: cs, h, 0 => by
    have h2 := h 0
    rw [gx_cons_zero] at h2
    rw [dl]
    exact Int.lt_of_lt_of_le h2 (pw_mono (by omega))
  | c :: cs, h, t + 1 => by
    have ih := dl_tight ha cs (fun j => by have := h (j + 1); rwa [gx_cons_succ] at this) t
    have e : K + (c :: cs).length = 1 + (K + cs.length) := by simp only [List.length_cons]; omega
    rw [e, dl, Int.natAbs_mul, pw_add]
    generalize K + cs.length = B at *
    push_cast
    have hB := pw_pos B
    have h1 : (a.natAbs : Int) * ((dl a cs t).natAbs : Int) ≤ (a.natAbs : Int) * pw B := Int.mul_le_mul_of_nonneg_left (Int.le_of_lt ih) (by omega)
    have h2 : (a.natAbs : Int) * pw B < pw 1 * pw B := Int.mul_lt_mul_of_pos_right ha hB
    omega
theorem SGM_tight {al y : Int} {zs : List Int} {K : Nat} (hz : ∀ t, ((gx zs t).natAbs : Int) < pw K) (hy : (y.natAbs : Int) < pw 1) (t : Nat) : ((gx (SGM al y zs) t).natAbs : Int) < pw (K + zs.length) := by
  have hl := tlen_le zs
  unfold SGM
  split
  · rw [gx_coz]
    have h1 := co_tight (K := K) (tr zs) (fun t => by rw [gx_tr]; exact hz t) t
    have h2 := pw_mono (show K + (tr zs).length ≤ K + zs.length by rw [length_tr]; omega)
    omega
  · split
    · rw [gx_dlz]
      exact dl_tight hy zs hz t
    · rw [gx_tr]
      have h2 := pw_mono (show K ≤ K + zs.length by omega)
      have := hz t
      omega
theorem DLM_tight {al : Int} {zs : List Int} {K : Nat} (hz : ∀ t, ((gx zs t).natAbs : Int) < pw K) (hn : zs.length ≤ 1000) (t : Nat) : ((gx (DLM al zs) t).natAbs : Int) < pw (K + zs.length) := by
  have hl := tlen_le zs
  unfold DLM
  split
  · rcases Nat.lt_or_ge t ((tr zs).length - 1) with h | h
    · rw [gx_derz _ _ h, gx_tr]
      rw [length_tr] at h
      have h1 := hz (t + 1)
      have h2 := pw_mono (show K + 1 ≤ K + zs.length by omega)
      rw [pw_succ] at h2
      have h3 : ((((t : Int) + 1) * gx zs (t + 1)).natAbs : Int) = ((t : Int) + 1) * ((gx zs (t + 1)).natAbs : Int) := by
        rw [Int.natAbs_mul, Int.natCast_mul, Int.natAbs_of_nonneg (by omega)]
      rw [h3]
      have h4 : ((t : Int) + 1) * ((gx zs (t + 1)).natAbs : Int) ≤ 1000 * ((gx zs (t + 1)).natAbs : Int) := Int.mul_le_mul_of_nonneg_right (by omega) (by omega)
      have h5 := pw_pos K
      omega
    · rw [gx_past _ _ (by rw [length_derz]; exact Nat.le_refl _) t h]
      exact pw_pos _
  · simp [gx]
    exact pw_pos _
theorem LTR_tight {al y : Int} {zs : List Int} {K : Nat} (hz : ∀ t, ((gx zs t).natAbs : Int) < pw K) (hy : (y.natAbs : Int) < pw 1) (hn : zs.length ≤ 1000) (t : Nat) : ((gx (LTR al y zs) t).natAbs : Int) < pw (K + zs.length) := by
  unfold LTR
  split
  · exact DLM_tight hz hn t
  · exact SGM_tight hz hy t
theorem Fit_tight {al y : Int} {f : List Int} {K N : Nat} (hz : ∀ t, ((gx f t).natAbs : Int) < pw K) (hy : (y.natAbs : Int) < pw 1) (hn : f.length ≤ N) (hN : N ≤ 1000) : ∀ i t, ((gx (Fit al y f i) t).natAbs : Int) < pw (K + i * N)
  | 0, t => by rw [Fit, gx_tr]; have := hz t; rw [Nat.zero_mul, Nat.add_zero]; exact this
  | i + 1, t => by
    have h1 := Fit_len al y f i
    have h2 := LTR_tight (al := al) (Fit_tight (al := al) hz hy hn hN i) hy (by omega) t
    rw [Fit]
    refine Int.lt_of_lt_of_le h2 (pw_mono ?_)
    rw [Nat.add_mul]
    omega
theorem LXz_tight {al y : Int} {b : List (List Int)} {K E : Nat} (hb : ∀ j t, ((gx (gt b j) t).natAbs : Int) < pw K) (hE : ∀ j, (gt b j).length ≤ E) (hE' : E ≤ 1000) (hy : (y.natAbs : Int) < pw 1) (j t : Nat) : ((gx (gt (LXz al y b) j) t).natAbs : Int) < pw (K + E + 1) := by
  have h1 : ∀ j t, ((gx (gt (omp (SGM al y) b) j) t).natAbs : Int) < pw (K + E) := omp_lt fun j t => Int.lt_of_lt_of_le (SGM_tight (hb j) hy t) (pw_mono (by have := hE j; omega))
  have h2 : ∀ j t, ((gx (gt (omp (DLM al) b) j) t).natAbs : Int) < pw (K + E) := omp_lt fun j t => Int.lt_of_lt_of_le (DLM_tight (hb j) (by have := hE j; omega) t) (pw_mono (by have := hE j; omega))
  rw [LXz, gx_gtopz _ rfl, gx_gtotr, gx_gtcons, pw_succ]
  have h3 := h2 j t
  have hp := pw_pos (K + E)
  split
  · omega
  · rw [gx_gtotr]
    have h4 := h1 (j - 1) t
    omega
theorem gt_len_LXz (al y : Int) (b : List (List Int)) {E : Nat} (hE : ∀ j, (gt b j).length ≤ E) (j : Nat) : (gt (LXz al y b) j).length ≤ E := by
  have h1 : ∀ f : List Int → List Int, (∀ z, (f z).length ≤ z.length) → ∀ j, (gt (omp f b) j).length ≤ E := fun f hf j => by
    rw [omp, gt_rngL]
    split
    · exact Nat.le_trans (hf _) (hE j)
    · exact Nat.zero_le _
  have h2 : ∀ (l : List (List Int)), (∀ j, (gt l j).length ≤ E) → ∀ j, (gt (otr l) j).length ≤ E := fun l hl j => by
    rw [gt_otr]
    split
    · exact hl j
    · exact Nat.zero_le _
  have h3 : ∀ j, (gt ([] :: otr (omp (SGM al y) b)) j).length ≤ E := fun j => by
    rcases j with _ | j
    · exact Nat.zero_le _
    · exact h2 _ (h1 _ (SGM_len al y)) j
  have h4 := h2 _ (h1 _ (DLM_len al))
  rw [LXz, opz, gt_rngL]
  split
  · rw [length_tr]
    refine Nat.le_trans (tlen_le _) ?_
    have a1 := h3 j
    have a2 := h4 j
    have a3 := tlen_le (gt ([] :: otr (omp (SGM al y) b)) j)
    have a4 := tlen_le (gt (otr (omp (DLM al) b)) j)
    simp only [pz, List.length_map, List.length_range, length_tr]
    omega
  · exact Nat.zero_le _
theorem gt_len_Bzs (al y : Int) (b : List (List Int)) {E : Nat} (hE : ∀ j, (gt b j).length ≤ E) : ∀ i j, (gt (Bzs al y b i) j).length ≤ E
  | 0, j => hE j
  | i + 1, j => by
    rw [Bzs, gt_otr]
    split
    · exact gt_len_LXz al y _ (gt_len_Bzs al y b hE i) j
    · exact Nat.zero_le _
theorem Bzs_tight {al y : Int} {b : List (List Int)} {K E : Nat} (hb : ∀ j t, ((gx (gt b j) t).natAbs : Int) < pw K) (hE : ∀ j, (gt b j).length ≤ E) (hE' : E ≤ 1000) (hy : (y.natAbs : Int) < pw 1) : ∀ i j t, ((gx (gt (Bzs al y b i) j) t).natAbs : Int) < pw (K + i * (E + 1))
  | 0, j, t => by rw [Nat.zero_mul, Nat.add_zero]; exact hb j t
  | i + 1, j, t => by
    rw [Bzs, gx_gtotr]
    refine Int.lt_of_lt_of_le (LXz_tight (Bzs_tight hb hE hE' hy i) (gt_len_Bzs al y b hE i) hE' hy j t) (pw_mono ?_)
    rw [Nat.add_mul]
    omega
namespace Sk
theorem cv_lt {a b : List Int} {K L n : Nat} (ha : ∀ t, ((gx a t).natAbs : Int) < pw K) (hb : ∀ t, ((gx b t).natAbs : Int) < pw L) (hn : a.length ≤ n) (hN : n ≤ 1000) (t : Nat) : ((cv (gx a) (gx b) t).natAbs : Int) ≤ 1000 * pw (K + L) := by
  have h1 : ∀ m, ((sm m fun i => gx a i * gx b (t - i)).natAbs : Int) ≤ (min m n : Nat) * pw (K + L) := fun m => by
    induction m with
    | zero => simp [sm]
    | succ m ih =>
      rw [sm]
      have hp := pw_pos (K + L)
      rcases Nat.lt_or_ge m n with h | h
      · have h2 : ((gx a m * gx b (t - m)).natAbs : Int) ≤ pw (K + L) := by
          rw [Int.natAbs_mul, pw_add]
          push_cast
          exact Int.mul_le_mul (Int.le_of_lt (ha m)) (Int.le_of_lt (hb _)) (by omega) (Int.le_of_lt (pw_pos K))
        have e : ((min (m + 1) n : Nat) : Int) * pw (K + L) = ((min m n : Nat) : Int) * pw (K + L) + pw (K + L) := by
          rw [show min (m + 1) n = min m n + 1 by omega]
          push_cast
          rw [Int.add_mul, Int.one_mul]
        rw [e]
        omega
      · rw [gx_beyond a m (by omega), Int.zero_mul, Int.add_zero, show min (m + 1) n = min m n by omega]
        exact ih
  refine Int.le_trans (h1 (t + 1)) ?_
  exact Int.mul_le_mul_of_nonneg_right (by omega) (Int.le_of_lt (pw_pos _))
theorem Pzs_tight {al y : Int} {a b : List (List Int)} {K L E F M n : Nat} (ha : ∀ j t, ((gx (gt a j) t).natAbs : Int) < pw K) (hb : ∀ j t, ((gx (gt b j) t).natAbs : Int) < pw L) (hF : ∀ j, (gt a j).length ≤ F) (hE : ∀ j, (gt b j).length ≤ E) (hE' : E ≤ 1000) (hF' : F ≤ 1000) (hy : (y.natAbs : Int) < pw 1) (hn : n ≤ 1000) (hM : K + (L + (n - 1) * (E + 1)) + 1 ≤ M) (j t : Nat) : ((gx (gt (Pzs al y a b n) j) t).natAbs : Int) < pw M := by
  rw [gx_Pzs]
  have h1 : ∀ m, m ≤ n → ((sm m fun i => cv (gx (gt a i)) (gx (gt (Bzs al y b i) j)) t).natAbs : Int) ≤ (m : Int) * (1000 * pw (K + (L + (n - 1) * (E + 1)))) := fun m hm => by
    induction m with
    | zero => simp [sm]
    | succ m ih =>
      rw [sm]
      have h2 := ih (by omega)
      have h3 := cv_lt (ha m) (fun t => Int.lt_of_lt_of_le (Bzs_tight (al := al) hb hE hE' hy m j t) (pw_mono (show L + m * (E + 1) ≤ L + (n - 1) * (E + 1) from Nat.add_le_add_left (Nat.mul_le_mul_right _ (by omega)) _))) (hF m) hF' t
      push_cast
      rw [Int.add_mul, Int.one_mul]
      omega
  have h2 := h1 n (Nat.le_refl _)
  have h3 := pw_mono hM
  rw [pw_succ] at h3
  have h4 := pw_pos (K + (L + (n - 1) * (E + 1)))
  have h5 : (n : Int) * (1000 * pw (K + (L + (n - 1) * (E + 1)))) ≤ 1000 * (1000 * pw (K + (L + (n - 1) * (E + 1)))) := Int.mul_le_mul_of_nonneg_right (by omega) (by omega)
  omega
theorem Ozs_tight {al y : Int} {a : List (List Int)} {f : List Int} {K L F N M n : Nat} (ha : ∀ j t, ((gx (gt a j) t).natAbs : Int) < pw K) (hf : ∀ t, ((gx f t).natAbs : Int) < pw L) (hF : ∀ j, (gt a j).length ≤ F) (hN : f.length ≤ N) (hN' : N ≤ 1000) (hF' : F ≤ 1000) (hy : (y.natAbs : Int) < pw 1) (hn : n ≤ 1000) (hM : K + (L + (n - 1) * N) + 1 ≤ M) (t : Nat) : ((gx (Ozs al y a f n) t).natAbs : Int) < pw M := by
  rw [gx_Ozs]
  have h1 : ∀ m, m ≤ n → ((sm m fun i => cv (gx (gt a i)) (gx (Fit al y f i)) t).natAbs : Int) ≤ (m : Int) * (1000 * pw (K + (L + (n - 1) * N))) := fun m hm => by
    induction m with
    | zero => simp [sm]
    | succ m ih =>
      rw [sm]
      have h2 := ih (by omega)
      have h3 := cv_lt (ha m) (fun t => Int.lt_of_lt_of_le (Fit_tight (al := al) hf hy hN hN' m t) (pw_mono (show L + m * N ≤ L + (n - 1) * N from Nat.add_le_add_left (Nat.mul_le_mul_right _ (by omega)) _))) (hF m) hF' t
      push_cast
      rw [Int.add_mul, Int.one_mul]
      omega
  have h2 := h1 n (Nat.le_refl _)
  have h3 := pw_mono hM
  rw [pw_succ] at h3
  have h4 := pw_pos (K + (L + (n - 1) * N))
  have h5 : (n : Int) * (1000 * pw (K + (L + (n - 1) * N))) ≤ 1000 * (1000 * pw (K + (L + (n - 1) * N))) := Int.mul_le_mul_of_nonneg_right (by omega) (by omega)
  omega
theorem cv_past {a b : List Int} {n m t : Nat} (ha : a.length ≤ n) (hb : b.length ≤ m) (h : n + m ≤ t + 1) : cv (gx a) (gx b) t = 0 := by
  refine sm_zero _ fun i hi => ?_
  rcases Nat.lt_or_ge i a.length with h1 | h1
  · rw [gx_beyond b _ (by omega), Int.mul_zero]
  · rw [gx_beyond a _ h1, Int.zero_mul]
theorem Pzs_past {al y : Int} {a b : List (List Int)} {E F : Nat} (hF : ∀ j, (gt a j).length ≤ F) (hE : ∀ j, (gt b j).length ≤ E) (n j t : Nat) (ht : F + E ≤ t + 1) : gx (gt (Pzs al y a b n) j) t = 0 := by
  rw [gx_Pzs]
  exact sm_zero _ fun i _ => cv_past (hF i) (gt_len_Bzs al y b hE i j) ht
theorem Ozs_past {al y : Int} {a : List (List Int)} {f : List Int} {N F : Nat} (hF : ∀ j, (gt a j).length ≤ F) (hN : f.length ≤ N) (n t : Nat) (ht : F + N ≤ t + 1) : gx (Ozs al y a f n) t = 0 := by
  rw [gx_Ozs]
  exact sm_zero _ fun i _ => cv_past (hF i) (Nat.le_trans (Fit_len al y f i) hN) ht
theorem Bzs_rows {al y : Int} (ha : al = 1 ∨ al = 2 ∨ al = 3) (b : List (List Int)) {n : Nat} (hb : olen b ≤ n) : ∀ i j, n + i ≤ j → ∀ t, gx (gt (Bzs al y b i) j) t = 0
  | 0, j, hj, t => zero_past b j (by omega) t
  | i + 1, j, hj, t => by
    rw [gx_Bzs ha, lt1, TT_zero _ _ _ 0 (Bzs_rows ha b hb i j (by omega)), if_neg (by omega), TT_zero _ _ 0 1 (Bzs_rows ha b hb i (j - 1) (by omega))]
    rfl
theorem Pzs_rows {al y : Int} (ha : al = 1 ∨ al = 2 ∨ al = 3) (a b : List (List Int)) {n m : Nat} (hb : olen b ≤ n) (k : Nat) (hk : n + m ≤ k + 1) (t : Nat) : gx (gt (Pzs al y a b m) k) t = 0 := by
  rw [gx_Pzs]
  exact sm_zero _ fun i hi => cv_zr (Bzs_rows ha b hb i k (by omega)) _ _
end Sk
theorem len_of_zero {l : List Int} {n : Nat} (h : tlen l = l.length) (hz : ∀ t, n ≤ t → gx l t = 0) : l.length ≤ n := by
  rcases Nat.lt_or_ge n l.length with h1 | h1
  · exfalso
    have h3 : 0 < tlen l := by rw [h]; omega
    have h2 : gx l (l.length - 1) ≠ 0 := by
      have := tlen_top l h3
      rwa [h] at this
    exact h2 (hz _ (by omega))
  · exact h1
def AmP (al y : Int) (zss : List (List Int)) (zs : List Int) (w : World) (r : Ending) (w' : World) : Prop :=
  (1048576 < estA zss zs y → r = .returned (.tuple #[.slice none 0 0, .int .i64 4])) ∧ (¬ 1048576 < estA zss zs y → ∃ q m fs, r = .returned (.tuple #[.slice q m m, .int .i64 0]) ∧ PN w.heap.size w' 640 q m fs (Ozs al y zss zs (olen zss))) ∧ Below w.heap.size w w'
structure ApJ (w wr : World) (g : Nat) (al y : Int) (B T : Nat) (zss : List (List Int)) (h : Hdr) (zs : List Int) (i : Nat) (fp : Option Addr) (fn fc : Nat) (op : Option Addr) (on : Nat) : Prop where
  r : RuleQ wr g al y
  a : HR 7 (EZ 16 5) wr B T zss h
  t : T ≤ wr.heap.size
  f : ∃ fe zf, PA wr (19 + (i - 1) * 7) fp fn fc fe zf ∧ tr zf = Fit al y zs (i - 1) ∧ fn ≤ 7
  o : ∃ oe, PN w.heap.size wr (90 * i) op on oe (Ozs al y zss zs i)
  on : on ≤ 100
  zl : zs.length ≤ 7
  b : Below w.heap.size w wr
theorem ApJ.start {w v : World} {g : Nat} {al y : Int} {B T : Nat} {zss : List (List Int)} {h : Hdr} {zs : List Int} {p : Option Addr} {n nc : Nat} {es : List Ent} (hr : RuleQ v g al y) (ha : HR 7 (EZ 16 5) v B T zss h) (ht : T ≤ v.heap.size) (hp : PA v 19 p n nc es zs) (hn : n ≤ 7) (hb : Below w.heap.size w v) : ApJ w v g al y B T zss h zs 0 p n nc none 0 :=
  ⟨hr, ha, ht, ⟨es, zs, hp, rfl, hn⟩, ⟨[], pn_nil _ _ _⟩, by decide, by rw [hp.zl]; exact hn, hb⟩
theorem ApJ.entry {w wr : World} {g : Nat} {al y : Int} {B T : Nat} {zss : List (List Int)} {h : Hdr} {zs : List Int} {i : Nat} {fp : Option Addr} {fn fc : Nat} {op : Option Addr} {on : Nat} (k : ApJ w wr g al y B T zss h zs i fp fn fc op on) (hi : i < olen zss) : ∃ b o p n nc es, h.p = some ⟨b, o, none⟩ ∧ wr.cell? ⟨b, o + i, none⟩ = some (.slice p n nc) ∧ PA wr 16 p n nc es (gt zss i) ∧ n ≤ 5 := by
  obtain ⟨hs, q⟩ := k.a
  have h1 := olen_le zss
  have h2 := q.tl
  obtain ⟨b, o, hp, hc⟩ := q.hl (by rw [q.el]; omega)
  have c0 := hc i (by rw [q.el]; omega)
  obtain ⟨es2, hP2, hd3, -, -⟩ := q.ev i (by omega)
  exact ⟨b, o, _, _, _, es2, hp, c0, hP2, hd3⟩
theorem ApJ.next {w wr w2 w3 : World} {g : Nat} {al y : Int} {B T : Nat} {zss : List (List Int)} {h : Hdr} {zs : List Int} {i : Nat} {fp gp : Option Addr} {fn fc gn gc : Nat} {op q : Option Addr} {on m : Nat} {e4 ge' : List Ent} {zg : List Int} {K : Nat} (k : ApJ w wr g al y B T zss h zs i fp fn fc op on) (hb2 : Below wr.heap.size wr w2) (hb3 : Below w2.heap.size w2 w3) (hA : PN w2.heap.size w3 K q m e4 (tr (pz (· + ·) (Ozs al y zss zs i) (mulp (tr (gt zss i)) (Fit al y zs i))))) (hK : K ≤ 90 * (i + 1)) (hc : (gt zss i).length ≤ 5) (hg : PA w3 (19 + i * 7) gp gn gc ge' zg) (hgt : tr zg = Fit al y zs i) (hgn : gn ≤ 7) : ApJ w w3 g al y B T zss h zs (i + 1) gp gn gc q m := by
  have hb := bnext' hb2 hb3
  have hs : w.heap.size ≤ w2.heap.size := Nat.le_trans k.b.size hb2.size
  refine ⟨k.r.below hb, (lasts_HR (lasts_EZ 16 5)).below k.a k.t hb, Nat.le_trans k.t hb.size, ⟨ge', zg, hg, hgt, hgn⟩, ⟨e4, (hA.wider hK).mono hs⟩, ?_, k.zl, bnext' k.b hb⟩
  have h1 := len_add (Ozs al y zss zs i) (mulp (tr (gt zss i)) (Fit al y zs i))
  have h2 := mulp_le (tr (gt zss i)) (Fit al y zs i)
  have h3 := length_tr (gt zss i)
  have h4 := tlen_le (gt zss i)
  have h5 := Fit_len al y zs i
  have h6 := k.zl
  have h7 := hA.zl
  obtain ⟨oe, h8⟩ := k.o
  have h9 := h8.zl
  have h10 := k.on
  omega
theorem ApJ.first {w wr w2 w3 : World} {g : Nat} {al y : Int} {B T : Nat} {zss : List (List Int)} {h : Hdr} {zs : List Int} {fp : Option Addr} {fn fc : Nat} {op q : Option Addr} {on m : Nat} {e4 : List Ent} {K : Nat} (k : ApJ w wr g al y B T zss h zs 0 fp fn fc op on) (hb2 : Below wr.heap.size wr w2) (hb3 : Below w2.heap.size w2 w3) (hA : PN w2.heap.size w3 K q m e4 (tr (pz (· + ·) (Ozs al y zss zs 0) (mulp (tr (gt zss 0)) (Fit al y zs 0))))) (hK : K ≤ 90) (hc : (gt zss 0).length ≤ 5) : ApJ w w3 g al y B T zss h zs (0 + 1) fp fn fc q m := by
  obtain ⟨fe, zf, h1, h2, h3⟩ := k.f
  exact k.next hb2 hb3 hA (by omega) hc (h1.below (bnext' hb2 hb3)) h2 h3
set_option maxRecDepth 100000 in
theorem oApply_mid {w : World} {g : Nat} {al y : Int} (hr : RuleQ w g al y) {B T : Nat} {zss : List (List Int)} {h : Hdr} (H : HR 7 (EZ 16 5) w B T zss h) (hT : T ≤ w.heap.size) {p : Option Addr} {n nc : Nat} {es : List Ent} {zs : List Int} (hP : PA w 19 p n nc es zs) (hn : n ≤ 7) :
    Calls Tryz.prog 30 #[.pointer (some ⟨g, 0, none⟩), .slice h.p h.n h.c, .slice p n nc] w (AmP al y zss zs w) := by
  have HX : Hid (RuleQ w g al y ∧ HR 7 (EZ 16 5) w B T zss h ∧ T ≤ w.heap.size ∧ PA w 19 p n nc es zs) := ⟨hr, H, hT, hP⟩
  have ha0 : ¬ al = 0 := by have := hr.a; omega
  have ha1 : (al == 0) = false := by rw [beq_eq_false_iff_ne]; exact ha0
  obtain ⟨e, hR, hE⟩ := hr.r
  have hAl := oAlg_any hR
  have HR' : Hid (RuleAt w g al e ∧ EV w 1 y e) := ⟨hR, hE⟩
  obtain ⟨hp, hn', hc⟩ := h
  clear hr H hT hP hR hE
  go_enter Tryz.func30, Tryz.ntmps30
  go_wp2_with fail
  go_fit hAl
  rintro r w1 ⟨rfl, hb1⟩
  clear hAl
  go_wp2_with fail
  have HY : Hid (RuleAt w1 g al e ∧ EV w1 1 y e ∧ RuleQ w1 g al y ∧ HR 7 (EZ 16 5) w1 B T zss ⟨hp, hn', hc⟩ ∧ T ≤ w1.heap.size ∧ PA w1 19 p n nc es zs ∧ Below w.heap.size w w1) := ⟨HR'.out.1.below hb1, HR'.out.2.below hb1, HX.out.1.below hb1, (lasts_HR (lasts_EZ 16 5)).below HX.out.2.1 HX.out.2.2.1 hb1, Nat.le_trans HX.out.2.2.1 hb1.size, HX.out.2.2.2.below hb1, hb1⟩
  have k0 := HY.out.1.c0
  have k1 := HY.out.1.c1
  have k2 := HY.out.1.c2
  have hlenD := hr_len HY.out.2.2.2.1
  have hsz := fun v (hb : Below w1.heap.size w1 v) => osize_any ((lasts_HR (lasts_EZ 16 5)).below HY.out.2.2.2.1 HY.out.2.2.2.2.1 hb) (Nat.le_trans HY.out.2.2.2.2.1 hb.size) (by decide) (by decide) (by decide)
  have hszl : olen zss ≤ 7 := by
    obtain ⟨hs, k⟩ := HY.out.2.2.2.1
    have h1 := k.few
    have h2 := k.tl
    have h3 := olen_le zss
    simp only at h1 h2
    omega
  have HI : Hid (InI (max ((olen zss : Int) - 1) 0) ∧ InI (max (odeg zss) 0) ∧ InI (obit zss : Int) ∧ (-1 ≤ (tlen zs : Int) - 1 ∧ (tlen zs : Int) - 1 ≤ 1000000000) ∧ InI (pb zs : Int) ∧ InI (zb y : Int)) := by
    have b1 := (obd_of HY.out.2.2.2.1).1
    have b2 := (obd_of HY.out.2.2.2.1).2
    have b3 := pb_le HY.out.2.2.2.2.2.1 (by omega)
    have b4 := zb_le HY.out.2.1
    have b5 := tlen_le zs
    have b6 := HY.out.2.2.2.2.2.1.zl
    exact ⟨⟨by omega, by omega⟩, ⟨by omega, by omega⟩, ⟨by omega, by omega⟩, ⟨by omega, by omega⟩, ⟨by omega, by omega⟩, ⟨by omega, by omega⟩⟩
  have HE : Hid (tms [sms [max ((olen zss : Int) - 1) 0, 1], sms [max (odeg zss) 0, ((tlen zs : Int) - 1) + 3], sms [(obit zss : Int), (pb zs : Int), pms [sms [max ((olen zss : Int) - 1) 0, 1], ((tlen zs : Int) - 1) + 2, sms [(zb y : Int), 8]]]] = estA zss zs y) := rfl
  generalize max ((olen zss : Int) - 1) 0 = E1 at *
  generalize max (odeg zss) 0 = E2 at *
  generalize (obit zss : Int) = E3 at *
  go_region_held3 (fun w' => w'.cell? ⟨g, 0, none⟩ = some (.int .i64 al) ∧ w'.cell? ⟨g, 1, none⟩ = some (.bool e.s) ∧ w'.cell? ⟨g, 2, none⟩ = some (.slice e.p e.n e.c)) (first | with_reducible exact ⟨k0, k1, k2⟩ | with_reducible exact ⟨p0, p1, p2⟩ | with_reducible exact ⟨q0, q1, q2⟩ | with_reducible exact ⟨r0, r1, r2⟩ | with_reducible exact ⟨s0, s1, s2⟩ | with_reducible exact ⟨t0, t1, t2⟩ | (simp [go_sem, *]; done))
    (first
      | (go_at_call 60; go_fit (hsz _ (Below.refl _ _).drew); rintro r v1 ⟨rfl, hv1⟩; have hV1 := undrew hv1; have p0 := cell_later hV1 k0; have p1 := cell_later hV1 k1; have p2 := cell_later hV1 k2)
      | (go_at_call 74; go_fit (uDeg_any 19 p n nc es zs v1 (HY.out.2.2.2.2.2.1.below hV1) (by omega)); rintro r v2 ⟨rfl, hv2⟩; have hV2 := bnext' hV1 hv2; have q0 := cell_later hv2 p0; have q1 := cell_later hv2 p1; have q2 := cell_later hv2 p2)
      | (go_at_call 75; go_fit (uBits_any (HY.out.2.2.2.2.2.1.below hV2) (by omega) (by decide)); rintro r v3 ⟨rfl, -, hv3⟩; have hV3 := bnext' hV2 hv3; have r0 := cell_later hv3 q0; have r1 := cell_later hv3 q1; have r2 := cell_later hv3 q2)
      | (go_at_call 61; go_fit (Bits_ev (HY.out.2.1.below hV3)); rintro r v4 ⟨rfl, hv4⟩; have hV4 := bnext' hV3 hv4; have s0 := cell_later hv4 r0; have s1 := cell_later hv4 r1; have s2 := cell_later hv4 r2)
      | (go_at_call 73; go_fit (eApply_any v4 E1 E2 E3 ((tlen zs : Int) - 1) (pb zs) (zb y) HI.out.1 HI.out.2.1 HI.out.2.2.1 HI.out.2.2.2.1 HI.out.2.2.2.2.1 HI.out.2.2.2.2.2); rintro r v5 ⟨rfl, hv5⟩; have hV5 := bnext' hV4 hv5; have t0 := cell_later hv5 s0; have t1 := cell_later hv5 s1; have t2 := cell_later hv5 s2))
  have hz := HE.out
  rw [hz]
  have HB : Hid (Below w.heap.size w v5) := bnext' HY.out.2.2.2.2.2.2 hV5
  have HZ : Hid (RuleQ v5 g al y ∧ HR 7 (EZ 16 5) v5 B T zss ⟨hp, hn', hc⟩ ∧ T ≤ v5.heap.size ∧ PA v5 19 p n nc es zs ∧ RuleAt v5 g al e) := ⟨HY.out.2.2.1.below hV5, (lasts_HR (lasts_EZ 16 5)).below HY.out.2.2.2.1 HY.out.2.2.2.2.1 hV5, Nat.le_trans HY.out.2.2.2.2.1 hV5.size, HY.out.2.2.2.2.2.1.below hV5, HY.out.1.below hV5⟩
  generalize hES : estA zss zs y = ES at *
  have HES : Hid (estA zss zs y = ES) := hES
  clear hES hz HE HI hsz hv1 hv2 hv3 hv4 hv5 hV1 hV2 hV3 hV4 hV5 p0 p1 p2 q0 q1 q2 r0 r1 r2 s0 s1 s2 t0 t1 t2 k0 k1 k2 HY HX HR' hb1
  by_cases hbig : 1048576 < ES
  · go_wp2_with fail
    exact bodyPost_ret (v := .tuple #[.slice none 0 0, .int .i64 4]) (by simp [results, Tryz.results30, go_sem]) rfl ⟨fun _ => rfl, fun h => absurd hbig (by rw [← HES.out]; exact h), HB.out⟩
  have hbig' : ES ≤ 1048576 := by omega
  have hot := otrim_any HZ.out.2.1 HZ.out.2.2.1 (by decide) (by decide)
  dsimp only at hot
  have c0 := HZ.out.2.2.2.2.c0
  by_cases h2 : al = 2
  · subst h2
    have HJ : Hid (LetOK 64 g 2 y) := let_delta
    go_wp2_with fail
    go_fit hot
    rintro r w6 ⟨rfl, hb6⟩
    have HW : Hid (RuleQ w6 g 2 y ∧ HR 7 (EZ 16 5) w6 B T zss ⟨hp, hn', hc⟩ ∧ T ≤ w6.heap.size ∧ PA w6 19 p n nc es zs ∧ Below w.heap.size w w6) := ⟨HZ.out.1.below hb6, (lasts_HR (lasts_EZ 16 5)).below HZ.out.2.1 HZ.out.2.2.1 hb6, Nat.le_trans HZ.out.2.2.1 hb6.size, HZ.out.2.2.2.1.below hb6, bnext' HB.out hb6⟩
    clear HB HZ hb6 c0 hot
    go_wp2_with fail
    go_loopw [2, 9, 10, 11, 40] (fun fv ov _ _ kv wr => ∃ (i : Nat) (fp : Option Addr) (fn fc : Nat) (op : Option Addr) (on : Nat), i ≤ olen zss ∧ fv = .slice fp fn fc ∧ ov = .slice op on on ∧ kv = .int .i64 i ∧ Hid (ApJ w wr g 2 y B T zss ⟨hp, hn', hc⟩ zs i fp fn fc op on)) (fun _ _ _ _ kv _ => olen zss - (intOf kv).toNat)
    case atStart => exact ⟨0, p, n, nc, none, 0, Nat.zero_le _, rfl, rfl, by go_num, ApJ.start HW.out.1 HW.out.2.1 HW.out.2.2.1 HW.out.2.2.2.1 hn HW.out.2.2.2.2⟩
    case round =>
      obtain ⟨i, fp, fn, fc, op, on, hi, rfl, rfl, rfl, G⟩ := hrel
      rcases Nat.lt_or_ge i (olen zss) with hlt | hge
      · obtain ⟨b, o, p2, n2, nc2, es2, hpb, c1, hP2, hn2⟩ := G.out.entry hlt
        subst hpb
        have i1 : (i : Int) < ((olen zss : Nat) : Int) := by omega
        have HP2 : Hid (PA wr 16 p2 n2 nc2 es2 (gt zss i) ∧ n2 ≤ 5) := ⟨hP2, hn2⟩
        clear hP2 hn2
        by_cases hi0 : i = 0
        · subst hi0
          rw [Nat.add_zero] at c1
          obtain ⟨fe, zf, hF0, hFt0, hFn⟩ := G.out.f
          have hF : PA wr 19 fp fn fc fe zf := hF0
          have hFt : tr zf = Fit 2 y zs 0 := hFt0
          clear hF0 hFt0
          have hm := uMul_gen HP2.out.1 hF (by have := HP2.out.2; omega) (by omega) (by omega) (by omega) (by omega)
          rw [hFt] at hm
          have hFn' := hFn
          clear hF hFt hFn
          go_wp2_with fail
          go_fit hm
          rintro r w2 ⟨p3, n3, e3, rfl, hM, hb2⟩
          obtain ⟨oe, hO⟩ := G.out.o
          have hadd := uAdd_any ((hO.pa (by omega) (by have := G.out.on; omega)).below hb2) (hM.pa (by omega) (by have := mulp_le (tr (gt zss 0)) (Fit 2 y zs 0); have := hM.zl; have := HP2.out.1.zl; have := HP2.out.2; have h8 := length_tr (gt zss 0); have := tlen_le (gt zss 0); have := Fit_len 2 y zs 0; have := G.out.zl; omega)) (by have := G.out.on; omega) (by have := mulp_le (tr (gt zss 0)) (Fit 2 y zs 0); have := hM.zl; have := HP2.out.1.zl; have := HP2.out.2; have h8 := length_tr (gt zss 0); have := tlen_le (gt zss 0); have := Fit_len 2 y zs 0; have := G.out.zl; omega) (by omega)
          rw [hO.tr, hM.tr] at hadd
          clear hm
          go_wp2_with fail
          go_fit hadd
          rintro r w3 ⟨p4, n4, e4, rfl, hA, hb3⟩
          have HN : Hid (ApJ w w3 g 2 y B T zss ⟨some ⟨b, o, none⟩, hn', hc⟩ zs (0 + 1) fp fn fc p4 n4) := G.out.first hb2 hb3 hA (by omega) (by rw [HP2.out.1.zl]; exact HP2.out.2)
          clear hadd hO hM hb2 hb3 hA c1
          go_wp2
          exact ⟨⟨1, fp, fn, fc, p4, n4, by omega, rfl, rfl, by go_num, HN.out⟩, by simp [intOf]; omega⟩
        · obtain ⟨k, rfl⟩ : ∃ k, i = k + 1 := ⟨i - 1, by omega⟩
          have i2 : (0 : Int) < ((k + 1 : Nat) : Int) := by omega
          obtain ⟨fe, zf, hF, hFt, hFn⟩ := G.out.f
          rw [Nat.add_sub_cancel] at hF hFt
          have hl := HJ.out wr _ fp fn fc fe zf G.out.r hF (by omega) (by omega)
          have HFt : Hid (LTR 2 y zf = Fit 2 y zs (k + 1)) := by show _ = _; rw [Fit, ← hFt, LTR_tr]
          have HLT : Hid (∀ t, ((gx (Fit 2 y zs (k + 1)) t).natAbs : Int) < pw (19 + (k + 1) * 7)) := fun t => by
            rw [← HFt.out]
            exact Int.lt_of_lt_of_le (LTR_tight hF.gbd G.out.r.bd (by rw [hF.zl]; omega) t) (pw_mono (by rw [hF.zl]; omega))
          have hFn' := hFn
          clear hF hFt hFn
          go_wp2_with fail
          go_fit hl
          rintro r w1' ⟨p3', n3', e3', rfl, hL, hb1'⟩
          rw [HFt.out] at hL
          have hLz := hL.zl
          have hLn : n3' ≤ 7 := by have := Fit_len 2 y zs (k + 1); have := G.out.zl; omega
          have hGP := hL.pa (by omega) (by omega)
          have hGP' : PA w1' (19 + (k + 1) * 7) p3' n3' n3' e3' (Fit 2 y zs (k + 1)) := (hL.fit HLT.out).pa (by omega) (by omega)
          have hm := uMul_gen (HP2.out.1.below hb1') hGP' (by have := HP2.out.2; omega) (by omega) (by omega) (by omega) (by omega)
          rw [hL.tr] at hm
          have HGP : Hid (PA w1' (19 + (k + 1) * 7) p3' n3' n3' e3' (Fit 2 y zs (k + 1)) ∧ Below wr.heap.size wr w1') := ⟨hGP', hb1'⟩
          have hLt := hL.tr
          clear hl hGP hGP' hL hb1' hLz
          go_wp2_with fail
          go_fit hm
          rintro r w2 ⟨p3, n3, e3, rfl, hM, hb2⟩
          have hB2 := bnext' HGP.out.2 hb2
          obtain ⟨oe, hO⟩ := G.out.o
          have hMn : n3 ≤ 1000 := by have := mulp_le (tr (gt zss (k + 1))) (Fit 2 y zs (k + 1)); have := hM.zl; have := HP2.out.1.zl; have := HP2.out.2; have h8 := length_tr (gt zss (k + 1)); have := tlen_le (gt zss (k + 1)); have := Fit_len 2 y zs (k + 1); have := G.out.zl; omega
          have hadd := uAdd_any ((hO.pa (by omega) (by have := G.out.on; omega)).below hB2) (hM.pa (by omega) (by omega)) (by have := G.out.on; omega) (by omega) (by omega)
          rw [hO.tr, hM.tr] at hadd
          clear hm
          go_wp2_with fail
          go_fit hadd
          rintro r w3 ⟨p4, n4, e4, rfl, hA, hb3⟩
          have HN : Hid (ApJ w w3 g 2 y B T zss ⟨some ⟨b, o, none⟩, hn', hc⟩ zs (k + 1 + 1) p3' n3' n3' p4 n4) := G.out.next hB2 hb3 hA (by omega) (by rw [HP2.out.1.zl]; exact HP2.out.2) ((HGP.out.1.below hb2).below hb3) hLt hLn
          clear hadd hO hM hb2 hb3 hA c1 hB2
          go_wp2
          exact ⟨⟨k + 1 + 1, p3', n3', n3', p4, n4, by omega, rfl, rfl, by go_num, HN.out⟩, by simp [intOf]; omega⟩
      · obtain rfl : i = olen zss := by omega
        have HG : Hid (∃ oe, PN w.heap.size wr 640 op on oe (Ozs 2 y zss zs (olen zss)) ∧ Below w.heap.size w wr) := by
          obtain ⟨oe, hO⟩ := G.out.o
          exact ⟨oe, hO.wider (by omega), G.out.b⟩
        clear G
        go_wp2
        obtain ⟨oe, h1, h2⟩ := HG.out
        exact bodyPost_ret (v := .tuple #[.slice op on on, .int .i64 0]) (by simp [results, Tryz.results30, go_sem]) rfl ⟨fun h => absurd h (by rw [HES.out]; omega), fun _ => ⟨op, on, oe, rfl, h1⟩, h2⟩
  · have h2' : (al == 2) = false := by rw [beq_eq_false_iff_ne]; exact h2
    have HJ : Hid (LetOK 63 g al y) := let_sigma h2
    go_wp2_with fail
    go_fit hot
    rintro r w6 ⟨rfl, hb6⟩
    have HW : Hid (RuleQ w6 g al y ∧ HR 7 (EZ 16 5) w6 B T zss ⟨hp, hn', hc⟩ ∧ T ≤ w6.heap.size ∧ PA w6 19 p n nc es zs ∧ Below w.heap.size w w6) := ⟨HZ.out.1.below hb6, (lasts_HR (lasts_EZ 16 5)).below HZ.out.2.1 HZ.out.2.2.1 hb6, Nat.le_trans HZ.out.2.2.1 hb6.size, HZ.out.2.2.2.1.below hb6, bnext' HB.out hb6⟩
    clear HB HZ hb6 c0 hot
    go_wp2_with fail
    go_loopw [2, 9, 10, 11, 40] (fun fv ov _ _ kv wr => ∃ (i : Nat) (fp : Option Addr) (fn fc : Nat) (op : Option Addr) (on : Nat), i ≤ olen zss ∧ fv = .slice fp fn fc ∧ ov = .slice op on on ∧ kv = .int .i64 i ∧ Hid (ApJ w wr g al y B T zss ⟨hp, hn', hc⟩ zs i fp fn fc op on)) (fun _ _ _ _ kv _ => olen zss - (intOf kv).toNat)
    case atStart => exact ⟨0, p, n, nc, none, 0, Nat.zero_le _, rfl, rfl, by go_num, ApJ.start HW.out.1 HW.out.2.1 HW.out.2.2.1 HW.out.2.2.2.1 hn HW.out.2.2.2.2⟩
    case round =>
      obtain ⟨i, fp, fn, fc, op, on, hi, rfl, rfl, rfl, G⟩ := hrel
      rcases Nat.lt_or_ge i (olen zss) with hlt | hge
      · obtain ⟨b, o, p2, n2, nc2, es2, hpb, c1, hP2, hn2⟩ := G.out.entry hlt
        subst hpb
        have i1 : (i : Int) < ((olen zss : Nat) : Int) := by omega
        have HP2 : Hid (PA wr 16 p2 n2 nc2 es2 (gt zss i) ∧ n2 ≤ 5) := ⟨hP2, hn2⟩
        clear hP2 hn2
        by_cases hi0 : i = 0
        · subst hi0
          rw [Nat.add_zero] at c1
          obtain ⟨fe, zf, hF0, hFt0, hFn⟩ := G.out.f
          have hF : PA wr 19 fp fn fc fe zf := hF0
          have hFt : tr zf = Fit al y zs 0 := hFt0
          clear hF0 hFt0
          have hm := uMul_gen HP2.out.1 hF (by have := HP2.out.2; omega) (by omega) (by omega) (by omega) (by omega)
          rw [hFt] at hm
          have hFn' := hFn
          clear hF hFt hFn
          go_wp2_with fail
          go_fit hm
          rintro r w2 ⟨p3, n3, e3, rfl, hM, hb2⟩
          obtain ⟨oe, hO⟩ := G.out.o
          have hadd := uAdd_any ((hO.pa (by omega) (by have := G.out.on; omega)).below hb2) (hM.pa (by omega) (by have := mulp_le (tr (gt zss 0)) (Fit al y zs 0); have := hM.zl; have := HP2.out.1.zl; have := HP2.out.2; have h8 := length_tr (gt zss 0); have := tlen_le (gt zss 0); have := Fit_len al y zs 0; have := G.out.zl; omega)) (by have := G.out.on; omega) (by have := mulp_le (tr (gt zss 0)) (Fit al y zs 0); have := hM.zl; have := HP2.out.1.zl; have := HP2.out.2; have h8 := length_tr (gt zss 0); have := tlen_le (gt zss 0); have := Fit_len al y zs 0; have := G.out.zl; omega) (by omega)
          rw [hO.tr, hM.tr] at hadd
          clear hm
          go_wp2_with fail
          go_fit hadd
          rintro r w3 ⟨p4, n4, e4, rfl, hA, hb3⟩
          have HN : Hid (ApJ w w3 g al y B T zss ⟨some ⟨b, o, none⟩, hn', hc⟩ zs (0 + 1) fp fn fc p4 n4) := G.out.first hb2 hb3 hA (by omega) (by rw [HP2.out.1.zl]; exact HP2.out.2)
          clear hadd hO hM hb2 hb3 hA c1
          go_wp2
          exact ⟨⟨1, fp, fn, fc, p4, n4, by omega, rfl, rfl, by go_num, HN.out⟩, by simp [intOf]; omega⟩
        · obtain ⟨k, rfl⟩ : ∃ k, i = k + 1 := ⟨i - 1, by omega⟩
          have i2 : (0 : Int) < ((k + 1 : Nat) : Int) := by omega
          obtain ⟨fe, zf, hF, hFt, hFn⟩ := G.out.f
          rw [Nat.add_sub_cancel] at hF hFt
          have hl := HJ.out wr _ fp fn fc fe zf G.out.r hF (by omega) (by omega)
          have HFt : Hid (LTR al y zf = Fit al y zs (k + 1)) := by show _ = _; rw [Fit, ← hFt, LTR_tr]
          have HLT : Hid (∀ t, ((gx (Fit al y zs (k + 1)) t).natAbs : Int) < pw (19 + (k + 1) * 7)) := fun t => by
            rw [← HFt.out]
            exact Int.lt_of_lt_of_le (LTR_tight hF.gbd G.out.r.bd (by rw [hF.zl]; omega) t) (pw_mono (by rw [hF.zl]; omega))
          have hFn' := hFn
          clear hF hFt hFn
          go_wp2_with fail
          go_fit hl
          rintro r w1' ⟨p3', n3', e3', rfl, hL, hb1'⟩
          rw [HFt.out] at hL
          have hLz := hL.zl
          have hLn : n3' ≤ 7 := by have := Fit_len al y zs (k + 1); have := G.out.zl; omega
          have hGP := hL.pa (by omega) (by omega)
          have hGP' : PA w1' (19 + (k + 1) * 7) p3' n3' n3' e3' (Fit al y zs (k + 1)) := (hL.fit HLT.out).pa (by omega) (by omega)
          have hm := uMul_gen (HP2.out.1.below hb1') hGP' (by have := HP2.out.2; omega) (by omega) (by omega) (by omega) (by omega)
          rw [hL.tr] at hm
          have HGP : Hid (PA w1' (19 + (k + 1) * 7) p3' n3' n3' e3' (Fit al y zs (k + 1)) ∧ Below wr.heap.size wr w1') := ⟨hGP', hb1'⟩
          have hLt := hL.tr
          clear hl hGP hGP' hL hb1' hLz
          go_wp2_with fail
          go_fit hm
          rintro r w2 ⟨p3, n3, e3, rfl, hM, hb2⟩
          have hB2 := bnext' HGP.out.2 hb2
          obtain ⟨oe, hO⟩ := G.out.o
          have hMn : n3 ≤ 1000 := by have := mulp_le (tr (gt zss (k + 1))) (Fit al y zs (k + 1)); have := hM.zl; have := HP2.out.1.zl; have := HP2.out.2; have h8 := length_tr (gt zss (k + 1)); have := tlen_le (gt zss (k + 1)); have := Fit_len al y zs (k + 1); have := G.out.zl; omega
          have hadd := uAdd_any ((hO.pa (by omega) (by have := G.out.on; omega)).below hB2) (hM.pa (by omega) (by omega)) (by have := G.out.on; omega) (by omega) (by omega)
          rw [hO.tr, hM.tr] at hadd
          clear hm
          go_wp2_with fail
          go_fit hadd
          rintro r w3 ⟨p4, n4, e4, rfl, hA, hb3⟩
          have HN : Hid (ApJ w w3 g al y B T zss ⟨some ⟨b, o, none⟩, hn', hc⟩ zs (k + 1 + 1) p3' n3' n3' p4 n4) := G.out.next hB2 hb3 hA (by omega) (by rw [HP2.out.1.zl]; exact HP2.out.2) ((HGP.out.1.below hb2).below hb3) hLt hLn
          clear hadd hO hM hb2 hb3 hA c1 hB2
          go_wp2
          exact ⟨⟨k + 1 + 1, p3', n3', n3', p4, n4, by omega, rfl, rfl, by go_num, HN.out⟩, by simp [intOf]; omega⟩
      · obtain rfl : i = olen zss := by omega
        have HG : Hid (∃ oe, PN w.heap.size wr 640 op on oe (Ozs al y zss zs (olen zss)) ∧ Below w.heap.size w wr) := by
          obtain ⟨oe, hO⟩ := G.out.o
          exact ⟨oe, hO.wider (by omega), G.out.b⟩
        clear G
        go_wp2
        obtain ⟨oe, h1, h2⟩ := HG.out
        exact bodyPost_ret (v := .tuple #[.slice op on on, .int .i64 0]) (by simp [results, Tryz.results30, go_sem]) rfl ⟨fun h => absurd h (by rw [HES.out]; omega), fun _ => ⟨op, on, oe, rfl, h1⟩, h2⟩
end Go.Proofs.YtejnhpjejcpekaaGreatDoor
