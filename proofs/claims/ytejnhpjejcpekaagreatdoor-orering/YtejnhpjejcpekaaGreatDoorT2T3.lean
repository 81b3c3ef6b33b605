/-
  Plain: tighter bounds of what letters make; sizes of skew products.
-/
import Derived.Test.YtejnhpjejcpekaaGreatDoorS1T1
import Derived.Test.YtejnhpjejcpekaaGreatDoorKqNtNuNvNwNk
import Derived.Deep.DeepFit
namespace Go.Proofs.YtejnhpjejcpekaaGreatDoor
open Go.RowKit
set_option linter.unusedVariables false
set_option linter.unusedSimpArgs false
set_option maxHeartbeats 8000000
theorem co_tight {K : Nat} : ∀ (zs : List Int), (∀ t, ((gx zs t).natAbs : Int) < pw K) → ∀ t, ((co 1 zs t).natAbs : Int) < pw (K + zs.length)
  | [], _, t => by
    have h : co 1 [] t = 0 := by cases t <;> rfl
    rw [h]
    simpa using pw_pos _
  | c :: cs, h, t => by
    have ih := co_tight cs (fun j => by have := h (j + 1); rwa [gx_cons_succ] at this)
    have e : K + (c :: cs).length = K + cs.length + 1 := by simp only [List.length_cons]; omega
    rw [e, pw_succ]
    have hp := pw_pos (K + cs.length)
    cases t with
    | zero =>
      rw [co]
      have h1 := h 0
      rw [gx_cons_zero] at h1
      have h2 := ih 0
      have h3 := pw_mono (show K ≤ K + cs.length by omega)
      omega
    | succ t =>
      rw [co]
      have h1 := ih t
      have h2 := ih (t + 1)
      omega
theorem dl_tight {a : Int} {K : Nat} (ha : (a.natAbs : Int) < pw 1) : ∀ (zs : List Int), (∀ t, ((gx zs t).natAbs : Int) < pw K) → ∀ t, ((dl a zs t).natAbs : Int) < pw (K + zs.length)
  | [], _, t => by simpa [dl] using pw_pos _
  | c :: cs, h, 0 => by
    have h2 := h 0
    rw [gx_cons_zero] at h2
    rw [dl]
    exact Int.lt_of_lt_of_le h2 (pw_mono (by omega))
  | c :: cs, h, t + 1 => by
    have ih := dl_tight ha cs (fun j => by have := h (j + 1); rwa [gx_cons_succ] at this) t
    have e : K + (c :: cs).length = 1 + (K + cs.length) := by simp only [List.length_cons]; omega
    rw [e, dl, Int.natAbs_mul, pw_add]
    generalize K + cs.length = B at *
    push_cast
    have hB := pw_pos B
    have h1 : (a.natAbs : Int) * ((dl a cs t).natAbs : Int) ≤ (a.natAbs : Int) * pw B := Int.mul_le_mul_of_nonneg_left (Int.le_of_lt ih) (by omega)
    have h2 : (a.natAbs : Int) * pw B < pw 1 * pw B := Int.mul_lt_mul_of_pos_right ha hB
    omega
theorem SGM_tight {al y : Int} {zs : List Int} {K : Nat} (hz : ∀ t, ((gx zs t).natAbs : Int) < pw K) (hy : (y.natAbs : Int) < pw 1) (t : Nat) : ((gx (SGM al y zs) t).natAbs : Int) < pw (K + zs.length) := by
  have hl := tlen_le zs
  unfold SGM
  split
  · rw [gx_coz]
    have h1 := co_tight (K := K) (tr zs) (fun t => by rw [gx_tr]; exact hz t) t
    have h2 := pw_mono (show K + (tr zs).length ≤ K + zs.length by rw [length_tr]; omega)
    omega
  · split
    · rw [gx_dlz]
      exact dl_tight hy zs hz t
    · rw [gx_tr]
      have h2 := pw_mono (show K ≤ K + zs.length by omega)
      have := hz t
      omega
theorem DLM_tight {al : Int} {zs : List Int} {K : Nat} (hz : ∀ t, ((gx zs t).natAbs : Int) < pw K) (hn : zs.length ≤ 1000) (t : Nat) : ((gx (DLM al zs) t).natAbs : Int) < pw (K + zs.length) := by
  have hl := tlen_le zs
  unfold DLM
  split
  · rcases Nat.lt_or_ge t ((tr zs).length - 1) with h | h
    · rw [gx_derz _ _ h, gx_tr]
      rw [length_tr] at h
      have h1 := hz (t + 1)
      have h2 := pw_mono (show K + 1 ≤ K + zs.length by omega)
      rw [pw_succ] at h2
      have h3 : ((((t : Int) + 1) * gx zs (t + 1)).natAbs : Int) = ((t : Int) + 1) * ((gx zs (t + 1)).natAbs : Int) := by
        rw [Int.natAbs_mul, Int.natCast_mul, Int.natAbs_of_nonneg (by omega)]
      rw [h3]
      have h4 : ((t : Int) + 1) * ((gx zs (t + 1)).natAbs : Int) ≤ 1000 * ((gx zs (t + 1)).natAbs : Int) := Int.mul_le_mul_of_nonneg_right (by omega) (by omega)
      have h5 := pw_pos K
      omega
    · rw [gx_past _ _ (by rw [length_derz]; exact Nat.le_refl _) t h]
      exact pw_pos _
  · simp [gx]
    exact pw_pos _
theorem LTR_tight {al y : Int} {zs : List Int} {K : Nat} (hz : ∀ t, ((gx zs t).natAbs : Int) < pw K) (hy : (y.natAbs : Int) < pw 1) (hn : zs.length ≤ 1000) (t : Nat) : ((gx (LTR al y zs) t).natAbs : Int) < pw (K + zs.length) := by
  unfold LTR
  split
  · exact DLM_tight hz hn t
  · exact SGM_tight hz hy t
theorem Fit_tight {al y : Int} {f : List Int} {K N : Nat} (hz : ∀ t, ((gx f t).natAbs : Int) < pw K) (hy : (y.natAbs : Int) < pw 1) (hn : f.length ≤ N) (hN : N ≤ 1000) : ∀ i t, ((gx (Fit al y f i) t).natAbs : Int) < pw (K + i * N)
  | 0, t => by rw [Fit, gx_tr]; have := hz t; rw [Nat.zero_mul, Nat.add_zero]; exact this
  | i + 1, t => by
    have h1 := Fit_len al y f i
    have h2 := LTR_tight (al := al) (Fit_tight (al := al) hz hy hn hN i) hy (by omega) t
    rw [Fit]
    refine Int.lt_of_lt_of_le h2 (pw_mono ?_)
    rw [Nat.add_mul]
    omega
theorem LXz_tight {al y : Int} {b : List (List Int)} {K E : Nat} (hb : ∀ j t, ((gx (gt b j) t).natAbs : Int) < pw K) (hE : ∀ j, (gt b j).length ≤ E) (hE' : E ≤ 1000) (hy : (y.natAbs : Int) < pw 1) (j t : Nat) : ((gx (gt (LXz al y b) j) t).natAbs : Int) < pw (K + E + 1) := by
  have h1 : ∀ j t, ((gx (gt (omp (SGM al y) b) j) t).natAbs : Int) < pw (K + E) := omp_lt fun j t => Int.lt_of_lt_of_le (SGM_tight (hb j) hy t) (pw_mono (by have := hE j; omega))
  have h2 : ∀ j t, ((gx (gt (omp (DLM al) b) j) t).natAbs : Int) < pw (K + E) := omp_lt fun j t => Int.lt_of_lt_of_le (DLM_tight (hb j) (by have := hE j; omega) t) (pw_mono (by have := hE j; omega))
  rw [LXz, gx_gtopz _ rfl, gx_gtotr, gx_gtcons, pw_succ]
  have h3 := h2 j t
  have hp := pw_pos (K + E)
  split
  · omega
  · rw [gx_gtotr]
    have h4 := h1 (j - 1) t
    omega
theorem gt_len_LXz (al y : Int) (b : List (List Int)) {E : Nat} (hE : ∀ j, (gt b j).length ≤ E) (j : Nat) : (gt (LXz al y b) j).length ≤ E := by
  have h1 : ∀ f : List Int → List Int, (∀ z, (f z).length ≤ z.length) → ∀ j, (gt (omp f b) j).length ≤ E := fun f hf j => by
    rw [omp, gt_rngL]
    split
    · exact Nat.le_trans (hf _) (hE j)
    · exact Nat.zero_le _
  have h2 : ∀ (l : List (List Int)), (∀ j, (gt l j).length ≤ E) → ∀ j, (gt (otr l) j).length ≤ E := fun l hl j => by
    rw [gt_otr]
    split
    · exact hl j
    · exact Nat.zero_le _
  have h3 : ∀ j, (gt ([] :: otr (omp (SGM al y) b)) j).length ≤ E := fun j => by
    rcases j with _ | j
    · exact Nat.zero_le _
    · exact h2 _ (h1 _ (SGM_len al y)) j
  have h4 := h2 _ (h1 _ (DLM_len al))
  rw [LXz, opz, gt_rngL]
  split
  · rw [length_tr]
    refine Nat.le_trans (tlen_le _) ?_
    have a1 := h3 j
    have a2 := h4 j
    have a3 := tlen_le (gt ([] :: otr (omp (SGM al y) b)) j)
    have a4 := tlen_le (gt (otr (omp (DLM al) b)) j)
    simp only [pz, List.length_map, List.length_range, length_tr]
    omega
  · exact Nat.zero_le _
theorem gt_len_Bzs (al y : Int) (b : List (List Int)) {E : Nat} (hE : ∀ j, (gt b j).length ≤ E) : ∀ i j, (gt (Bzs al y b i) j).length ≤ E
  | 0, j => hE j
  | i + 1, j => by
    rw [Bzs, gt_otr]
    split
    · exact gt_len_LXz al y _ (gt_len_Bzs al y b hE i) j
    · exact Nat.zero_le _
theorem Bzs_tight {al y : Int} {b : List (List Int)} {K E : Nat} (hb : ∀ j t, ((gx (gt b j) t).natAbs : Int) < pw K) (hE : ∀ j, (gt b j).length ≤ E) (hE' : E ≤ 1000) (hy : (y.natAbs : Int) < pw 1) : ∀ i j t, ((gx (gt (Bzs al y b i) j) t).natAbs : Int) < pw (K + i * (E + 1))
  | 0, j, t => by rw [Nat.zero_mul, Nat.add_zero]; exact hb j t
  | i + 1, j, t => by
    rw [Bzs, gx_gtotr]
    refine Int.lt_of_lt_of_le (LXz_tight (Bzs_tight hb hE hE' hy i) (gt_len_Bzs al y b hE i) hE' hy j t) (pw_mono ?_)
    rw [Nat.add_mul]
    omega
namespace Sk
theorem cv_lt {a b : List Int} {K L n : Nat} (ha : ∀ t, ((gx a t).natAbs : Int) < pw K) (hb : ∀ t, ((gx b t).natAbs : Int) < pw L) (hn : a.length ≤ n) (hN : n ≤ 1000) (t : Nat) : ((cv (gx a) (gx b) t).natAbs : Int) ≤ 1000 * pw (K + L) := by
  have h1 : ∀ m, ((sm m fun i => gx a i * gx b (t - i)).natAbs : Int) ≤ (min m n : Nat) * pw (K + L) := fun m => by
    induction m with
    | zero => simp [sm]
    | succ m ih =>
      rw [sm]
      have hp := pw_pos (K + L)
      rcases Nat.lt_or_ge m n with h | h
      · have h2 : ((gx a m * gx b (t - m)).natAbs : Int) ≤ pw (K + L) := by
          rw [Int.natAbs_mul, pw_add]
          push_cast
          exact Int.mul_le_mul (Int.le_of_lt (ha m)) (Int.le_of_lt (hb _)) (by omega) (Int.le_of_lt (pw_pos K))
        have e : ((min (m + 1) n : Nat) : Int) * pw (K + L) = ((min m n : Nat) : Int) * pw (K + L) + pw (K + L) := by
          rw [show min (m + 1) n = min m n + 1 by omega]
          push_cast
          rw [Int.add_mul, Int.one_mul]
        rw [e]
        omega
      · rw [gx_beyond a m (by omega), Int.zero_mul, Int.add_zero, show min (m + 1) n = min m n by omega]
        exact ih
  refine Int.le_trans (h1 (t + 1)) ?_
  exact Int.mul_le_mul_of_nonneg_right (by omega) (Int.le_of_lt (pw_pos _))
theorem Pzs_tight {al y : Int} {a b : List (List Int)} {K L E F M n : Nat} (ha : ∀ j t, ((gx (gt a j) t).natAbs : Int) < pw K) (hb : ∀ j t, ((gx (gt b j) t).natAbs : Int) < pw L) (hF : ∀ j, (gt a j).length ≤ F) (hE : ∀ j, (gt b j).length ≤ E) (hE' : E ≤ 1000) (hF' : F ≤ 1000) (hy : (y.natAbs : Int) < pw 1) (hn : n ≤ 1000) (hM : K + (L + (n - 1) * (E + 1)) + 1 ≤ M) (j t : Nat) : ((gx (gt (Pzs al y a b n) j) t).natAbs : Int) < pw M := by
  rw [gx_Pzs]
  have h1 : ∀ m, m ≤ n → ((sm m fun i => cv (gx (gt a i)) (gx (gt (Bzs al y b i) j)) t).natAbs : Int) ≤ (m : Int) * (1000 * pw (K + (L + (n - 1) * (E + 1)))) := fun m hm => by
    induction m with
    | zero => simp [sm]
    | succ m ih =>
      rw [sm]
      have h2 := ih (by omega)
      have h3 := cv_lt (ha m) (fun t => Int.lt_of_lt_of_le (Bzs_tight (al := al) hb hE hE' hy m j t) (pw_mono (show L + m * (E + 1) ≤ L + (n - 1) * (E + 1) from Nat.add_le_add_left (Nat.mul_le_mul_right _ (by omega)) _))) (hF m) hF' t
      push_cast
      rw [Int.add_mul, Int.one_mul]
      omega
  have h2 := h1 n (Nat.le_refl _)
  have h3 := pw_mono hM
  rw [pw_succ] at h3
  have h4 := pw_pos (K + (L + (n - 1) * (E + 1)))
  have h5 : (n : Int) * (1000 * pw (K + (L + (n - 1) * (E + 1)))) ≤ 1000 * (1000 * pw (K + (L + (n - 1) * (E + 1)))) := Int.mul_le_mul_of_nonneg_right (by omega) (by omega)
  omega
theorem cv_past {a b : List Int} {n m t : Nat} (ha : a.length ≤ n) (hb : b.length ≤ m) (h : n + m ≤ t + 1) : cv (gx a) (gx b) t = 0 := by
  refine sm_zero _ fun i hi => ?_
  rcases Nat.lt_or_ge i a.length with h1 | h1
  · rw [gx_beyond b _ (by omega), Int.mul_zero]
  · rw [gx_beyond a _ h1, Int.zero_mul]
theorem Pzs_past {al y : Int} {a b : List (List Int)} {E F : Nat} (hF : ∀ j, (gt a j).length ≤ F) (hE : ∀ j, (gt b j).length ≤ E) (n j t : Nat) (ht : F + E ≤ t + 1) : gx (gt (Pzs al y a b n) j) t = 0 := by
  rw [gx_Pzs]
  exact sm_zero _ fun i _ => cv_past (hF i) (gt_len_Bzs al y b hE i j) ht
theorem Bzs_rows {al y : Int} (ha : al = 1 ∨ al = 2 ∨ al = 3) (b : List (List Int)) {n : Nat} (hb : olen b ≤ n) : ∀ i j, n + i ≤ j → ∀ t, gx (gt (Bzs al y b i) j) t = 0
  | 0, j, hj, t => zero_past b j (by omega) t
  | i + 1, j, hj, t => by
    rw [gx_Bzs ha, lt1, TT_zero _ _ _ 0 (Bzs_rows ha b hb i j (by omega)), if_neg (by omega), TT_zero _ _ 0 1 (Bzs_rows ha b hb i (j - 1) (by omega))]
    rfl
theorem Pzs_rows {al y : Int} (ha : al = 1 ∨ al = 2 ∨ al = 3) (a b : List (List Int)) {n m : Nat} (hb : olen b ≤ n) (k : Nat) (hk : n + m ≤ k + 1) (t : Nat) : gx (gt (Pzs al y a b m) k) t = 0 := by
  rw [gx_Pzs]
  exact sm_zero _ fun i hi => cv_zr (Bzs_rows ha b hb i k (by omega)) _ _
end Sk
theorem len_of_zero {l : List Int} {n : Nat} (h : tlen l = l.length) (hz : ∀ t, n ≤ t → gx l t = 0) : l.length ≤ n := by
  rcases Nat.lt_or_ge n l.length with h1 | h1
  · exfalso
    have h3 : 0 < tlen l := by rw [h]; omega
    have h2 : gx l (l.length - 1) ≠ 0 := by
      have := tlen_top l h3
      rwa [h] at this
    exact h2 (hz _ (by omega))
  · exact h1
structure MuJ (w wr : World) (g : Nat) (al y : Int) (B T : Nat) (zss yss : List (List Int)) (h : Hdr) (i : Nat) (bp : Option Addr) (bn bc : Nat) (op : Option Addr) (on : Nat) : Prop where
  r : RuleQ wr g al y
  a : HR 5 (EZ 12 5) wr B T zss h
  t : T ≤ wr.heap.size
  b : ∃ D B' T', D ≤ 5 + i ∧ HR D (EZ (12 + 6 * (i - 1)) 5) wr B' T' (Bzs al y yss (i - 1)) ⟨bp, bn, bc⟩ ∧ T' ≤ wr.heap.size
  o : ∃ hs, NO w.heap.size wr (60 * i) 10 (Pzs al y zss yss i) op on hs
  on : on ≤ 100
  bw : Below w.heap.size w wr
section
variable {w wr w2 w3 : World} {g : Nat} {al y : Int} {B T : Nat} {zss yss : List (List Int)} {h : Hdr} {i : Nat} {bp cp : Option Addr} {bn bc cn cc : Nat} {op q : Option Addr} {on m : Nat} {hs' : List Hdr}
theorem MuJ.entry (k : MuJ w wr g al y B T zss yss h i bp bn bc op on) (hi : i < olen zss) : ∃ b o p n nc es, h.p = some ⟨b, o, none⟩ ∧ wr.cell? ⟨b, o + i, none⟩ = some (.slice p n nc) ∧ PA wr 12 p n nc es (gt zss i) ∧ n ≤ 5 := by
  obtain ⟨hs, q⟩ := k.a
  have h1 := olen_le zss
  have h2 := q.tl
  obtain ⟨b, o, hp, hc⟩ := q.hl (by rw [q.el]; omega)
  have c0 := hc i (by rw [q.el]; omega)
  obtain ⟨es2, hP2, hd3, -, -⟩ := q.ev i (by omega)
  exact ⟨b, o, _, _, _, es2, hp, c0, hP2, hd3⟩
theorem MuJ.next (k : MuJ w wr g al y B T zss yss h i bp bn bc op on) (hb : Below wr.heap.size wr w3) {B0 K D B' T' : Nat} (hs0 : w.heap.size ≤ B0) (hA : NO B0 w3 K 10 (otr (opz (· + ·) (Pzs al y zss yss i) (otr (Szs (gt zss i) (Bzs al y yss i))))) q m hs') (hK : K ≤ 60 * (i + 1)) (hD : D ≤ 5 + i + 1) (hi : i ≤ 5) (hg : HR D (EZ (12 + 6 * i) 5) w3 B' T' (Bzs al y yss i) ⟨cp, cn, cc⟩) (hT' : T' ≤ w3.heap.size) : MuJ w w3 g al y B T zss yss h (i + 1) cp cn cc q m := by
  refine ⟨k.r.below hb, (lasts_HR (lasts_EZ 12 5)).below k.a k.t hb, Nat.le_trans k.t hb.size, ⟨D, B', T', by omega, hg, hT'⟩, ⟨hs', ?_⟩, ?_, bnext' k.bw hb⟩
  · obtain ⟨a1, a2, a3, a4, a5⟩ := hA.mono hs0
    exact ⟨a1, a2, a3, a4, fun j hj => let ⟨x1, x2, es, x3⟩ := a5 j hj; ⟨x1, x2, es, x3.wider hK⟩⟩
  · have h1 := hA.tl
    rw [length_otr] at h1
    have h2 := len_opz (Pzs al y zss yss i) (otr (Szs (gt zss i) (Bzs al y yss i)))
    rw [length_otr] at h2
    have h3 := len_Szs (gt zss i) (Bzs al y yss i)
    obtain ⟨hs2, h4⟩ := hg
    have h5 := h4.tl
    have h6 := h4.few
    obtain ⟨oe, h7⟩ := k.o
    have h8 := h7.tl
    have h9 := k.on
    simp only at h5 h6
    omega
end
set_option maxRecDepth 100000 in
theorem oproduct_mid {w : World} {g : Nat} {al y : Int} (hr : RuleQ w g al y) {B T B2 T2 : Nat} {zss yss : List (List Int)} {h k : Hdr} (H : HR 5 (EZ 12 5) w B T zss h) (hT : T ≤ w.heap.size) (G : HR 5 (EZ 12 5) w B2 T2 yss k) (hT2 : T2 ≤ w.heap.size) :
    Calls Tryz.prog 62 #[.slice h.p h.n h.c, .slice k.p k.n k.c, .func (.func 63) #[.pointer (some ⟨g, 0, none⟩)] #[], .func (.func 64) #[.pointer (some ⟨g, 0, none⟩)] #[]] w fun r w' => ∃ q n hs, r = .returned (.slice q n n) ∧ NO w.heap.size w' 300 10 (Pzs al y zss yss (olen zss)) q n hs ∧ Below w.heap.size w w' := by
  have HX : Hid (RuleQ w g al y ∧ HR 5 (EZ 12 5) w B T zss h ∧ T ≤ w.heap.size ∧ HR 5 (EZ 12 5) w B2 T2 yss k ∧ T2 ≤ w.heap.size) := ⟨hr, H, hT, G, hT2⟩
  have hot := otrim_any H hT (by decide) (by decide)
  have hszl : olen zss ≤ 5 := by
    obtain ⟨hs, k⟩ := H
    have h1 := k.few
    have h2 := k.tl
    have h3 := olen_le zss
    omega
  obtain ⟨hp, hn, hc⟩ := h
  obtain ⟨kp, kn, kc⟩ := k
  dsimp only at hot ⊢
  clear hr H hT G hT2
  go_enter Tryz.func62, Tryz.ntmps62
  go_wp2_with fail
  go_fit hot
  rintro r w1 ⟨rfl, hb1⟩
  clear hot
  go_wp2_with fail
  have G0 : Hid (MuJ w w1 g al y B T zss yss ⟨hp, hn, hc⟩ 0 kp kn kc none 0) := ⟨HX.out.1.below hb1, (lasts_HR (lasts_EZ 12 5)).below HX.out.2.1 HX.out.2.2.1 hb1, Nat.le_trans HX.out.2.2.1 hb1.size, ⟨5, B2, T2, by omega, (lasts_HR (lasts_EZ 12 5)).below HX.out.2.2.2.1 HX.out.2.2.2.2 hb1, Nat.le_trans HX.out.2.2.2.2 hb1.size⟩, ⟨[], no_nil _ _ _ _⟩, by decide, hb1⟩
  clear hb1 HX
  go_loopw [1, 9, 10, 11, 15] (fun bv ov _ _ kv wr => ∃ (i : Nat) (bp : Option Addr) (bn bc : Nat) (op : Option Addr) (on : Nat), i ≤ olen zss ∧ bv = .slice bp bn bc ∧ ov = .slice op on on ∧ kv = .int .i64 i ∧ Hid (MuJ w wr g al y B T zss yss ⟨hp, hn, hc⟩ i bp bn bc op on)) (fun _ _ _ _ kv _ => olen zss - (intOf kv).toNat)
  case atStart => exact ⟨0, kp, kn, kc, none, 0, Nat.zero_le _, rfl, rfl, by go_num, G0.out⟩
  case round =>
    clear G0
    obtain ⟨i, bp, bn, bc, op, on, hi, rfl, rfl, rfl, G⟩ := hrel
    rcases Nat.lt_or_ge i (olen zss) with hlt | hge
    · obtain ⟨b, o, p2, n2, nc2, es2, hpb, c1, hP2, hn2⟩ := G.out.entry hlt
      simp only at hpb
      subst hpb
      have i1 : (i : Int) < ((olen zss : Nat) : Int) := by omega
      have HP2 : Hid (PA wr 12 p2 n2 nc2 es2 (gt zss i) ∧ n2 ≤ 5) := ⟨hP2, hn2⟩
      clear hP2 hn2
      by_cases hi0 : i = 0
      · subst hi0
        rw [Nat.add_zero] at c1
        obtain ⟨D, CB, CT, hD, hH, hHT⟩ := G.out.b
        have HGH : HR D (EZ (12 + 6 * 0) 5) wr CB CT (Bzs al y yss 0) ⟨bp, bn, bc⟩ ∧ CT ≤ wr.heap.size := ⟨hH, hHT⟩
        have HGB : Below wr.heap.size wr wr := Below.refl _ _
        clear hH hHT
        have hsc := oScale_gen (N := 5) (HP2.out.1.below HGB) HP2.out.2 (by decide) (by decide) (by omega) HGH.1 HGH.2 (by omega)
        dsimp only at hsc
        have HG' : Hid (HR D (EZ (12 + 6 * 0) 5) wr CB CT (Bzs al y yss 0) ⟨bp, bn, bc⟩ ∧ CT ≤ wr.heap.size ∧ Below wr.heap.size wr wr) := ⟨HGH.1, HGH.2, HGB⟩
        clear HGH HGB
        go_wp2_with fail
        go_fit hsc
        rintro r w2 ⟨q2, hs2, rfl, hN2, hb2⟩
        have hN2' : NO wr.heap.size w2 (12 + (12 + 6 * 0) + 1) 10 (otr (Szs (gt zss 0) (Bzs al y yss 0))) q2 (olen (Szs (gt zss 0) (Bzs al y yss 0))) hs2 := hN2
        have hm2 : olen (Szs (gt zss 0) (Bzs al y yss 0)) ≤ 100 := by
          have h3 := len_Szs (gt zss 0) (Bzs al y yss 0)
          obtain ⟨hs3, h4⟩ := HG'.out.1
          have h5 := h4.tl
          have h6 := h4.few
          simp only at h5 h6
          omega
        have hB2 := bnext' HG'.out.2.2 hb2
        obtain ⟨hso, hO⟩ := G.out.o
        have hadd := oAdd_any ((lasts_HR (lasts_EZ (60 * 0) 10)).below (hO.hr (by omega) (by decide) (by have := G.out.on; omega)) (Nat.le_refl _) hB2) (hN2'.hr (by omega) (by decide) (by omega)) hB2.size (Nat.le_refl _) (by have := G.out.on; omega) (by omega) (by decide) (by omega)
        dsimp only at hadd
        have HB2 : Hid (Below wr.heap.size wr w2 ∧ Below wr.heap.size wr w2) := ⟨hB2, hb2⟩
        change _ at hN2
        clear hsc hN2 hN2' hO
        have e9 : olen ((List.range (olen (Bzs al y yss 0))).map fun i => mulp (tr (gt zss 0)) (tr (gt (Bzs al y yss 0) i))) = olen (Szs (gt zss 0) (Bzs al y yss 0)) := rfl
        rw [e9]
        clear e9
        generalize olen (Szs (gt zss 0) (Bzs al y yss 0)) = m2 at *
        go_wp2_with fail
        go_fit hadd
        rintro r w3 ⟨q3, hs3, rfl, hN3, hb3⟩
        have HN : Hid (MuJ w w3 g al y B T zss yss ⟨some ⟨b, o, none⟩, hn, hc⟩ (0 + 1) bp bn bc q3 (olen (opz (· + ·) (Pzs al y zss yss 0) (otr (Szs (gt zss 0) (Bzs al y yss 0)))))) := G.out.next (bnext' HB2.out.1 hb3) (Nat.le_trans G.out.bw.size (Nat.le_trans HB2.out.1.size (Nat.le_refl _))) hN3 (by omega) (by omega) (by omega) ((lasts_HR (lasts_EZ (12 + 6 * 0) 5)).below HG'.out.1 HG'.out.2.1 (bnext' HB2.out.2 hb3)) (Nat.le_trans HG'.out.2.1 (bnext' HB2.out.2 hb3).size)
        clear hadd hN3 hb3 hB2 hb2 c1
        generalize olen (opz (· + ·) (Pzs al y zss yss 0) (otr (Szs (gt zss 0) (Bzs al y yss 0)))) = m3 at *
        go_wp2
        exact ⟨⟨1, bp, bn, bc, q3, m3, by omega, rfl, rfl, by go_num, HN.out⟩, by simp [intOf]; omega⟩
      · obtain ⟨k, rfl⟩ : ∃ k, i = k + 1 := ⟨i - 1, by omega⟩
        have i2 : (0 : Int) < ((k + 1 : Nat) : Int) := by omega
        obtain ⟨D, CB, CT, hD, hH, hHT⟩ := G.out.b
        rw [Nat.add_sub_cancel] at hH
        have hlt' := LXz_tight (al := al) (y := y) (hr_bd hH) (hr_len hH) (by decide) G.out.r.bd
        have hbl : olen (LXz al y (Bzs al y yss k)) ≤ D + 1 := by
          have h1 := len_LXz al y (Bzs al y yss k)
          have h2 := olen_le (Bzs al y yss k)
          obtain ⟨hs3, h4⟩ := hH
          have h5 := h4.tl
          have h6 := h4.few
          simp only at h5 h6
          omega
        have hl := letterTimes_any G.out.r hH hHT (by omega) (by decide) (by omega)
        dsimp only at hl
        have HLT : Hid (∀ j t, ((gx (gt (LXz al y (Bzs al y yss k)) j) t).natAbs : Int) < pw (12 + 6 * k + 5 + 1)) := hlt'
        clear hH hHT hlt'
        go_wp2_with fail
        go_fit hl
        rintro r w1' ⟨q1, hs1, rfl, hN1, hb1'⟩
        have hN1' := (hN1.fit (M := 12 + 6 * (k + 1)) (fun j t => by rw [gx_gtotr]; exact Int.lt_of_lt_of_le (HLT.out j t) (pw_mono (by omega)))).hr (by omega) (by decide) (by omega)
        have HGH : HR (olen (LXz al y (Bzs al y yss k))) (EZ (12 + 6 * (k + 1)) 5) w1' wr.heap.size w1'.heap.size (Bzs al y yss (k + 1)) ⟨q1, olen (LXz al y (Bzs al y yss k)), olen (LXz al y (Bzs al y yss k))⟩ ∧ w1'.heap.size ≤ w1'.heap.size := ⟨hN1', Nat.le_refl _⟩
        have HGB := hb1'
        clear hl hN1 hN1' hb1' HLT
        generalize olen (LXz al y (Bzs al y yss k)) = bm at *
        have hsc := oScale_gen (N := 5) (HP2.out.1.below HGB) HP2.out.2 (by decide) (by decide) (by omega) HGH.1 HGH.2 (by omega)
        dsimp only at hsc
        have HG' : Hid (HR bm (EZ (12 + 6 * (k + 1)) 5) w1' wr.heap.size w1'.heap.size (Bzs al y yss (k + 1)) ⟨q1, bm, bm⟩ ∧ w1'.heap.size ≤ w1'.heap.size ∧ Below wr.heap.size wr w1') := ⟨HGH.1, HGH.2, HGB⟩
        clear HGH HGB
        go_wp2_with fail
        go_fit hsc
        rintro r w2 ⟨q2, hs2, rfl, hN2, hb2⟩
        have hN2' : NO w1'.heap.size w2 (12 + (12 + 6 * (k + 1)) + 1) 10 (otr (Szs (gt zss (k + 1)) (Bzs al y yss (k + 1)))) q2 (olen (Szs (gt zss (k + 1)) (Bzs al y yss (k + 1)))) hs2 := hN2
        have hm2 : olen (Szs (gt zss (k + 1)) (Bzs al y yss (k + 1))) ≤ 100 := by
          have h3 := len_Szs (gt zss (k + 1)) (Bzs al y yss (k + 1))
          obtain ⟨hs3, h4⟩ := HG'.out.1
          have h5 := h4.tl
          have h6 := h4.few
          simp only at h5 h6
          omega
        have hB2 := bnext' HG'.out.2.2 hb2
        obtain ⟨hso, hO⟩ := G.out.o
        have hadd := oAdd_any ((lasts_HR (lasts_EZ (60 * (k + 1)) 10)).below (hO.hr (by omega) (by decide) (by have := G.out.on; omega)) (Nat.le_refl _) hB2) (hN2'.hr (by omega) (by decide) (by omega)) hB2.size (Nat.le_refl _) (by have := G.out.on; omega) (by omega) (by decide) (by omega)
        dsimp only at hadd
        have HB2 : Hid (Below wr.heap.size wr w2 ∧ Below w1'.heap.size w1' w2) := ⟨hB2, hb2⟩
        change _ at hN2
        clear hsc hN2 hN2' hO
        have e9 : olen ((List.range (olen (Bzs al y yss (k + 1)))).map fun i => mulp (tr (gt zss (k + 1))) (tr (gt (Bzs al y yss (k + 1)) i))) = olen (Szs (gt zss (k + 1)) (Bzs al y yss (k + 1))) := rfl
        rw [e9]
        clear e9
        generalize olen (Szs (gt zss (k + 1)) (Bzs al y yss (k + 1))) = m2 at *
        go_wp2_with fail
        go_fit hadd
        rintro r w3 ⟨q3, hs3, rfl, hN3, hb3⟩
        have HN : Hid (MuJ w w3 g al y B T zss yss ⟨some ⟨b, o, none⟩, hn, hc⟩ ((k + 1) + 1) q1 bm bm q3 (olen (opz (· + ·) (Pzs al y zss yss (k + 1)) (otr (Szs (gt zss (k + 1)) (Bzs al y yss (k + 1))))))) := G.out.next (bnext' HB2.out.1 hb3) (Nat.le_trans G.out.bw.size (Nat.le_trans HB2.out.1.size (Nat.le_refl _))) hN3 (by omega) (by omega) (by omega) ((lasts_HR (lasts_EZ (12 + 6 * (k + 1)) 5)).below HG'.out.1 HG'.out.2.1 (bnext' HB2.out.2 hb3)) (Nat.le_trans HG'.out.2.1 (bnext' HB2.out.2 hb3).size)
        clear hadd hN3 hb3 hB2 hb2 c1
        generalize olen (opz (· + ·) (Pzs al y zss yss (k + 1)) (otr (Szs (gt zss (k + 1)) (Bzs al y yss (k + 1))))) = m3 at *
        go_wp2
        exact ⟨⟨k + 1 + 1, q1, bm, bm, q3, m3, by omega, rfl, rfl, by go_num, HN.out⟩, by simp [intOf]; omega⟩
    · obtain rfl : i = olen zss := by omega
      have HG : Hid (∃ hs, NO w.heap.size wr 300 10 (Pzs al y zss yss (olen zss)) op on hs ∧ Below w.heap.size w wr) := by
        obtain ⟨hs, a1, a2, a3, a4, a5⟩ := G.out.o
        exact ⟨hs, ⟨a1, a2, a3, a4, fun j hj => let ⟨x1, x2, es, x3⟩ := a5 j hj; ⟨x1, x2, es, x3.wider (by omega)⟩⟩, G.out.bw⟩
      clear G
      go_wp2
      go_ret
      obtain ⟨hs, h1, h2⟩ := HG.out
      exact ⟨op, on, hs, rfl, h1, h2⟩
end Go.Proofs.YtejnhpjejcpekaaGreatDoor
