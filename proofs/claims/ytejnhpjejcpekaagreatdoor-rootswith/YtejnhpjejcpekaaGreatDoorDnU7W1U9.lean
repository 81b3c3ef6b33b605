/-
  Normal polynomials behind a store (out of Eb), and wider (out of It).
-/
import Derived.Test.YtejnhpjejcpekaaGreatDoorUbUcUdOwRaWmBe
import Derived.Test.YtejnhpjejcpekaaGreatDoorU6
import Derived.Test.YtejnhpjejcpekaaGreatDoorU8
import Derived.Test.YtejnhpjejcpekaaGreatDoorW0U4U5WvUh
namespace Go.Proofs.YtejnhpjejcpekaaGreatDoor
open Go.RowKit
set_option linter.unusedVariables false
set_option linter.unusedSimpArgs false
set_option maxHeartbeats 8000000
theorem PN.wider {B : Nat} {w : World} {K L : Nat} {p : Option Addr} {n : Nat} {es : List Ent} {zs : List Int} (h : PN B w K p n es zs) (hL : K ≤ L) : PN B w L p n es zs :=
  ⟨h.el, h.zl, h.nrm, h.pl, h.fr, fun j hj => by obtain ⟨xs, a, b, c⟩ := h.ev j hj; exact ⟨xs, a, b, by omega⟩⟩
theorem rtdiv_any {w : World} {B K L : Nat} {p : Option Addr} {n nc : Nat} {es : List Ent} {zs : List Int} {x : Int} {e : Ent} (h : PC B w K p n nc es zs) (hB : B ≤ w.heap.size) (hx : EV w L x e) (hn : n ≤ 1000) (hn1 : 1 ≤ n) (hK : K ≤ 70) (hL : L ≤ 70) :
    Calls Tryz.prog 98 #[.slice p n nc, .agg #[.bool e.s, .slice e.p e.n e.c]] w (RdP B x zs n K w) := by
  by_cases h0 : x = 0
  · subst h0
    exact rtdiv_zero h hx hn hn1 (by omega) (by omega)
  · exact rtdiv_nz h hB hx h0 hn hn1 hK hL
theorem quot_one {x : Int} {zs q r : List Int} (hq : ∀ t, gx zs t = gx (mulp q (lin x)) t) (hr : ∀ t, gx zs t = gx (mulp r (lin x)) t) (t : Nat) : gx q t = gx r t := by
  by_cases h0 : x = 0
  · subst h0
    have h1 := hq (t + 1)
    have h2 := hr (t + 1)
    rw [gx_mlin, if_neg (by omega), Nat.add_sub_cancel] at h1 h2
    omega
  · have hl : (tr zs ++ List.replicate (zs.length + 1 - tlen zs) 0).length = zs.length + 1 := by
      rw [List.length_append, length_tr, List.length_replicate]
      have := tlen_le zs
      omega
    have hg : ∀ t, gx (tr zs ++ List.replicate (zs.length + 1 - tlen zs) 0) t = gx zs t := fun t => by
      rcases Nat.lt_or_ge t (tr zs).length with h1 | h1
      · rw [gx_app_lo _ _ _ h1, gx_tr]
      · obtain ⟨d, rfl⟩ : ∃ d, t = (tr zs).length + d := ⟨t - (tr zs).length, by omega⟩
        rw [gx_app_hi, ← gx_tr zs, gx_past (tr zs) _ (Nat.le_refl _) _ (by omega)]
        simp [gx, List.getElem?_replicate]
        split <;> rfl
    rw [(mul_goes h0 hl fun t => (hg t).trans (hq t)).2, (mul_goes h0 hl fun t => (hg t).trans (hr t)).2]
def outs (x : Int) : Nat → List Int → List Int → Prop
  | 0, zs, ys => zs = ys
  | k + 1, zs, ys => ∃ q, tlen q = q.length ∧ (∀ t, gx zs t = gx (mulp q (lin x)) t) ∧ outs x k q ys
theorem outs_snoc {x : Int} {q : List Int} (hn : tlen q = q.length) : ∀ {k : Nat} {zs ys : List Int}, outs x k zs ys → (∀ t, gx ys t = gx (mulp q (lin x)) t) → outs x (k + 1) zs q
  | 0, zs, ys, h, hq => by
    have h' : zs = ys := h
    subst h'
    exact ⟨q, hn, hq, rfl⟩
  | k + 1, zs, ys, ⟨r, h1, h2, h3⟩, hq => ⟨r, h1, h2, outs_snoc hn h3 hq⟩
def Rsd (x : Int) (zs ys : List Int) (k : Nat) : Prop := outs x k zs ys ∧ ¬ Dvd ys (lin x)
theorem nrm_extL {a b : List Int} (ha : tlen a = a.length) (hb : tlen b = b.length) (h : ∀ j, gx a j = gx b j) : a = b := by
  have h1 := tr_same h
  rwa [tr_self ha, tr_self hb] at h1
theorem res_one {x : Int} : ∀ {k j : Nat} {zs ys us : List Int}, Rsd x zs ys k → Rsd x zs us j → ys = us ∧ k = j
  | 0, 0, zs, ys, us, h1, h2 => ⟨(show zs = ys from h1.1).symm.trans (show zs = us from h2.1), rfl⟩
  | 0, j + 1, zs, ys, us, h1, h2 => by
    obtain ⟨q, -, hq, -⟩ := h2.1
    have h3 : zs = ys := h1.1
    subst h3
    exact absurd ⟨q, hq⟩ h1.2
  | k + 1, 0, zs, ys, us, h1, h2 => by
    obtain ⟨q, -, hq, -⟩ := h1.1
    have h3 : zs = us := h2.1
    subst h3
    exact absurd ⟨q, hq⟩ h2.2
  | k + 1, j + 1, zs, ys, us, ⟨⟨q, a1, a2, a3⟩, a4⟩, ⟨⟨r, b1, b2, b3⟩, b4⟩ => by
    have h3 : q = r := nrm_extL a1 b1 (quot_one a2 b2)
    subst h3
    obtain ⟨h5, h6⟩ := res_one ⟨a3, a4⟩ ⟨b3, b4⟩
    exact ⟨h5, by rw [h6]⟩
def DoP (B : Nat) (x : Int) (zs : List Int) (n K : Nat) (w : World) (r : Ending) (w' : World) : Prop :=
  ∃ (q : Option Addr) (m c : Nat) (qs : List Ent) (ys : List Int) (k : Nat), r = .returned (.tuple #[.slice q m c, .int .i64 k]) ∧ PC B w' (K + n) q m c qs ys ∧ 1 ≤ m ∧ m + k = n ∧ Rsd x zs ys k ∧ Below w.heap.size w w'
structure DoI (w wr : World) (B : Nat) (e : Ent) (zs : List Int) (x : Int) (n K L k : Nat) (q : Option Addr) (m c : Nat) (qs : List Ent) (ys : List Int) : Prop where
  p : PC B wr (K + k) q m c qs ys
  m1 : 1 ≤ m
  mn : m + k = n
  o : outs x k zs ys
  x : EV wr L x e
  bx : Bx wr w.heap.size (.bool e.s) (.slice e.p e.n e.c)
  bw : Below w.heap.size w wr
set_option maxRecDepth 100000 in
theorem rtout_any {w : World} {B K L : Nat} {p : Option Addr} {n nc : Nat} {es : List Ent} {zs : List Int} {x : Int} {e : Ent} (h : PC B w K p n nc es zs) (hB : B ≤ w.heap.size) (hx : EV w L x e) (hn : n ≤ 1000) (hn1 : 1 ≤ n) (hK : K + n ≤ 70) (hL : L ≤ 70) :
    Calls Tryz.prog 49 #[.slice p n nc, .agg #[.bool e.s, .slice e.p e.n e.c]] w (DoP B x zs n K w) := by
  have hal := bel_al (o := .cells #[.bool e.s, .slice e.p e.n e.c] 26) (Below.refl w.heap.size w)
  have H0 : Hid (DoI w (w.alloc (.cells #[.bool e.s, .slice e.p e.n e.c] 26)) B e zs x n K L 0 p n nc es zs) := ⟨h.below hal, hn1, rfl, rfl, hx.below hal, Bx.new _ _ _ rfl, hal⟩
  clear h hx
  go_enter Tryz.func49, Tryz.ntmps49
  go_wp2_with fail
  generalize w.alloc (.cells #[.bool e.s, .slice e.p e.n e.c] 26) = W0 at *
  clear hal
  go_loopw [0, 6, 7, 8] (fun pv kv _ _ wr => ∃ (k : Nat) (q : Option Addr) (m c : Nat) (qs : List Ent) (ys : List Int), pv = .slice q m c ∧ kv = .int .i64 k ∧ Hid (DoI w wr B e zs x n K L k q m c qs ys)) (fun _ kv _ _ _ => n - (intOf kv).toNat)
  case atStart => exact ⟨0, p, n, nc, es, zs, rfl, by go_num, H0.out⟩
  case round =>
    clear H0
    obtain ⟨k, q, m, c, qs, ys, rfl, rfl, H⟩ := hrel
    have hm := H.out.mn
    have hm1 := H.out.m1
    have hkn : k < n := by omega
    have hd := rtdiv_any H.out.p (Nat.le_trans hB H.out.bw.size) H.out.x (by omega) hm1 (by omega) hL
    obtain ⟨x0, x1, -, -⟩ := id H.out.bx
    clear hm hm1
    go_wp2_with fail
    go_fit hd
    rintro r w2 ⟨hR, hb⟩
    clear hd x0 x1
    rcases hR with ⟨q2, m2, c2, qs2, ys2, rfl, hP2, hm2, hq2⟩ | ⟨q2, m2, c2, rfl, hn2⟩
    · have HN : Hid (DoI w w2 B e zs x n K L (k + 1) q2 m2 c2 qs2 ys2) := by
        have hl2 := hP2.pn.zl
        refine ⟨hP2, ?_, by have := H.out.mn; omega, outs_snoc (by rw [hP2.pn.nrm, hl2]) H.out.o hq2, H.out.x.below hb, H.out.bx.later hb, bnext' H.out.bw hb⟩
        rcases Nat.eq_zero_or_pos m2 with h0 | h0
        · exfalso
          have h1 : ys2 = [] := List.length_eq_zero_iff.1 (by omega)
          have h2 : tlen ys = 0 := tlen_eq ys 0 (fun j _ => by rw [hq2 j, h1, mlin_nil]; simp [gx]) (.inl rfl)
          have := H.out.p.pn.nrm
          have := H.out.m1
          omega
        · exact h0
      clear hP2 hq2 H hb hm2
      go_wp2
      exact ⟨⟨k + 1, q2, m2, c2, qs2, ys2, rfl, by go_num, HN.out⟩, by simp [intOf]; omega⟩
    · have HF : Hid (DoP B x zs n K w (.returned (.tuple #[.slice q m c, .int .i64 k])) w2) := ⟨q, m, c, qs, ys, k, rfl, ⟨(H.out.p.pn.below hb).wider (by omega), H.out.p.cap, H.out.p.bnd, H.out.p.nil⟩, H.out.m1, H.out.mn, ⟨H.out.o, hn2⟩, bnext' H.out.bw hb⟩
      clear H hb hn2
      go_wp2
      refine bodyPost_ret (v := .tuple #[.slice q m c, .int .i64 k]) (by simp [results, Tryz.results49, go_sem]) rfl HF.out
theorem goes_bd {x : Int} {zs q : List Int} {n : Nat} {P : Int} (hl : zs.length ≤ n) (hn : n ≤ 9) (h : ∀ t, ((gx zs t).natAbs : Int) < P) (hq : ∀ t, gx zs t = gx (mulp q (lin x)) t) (t : Nat) : ((gx q t).natAbs : Int) < 9 * P := by
  have hP : 0 < P := by have := h 0; omega
  by_cases h0 : x = 0
  · subst h0
    have h1 := hq (t + 1)
    rw [gx_mlin, if_neg (by omega), Nat.add_sub_cancel, Int.zero_mul, Int.sub_zero] at h1
    rw [← h1]
    have := h (t + 1)
    omega
  · rcases Nat.eq_zero_or_pos zs.length with hz | hz
    · have h1 : ∀ t, gx zs t = 0 := fun t => gx_past zs 0 (by omega) t (Nat.zero_le _)
      have h2 : gx q t = gx [] t := quot_one hq (fun t => by rw [mlin_nil, h1 t]; simp [gx]) t
      rw [h2]
      simp [gx]
      omega
    · obtain ⟨m, hm⟩ : ∃ m, zs.length = m + 1 := ⟨zs.length - 1, by omega⟩
      rw [(mul_goes h0 hm hq).2 t, gx_qz]
      split
      · rename_i ht
        have h1 := pv_bd (x := x) h (t + 1)
        have h2 : ((t + 1 : Nat) : Int) * P ≤ 8 * P := Int.mul_le_mul_of_nonneg_right (by omega) (by omega)
        omega
      · simp
        omega
theorem lin_tl (x : Int) : tlen (lin x) = 2 := tlen_eq _ _ (fun j hj => gx_past _ 2 (by simp [lin]) j hj) (.inr (by show (1 : Int) ≠ 0; decide))
def RwoP (x : Int) (zs : List Int) (k0 : Nat) (w : World) (r : Ending) (w' : World) : Prop :=
  ∃ (q : Option Addr) (m : Nat) (qs : List Ent) (ys : List Int) (k : Nat), r = .returned (.tuple #[.slice q m m, .int .i64 k]) ∧ PR w' 110 q m m qs ys ∧ tlen ys = m ∧ 1 ≤ m ∧ m ≤ 9 ∧ Rsd x zs ys k ∧ (∀ t, ((gx ys t).natAbs : Int) < 9 ^ (k0 + k) * pw 15) ∧ m + k = zs.length ∧ Below w.heap.size w w'
structure RwI (w wr : World) (e : Ent) (zs : List Int) (x : Int) (k0 k : Nat) (q : Option Addr) (m : Nat) (qs : List Ent) (ys : List Int) : Prop where
  p : PR wr 110 q m m qs ys
  nr : tlen ys = m
  m1 : 1 ≤ m
  mn : m + k = zs.length
  o : outs x k zs ys
  bd : ∀ t, ((gx ys t).natAbs : Int) < 9 ^ (k0 + k) * pw 15
  x : RE wr 4 x e
  bx : Bx wr w.heap.size (.bool e.s) (.slice e.p e.n e.c)
  bw : Below w.heap.size w wr
theorem nine_le {k : Nat} (h : k ≤ 9) : (9 : Int) ^ k * pw 15 ≤ pw 16 := by
  have h5 : pw 16 = 4294967296 * pw 15 := pw_succ 15
  have h1 : ∀ j : Nat, j < 10 → (9 : Int) ^ j ≤ 387420489 := by decide
  have h2 := Int.mul_le_mul_of_nonneg_right (h1 k (by omega)) (Int.le_of_lt (pw_pos 15))
  have h4 := pw_pos 15
  rw [h5]
  omega
theorem no_line {x : Int} {ys : List Int} (h : tlen ys = 1) : ¬ Dvd ys (lin x) := fun ⟨q, hq⟩ => by
  have h1 : ∀ t, gx (tr ys) t = gx (mulp q (lin x)) t := fun t => (gx_tr ys t).trans (hq t)
  have hl : (tr ys).length = 0 + 1 := by rw [length_tr, h]
  by_cases h0 : x = 0
  · subst h0
    have h2 := hq 0
    rw [gx_mlin, if_pos rfl, Int.zero_mul] at h2
    have h3 := tlen_top ys (by omega)
    rw [h] at h3
    exact h3 h2
  · have h2 := (mul_goes h0 hl h1).1.2
    have h3 := tlen_top ys (by omega)
    rw [h] at h3
    rw [gx_tr] at h2
    exact h3 h2.symm
set_option maxRecDepth 100000 in
theorem rrWithout_any {w : World} {p : Option Addr} {n k0 : Nat} {es : List Ent} {zs : List Int} {x : Int} {e : Ent} (h : PR w 110 p n n es zs) (hnr : tlen zs = n) (hn1 : 1 ≤ n) (hn9 : n + k0 ≤ 9) (hbd : ∀ t, ((gx zs t).natAbs : Int) < 9 ^ k0 * pw 15) (hx : RE w 4 x e) :
    Calls Tryz.prog 18 #[.slice p n n, .agg #[.bool e.s, .slice e.p e.n e.c]] w (RwoP x zs k0 w) := by
  have hal := bel_al (o := .cells #[.bool e.s, .slice e.p e.n e.c] 34) (Below.refl w.heap.size w)
  have H0 : Hid (RwI w (w.alloc (.cells #[.bool e.s, .slice e.p e.n e.c] 34)) e zs x k0 0 p n es zs) := ⟨h.below hal, hnr, hn1, h.zl.symm, rfl, hbd, hx.below hal, Bx.new _ _ _ rfl, hal⟩
  have hzl := h.zl
  clear h hx hbd
  go_enter Tryz.func18, Tryz.ntmps18
  go_wp2_with fail
  generalize w.alloc (.cells #[.bool e.s, .slice e.p e.n e.c] 34) = W0 at *
  clear hal
  go_loopw [0, 6, 7, 8] (fun pv kv _ _ wr => ∃ (k : Nat) (q : Option Addr) (m : Nat) (qs : List Ent) (ys : List Int), pv = .slice q m m ∧ kv = .int .i64 k ∧ Hid (RwI w wr e zs x k0 k q m qs ys)) (fun _ kv _ _ _ => n - (intOf kv).toNat)
  case atStart => exact ⟨0, p, n, es, zs, rfl, by go_num, H0.out⟩
  case round =>
    clear H0
    obtain ⟨k, q, m, qs, ys, rfl, rfl, H⟩ := hrel
    have hm := H.out.mn
    have hm1 := H.out.m1
    have hkn : k < n := by omega
    have hm9 : m ≤ 9 := by omega
    have hdg := rpDeg_any q m m wr (by omega)
    have HM : Hid (m + k = zs.length) := hm
    clear hm
    go_wp2_with fail
    go_fit hdg
    rintro r w2 ⟨rfl, hb2⟩
    have H2 : Hid (RwI w w2 e zs x k0 k q m qs ys) := ⟨H.out.p.below hb2, H.out.nr, H.out.m1, H.out.mn, H.out.o, H.out.bd, H.out.x.below hb2, H.out.bx.later hb2, bnext' H.out.bw hb2⟩
    clear hdg H hb2
    rcases Nat.lt_or_ge 1 m with hgt | hle
    rotate_left
    · obtain rfl : m = 1 := by omega
      have HF : Hid (RwoP x zs k0 w (.returned (.tuple #[.slice q (1 : Nat) (1 : Nat), .int .i64 k])) w2) := ⟨q, 1, qs, ys, k, rfl, H2.out.p, H2.out.nr, Nat.le_refl _, by decide, ⟨H2.out.o, no_line H2.out.nr⟩, H2.out.bd, H2.out.mn, H2.out.bw⟩
      clear H2
      go_wp2
      exact bodyPost_ret (v := .tuple #[.slice q (1 : Nat) (1 : Nat), .int .i64 k]) (by simp [results, Tryz.results18, go_sem]) rfl HF.out
    have i1 : (0 : Int) < (m : Int) - 1 := by omega
    obtain ⟨x0, x1, -, -⟩ := id H2.out.bx
    have hli := rLine_any H2.out.x
    go_wp2_with fail
    go_fit hli
    rintro r w3 ⟨g, fs, rfl, hL, -, hb3⟩
    have hxb : (x.natAbs : Int) < pw 2 := by
      have h1 := H2.out.x.1.bd
      rwa [show (4 : Nat) = 2 * 2 from rfl, pd_two] at h1
    have hx0 : ((gx (lin x) 0).natAbs : Int) < pw 2 := by
      show ((-x).natAbs : Int) < pw 2
      rw [Int.natAbs_neg]
      exact hxb
    have hlb : ∀ t, ((gx (lin x) t).natAbs : Int) < pw 2 := fun t => by
      rcases t with _ | _ | t
      · exact hx0
      · show ((1 : Int).natAbs : Int) < pw 2
        decide
      · rw [gx_past (lin x) 2 (by simp [lin]) _ (by omega)]
        exact pw_pos 2
    have hn9' := nine_le (k := k0 + k) (by have := HM.out; omega)
    have hyb : ∀ t, ((gx ys t).natAbs : Int) < pw 16 := fun t => by have := H2.out.bd t; omega
    have hex := rpExactL_any ((H2.out.p.below hb3).fit hyb) hL H2.out.nr (lin_tl x) (m := 1) rfl hm9 (by decide) hyb hlb
    have H3 : Hid (RwI w w3 e zs x k0 k q m qs ys) := ⟨H2.out.p.below hb3, H2.out.nr, H2.out.m1, H2.out.mn, H2.out.o, H2.out.bd, H2.out.x.below hb3, H2.out.bx.later hb3, bnext' H2.out.bw hb3⟩
    clear hli hL hb3 H2 x0 x1 hxb hx0 hlb hyb hn9'
    go_wp2_with fail
    go_fit hex
    rintro r w4 ⟨hR, hb4⟩
    clear hex
    rcases hR with ⟨q4, m4, qs4, ys4, rfl, hP4, ht4, h94, hq4⟩ | ⟨q4, m4, c4, rfl, hn4⟩
    · have HN : Hid (RwI w w4 e zs x k0 (k + 1) q4 m4 qs4 ys4) := by
        have hz4 := hP4.zl
        have hnr4 : tlen ys4 = ys4.length := by rw [ht4, hz4]
        have hlen : m4 + 1 = m := by
          have h1 : ys.length = (mulp ys4 (lin x)).length := by
            rw [nrm_extL (by rw [H3.out.nr, H3.out.p.zl]) (mlin_nrm x hnr4) hq4]
          rw [H3.out.p.zl] at h1
          rcases Nat.eq_zero_or_pos ys4.length with h0 | h0
          · rw [List.length_eq_zero_iff.1 h0, mlin_nil] at h1
            simp at h1
            omega
          · rw [mlin_len x h0] at h1
            omega
        refine ⟨⟨hP4.el, hP4.zl, hP4.cap, hP4.bnd, hP4.pl, fun j hj => (hP4.ev j hj).wide (by decide)⟩, ht4, by omega, by have := H3.out.mn; omega, outs_snoc hnr4 H3.out.o hq4, fun t => ?_, H3.out.x.below hb4, H3.out.bx.later hb4, bnext' H3.out.bw hb4⟩
        have h1 := goes_bd (by rw [H3.out.p.zl]; exact Nat.le_refl _) hm9 H3.out.bd hq4 t
        have h2 : (9 : Int) ^ (k0 + (k + 1)) * pw 15 = 9 * (9 ^ (k0 + k) * pw 15) := by
          rw [← Nat.add_assoc, Int.pow_succ]
          grind
        rw [h2]
        exact h1
      clear hP4 hq4 H3 hb4 ht4 h94
      go_wp2
      exact ⟨⟨k + 1, q4, m4, qs4, ys4, rfl, by go_num, HN.out⟩, by simp [intOf]; omega⟩
    · have HF : Hid (RwoP x zs k0 w (.returned (.tuple #[.slice q m m, .int .i64 k])) w4) := ⟨q, m, qs, ys, k, rfl, H3.out.p.below hb4, H3.out.nr, H3.out.m1, hm9, ⟨H3.out.o, hn4⟩, H3.out.bd, H3.out.mn, bnext' H3.out.bw hb4⟩
      clear H3 hb4 hn4
      go_wp2
      exact bodyPost_ret (v := .tuple #[.slice q m m, .int .i64 k]) (by simp [results, Tryz.results18, go_sem]) rfl HF.out
def chn (xs : List Int) : Nat → List Int → List Int → Prop
  | 0, zs, ys => ys = zs
  | i + 1, zs, ys => ∃ u k, chn xs i zs u ∧ Rsd (gx xs i) u ys k
theorem chn_one {xs : List Int} : ∀ {i : Nat} {zs ys us : List Int}, chn xs i zs ys → chn xs i zs us → ys = us
  | 0, zs, ys, us, h1, h2 => (show ys = zs from h1).trans (show us = zs from h2).symm
  | i + 1, zs, ys, us, ⟨u, k, a1, a2⟩, ⟨v, j, b1, b2⟩ => by
    have h := chn_one a1 b1
    subst h
    exact (res_one a2 b2).1
def mln (xs : List Int) (zs : List Int) : Nat → List Int
  | 0 => zs
  | i + 1 => mulp (mln xs zs i) (lin (gx xs i))
theorem PN.pcc {B : Nat} {w : World} {K : Nat} {p : Option Addr} {n : Nat} {es : List Ent} {zs : List Int} (h : PN B w K p n es zs) (hn : n ≤ 1000000) : PC B w K p n n es zs :=
  ⟨h, Nat.le_refl _, by unfold maxLen; omega, fun e => by
    rcases Nat.eq_zero_or_pos n with h0 | h0
    · exact h0
    · obtain ⟨b, o, hp, -⟩ := h.pl (by rw [h.el]; exact h0)
      rw [hp] at e
      cases e⟩
theorem PC.up {B : Nat} {w : World} {K K' : Nat} {p : Option Addr} {n nc : Nat} {es : List Ent} {zs : List Int} (h : PC B w K p n nc es zs) (hK : K ≤ K') : PC B w K' p n nc es zs := ⟨h.pn.wider hK, h.cap, h.bnd, h.nil⟩
def WoP (xs zs : List Int) (nx n K : Nat) (w : World) (r : Ending) (w' : World) : Prop :=
  (tlen zs = 0 → r = .returned (.tuple #[.slice none 0 0, .int .i64 2])) ∧ (tlen zs ≠ 0 → ∃ (q : Option Addr) (m c : Nat) (qs : List Ent) (ys : List Int), r = .returned (.tuple #[.slice q m c, .int .i64 0]) ∧ PC w.heap.size w' (K + nx * n) q m c qs ys ∧ m ≤ n ∧ chn xs nx (tr zs) ys) ∧ Below w.heap.size w w'
structure WoI (w wr : World) (xp : Option Addr) (nx xc : Nat) (xes : List Ent) (xs zs : List Int) (n K L i : Nat) (q : Option Addr) (m c : Nat) (qs : List Ent) (ys : List Int) : Prop where
  p : PC w.heap.size wr (K + i * n) q m c qs ys
  m1 : 1 ≤ m
  mn : m ≤ n
  o : chn xs i zs ys
  x : PA wr L xp nx xc xes xs
  bw : Below w.heap.size w wr
set_option maxRecDepth 100000 in
theorem rtWithout_any {w : World} {K L : Nat} {p : Option Addr} {n nc : Nat} {es : List Ent} {zs : List Int} {xp : Option Addr} {nx xc : Nat} {xes : List Ent} {xs : List Int} (h : PA w K p n nc es zs) (hx : PA w L xp nx xc xes xs) (hn : n ≤ 1000) (hK : K + (nx + 1) * n ≤ 70) (hL : L ≤ 70) (hnx : nx ≤ 1000) :
    Calls Tryz.prog 17 #[.slice p n nc, .slice xp nx xc] w (WoP xs zs nx n K w) := by
  have hnm := uNorm_any K p n nc es zs w h (by omega) (by omega)
  have HX : Hid (PA w L xp nx xc xes xs) := hx
  have hzl := h.zl
  have htl := tlen_le zs
  clear h hx
  go_enter Tryz.func17, Tryz.ntmps17
  go_wp2_with fail
  go_fit hnm
  rintro r w1 ⟨q, m, qs, rfl, hP, hb1⟩
  have hm : m = tlen zs := by rw [← hP.nrm, tlen_tr]
  have HP : Hid (PN w.heap.size w1 K q m qs (tr zs) ∧ PA w1 L xp nx xc xes xs ∧ Below w.heap.size w w1 ∧ m = tlen zs) := ⟨hP, HX.out.below hb1, hb1, hm⟩
  have hm1 : m ≤ n := by omega
  clear hnm hP hb1 hm htl hzl HX
  rcases Nat.eq_zero_or_pos m with h0 | h0
  · subst h0
    go_wp2_with fail
    exact bodyPost_ret (v := .tuple #[.slice none (0 : Nat) (0 : Nat), .int .i64 2]) (by simp [results, Tryz.results17, go_sem]) rfl ⟨fun _ => rfl, fun h => absurd HP.out.2.2.2.symm h, HP.out.2.2.1⟩
  have g1 : ((m : Int) == 0) = false := by rw [beq_eq_false_iff_ne]; omega
  have H0 : Hid (WoI w w1 xp nx xc xes xs (tr zs) n K L 0 q m m qs (tr zs)) := ⟨(HP.out.1.pcc (by omega)).up (by omega), h0, hm1, rfl, HP.out.2.1, HP.out.2.2.1⟩
  have HM : Hid (m = tlen zs ∧ 0 < m) := ⟨HP.out.2.2.2, h0⟩
  clear HP
  go_wp2_with fail
  go_loopw [0, 7, 15] (fun pv _ kv wr => ∃ (i : Nat) (q : Option Addr) (m c : Nat) (qs : List Ent) (ys : List Int), i ≤ nx ∧ pv = .slice q m c ∧ kv = .int .i64 i ∧ Hid (WoI w wr xp nx xc xes xs (tr zs) n K L i q m c qs ys)) (fun _ _ kv _ => nx - (intOf kv).toNat)
  case atStart => exact ⟨0, q, m, m, qs, tr zs, Nat.zero_le _, rfl, by go_num, H0.out⟩
  case round =>
    clear H0
    obtain ⟨i, q, m, c, qs, ys, hi, rfl, rfl, H⟩ := hrel
    rcases Nat.lt_or_ge i nx with hlt | hge
    · have hKi : K + i * n + n ≤ 70 ∧ K + i * n + n = K + (i + 1) * n := by
        have h1 := Nat.mul_le_mul_right n (show i + 1 ≤ nx + 1 by omega)
        rw [Nat.add_mul i 1 n] at h1
        rw [Nat.add_mul i 1 n]
        omega
      have hX := H.out.x
      obtain ⟨b, o, hp, hc⟩ := hX.pl (by rw [hX.el]; omega)
      subst hp
      obtain ⟨c0, c1⟩ := hc i (by rw [hX.el]; exact hlt)
      have hv := hX.ev i hlt
      have i1 : (i : Int) < (nx : Int) := by omega
      have hal := bel_al (o := .cells #[.bool (ge xes i).s, .slice (ge xes i).p (ge xes i).n (ge xes i).c] 26) (Below.refl wr.heap.size wr)
      have HAL : Hid (Below wr.heap.size wr (wr.alloc (.cells #[.bool (ge xes i).s, .slice (ge xes i).p (ge xes i).n (ge xes i).c] 26)) ∧ EV wr L (gx xs i) (ge xes i)) := ⟨hal, hv⟩
      have hd := rtout_any (H.out.p.below hal) (Nat.le_trans H.out.bw.size hal.size) (hv.below hal) (by have := H.out.mn; omega) H.out.m1 (by have := H.out.mn; omega) hL
      clear hc hX hv
      go_wp2_with fail
      generalize (wr.alloc (.cells #[.bool (ge xes i).s, .slice (ge xes i).p (ge xes i).n (ge xes i).c] 26)) = W1 at *
      go_fit hd
      rintro r w2 ⟨q2, m2, c2, qs2, ys2, k2, rfl, hP2, hm2, hmk2, hR2, hb2⟩
      have HN : Hid (WoI w w2 (some ⟨b, o, none⟩) nx xc xes xs (tr zs) n K L (i + 1) q2 m2 c2 qs2 ys2) := ⟨hP2.up (by have := H.out.mn; omega), hm2, by have := H.out.mn; omega, ⟨ys, k2, H.out.o, hR2⟩, H.out.x.below (bnext' HAL.out.1 hb2), bnext' (bnext' H.out.bw HAL.out.1) hb2⟩
      clear hd hP2 hR2 hb2 hm2 hmk2 H HAL hal c0 c1
      go_wp2
      exact ⟨⟨i + 1, q2, m2, c2, qs2, ys2, by omega, rfl, by go_num, HN.out⟩, by simp [intOf]; omega⟩
    · obtain rfl : i = nx := by omega
      have HF : Hid (WoP xs zs i n K w (.returned (.tuple #[.slice q m c, .int .i64 0])) wr) := ⟨fun h => by have := HM.out.1; have := HM.out.2; omega, fun _ => ⟨q, m, c, qs, ys, rfl, H.out.p, H.out.mn, H.out.o⟩, H.out.bw⟩
      clear H HM
      go_wp2
      exact bodyPost_ret (v := .tuple #[.slice q m c, .int .i64 0]) (by simp [results, Tryz.results17, go_sem]) rfl HF.out
structure WiI (w wr : World) (xp : Option Addr) (nx xc : Nat) (xes : List Ent) (xs zs : List Int) (n K L i : Nat) (q : Option Addr) (m : Nat) (qs : List Ent) : Prop where
  p : PN w.heap.size wr (K + i * (L + 1)) q m qs (mln xs zs i)
  mn : m ≤ n + i
  x : PA wr L xp nx xc xes xs
  bw : Below w.heap.size w wr
theorem mln_len (xs zs : List Int) (i : Nat) : (mulp (mln xs zs i) (lin (gx xs i))).length ≤ (mln xs zs i).length + 1 := by
  rcases Nat.eq_zero_or_pos (mln xs zs i).length with h0 | h0
  · rw [List.length_eq_zero_iff.1 h0, mlin_nil]
    simp
  · rw [mlin_len _ h0]
    exact Nat.le_refl _
set_option maxRecDepth 100000 in
theorem rtWith_any {w : World} {K L : Nat} {p : Option Addr} {n nc : Nat} {es : List Ent} {zs : List Int} {xp : Option Addr} {nx xc : Nat} {xes : List Ent} {xs : List Int} (h : PA w K p n nc es zs) (hx : PA w L xp nx xc xes xs) (hn : n + nx ≤ 1000) (hK : K + nx * (L + 1) ≤ 300) (hL : L ≤ 300) :
    Calls Tryz.prog 20 #[.slice p n nc, .slice xp nx xc] w fun r w' => ∃ q m qs, r = .returned (.slice q m m) ∧ PN w.heap.size w' (K + nx * (L + 1)) q m qs (mln xs (tr zs) nx) ∧ m ≤ n + nx ∧ Below w.heap.size w w' := by
  have hnm := uNorm_any K p n nc es zs w h (by omega) (by omega)
  have HX : Hid (PA w L xp nx xc xes xs) := hx
  have hzl := h.zl
  have htl := tlen_le zs
  clear h hx
  go_enter Tryz.func20, Tryz.ntmps20
  go_wp2_with fail
  go_fit hnm
  rintro r w1 ⟨q, m, qs, rfl, hP, hb1⟩
  have hm : m = tlen zs := by rw [← hP.nrm, tlen_tr]
  have H0 : Hid (WiI w w1 xp nx xc xes xs (tr zs) n K L 0 q m qs) := ⟨hP.wider (by omega), by omega, HX.out.below hb1, hb1⟩
  clear hnm hP hb1 hm htl hzl HX
  go_wp2_with fail
  go_loopw [0, 6, 11] (fun pv _ kv wr => ∃ (i : Nat) (q : Option Addr) (m : Nat) (qs : List Ent), i ≤ nx ∧ pv = .slice q m m ∧ kv = .int .i64 i ∧ Hid (WiI w wr xp nx xc xes xs (tr zs) n K L i q m qs)) (fun _ _ kv _ => nx - (intOf kv).toNat)
  case atStart => exact ⟨0, q, m, qs, Nat.zero_le _, rfl, by go_num, H0.out⟩
  case round =>
    clear H0
    obtain ⟨i, q, m, qs, hi, rfl, rfl, H⟩ := hrel
    rcases Nat.lt_or_ge i nx with hlt | hge
    · have hKi : K + (i + 1) * (L + 1) ≤ 300 ∧ K + i * (L + 1) + L + 1 = K + (i + 1) * (L + 1) := by
        have h1 := Nat.mul_le_mul_right (L + 1) (show i + 1 ≤ nx by omega)
        rw [Nat.add_mul i 1 (L + 1)] at h1
        rw [Nat.add_mul i 1 (L + 1)]
        omega
      have hX := H.out.x
      obtain ⟨b, o, hp, hc⟩ := hX.pl (by rw [hX.el]; omega)
      subst hp
      obtain ⟨c0, c1⟩ := hc i (by rw [hX.el]; exact hlt)
      have hv := hX.ev i hlt
      have i1 : (i : Int) < (nx : Int) := by omega
      have hal := bel_al (o := .cells #[.bool (ge xes i).s, .slice (ge xes i).p (ge xes i).n (ge xes i).c] 26) (Below.refl wr.heap.size wr)
      have HAL : Hid (Below wr.heap.size wr (wr.alloc (.cells #[.bool (ge xes i).s, .slice (ge xes i).p (ge xes i).n (ge xes i).c] 26))) := hal
      have hd := rtmul_any ((H.out.p.pcc (by have := H.out.mn; omega)).below hal) (Nat.le_trans H.out.bw.size hal.size) (hv.below hal) (by have := H.out.mn; omega) (by omega) hL
      clear hc hX hv
      go_wp2_with fail
      generalize (wr.alloc (.cells #[.bool (ge xes i).s, .slice (ge xes i).p (ge xes i).n (ge xes i).c] 26)) = W1 at *
      go_fit hd
      rintro r w2 ⟨q2, m2, qs2, rfl, hP2, hb2⟩
      have HN : Hid (WiI w w2 (some ⟨b, o, none⟩) nx xc xes xs (tr zs) n K L (i + 1) q2 m2 qs2) := by
        refine ⟨hP2.wider (by omega), ?_, H.out.x.below (bnext' HAL.out hb2), bnext' (bnext' H.out.bw HAL.out) hb2⟩
        have h1 := mln_len xs (tr zs) i
        have h2 := hP2.zl
        have h3 := H.out.p.zl
        have h4 := H.out.mn
        omega
      clear hd hP2 hb2 H HAL hal c0 c1
      go_wp2
      exact ⟨⟨i + 1, q2, m2, qs2, by omega, rfl, by go_num, HN.out⟩, by simp [intOf]; omega⟩
    · obtain rfl : i = nx := by omega
      have HF : Hid (∃ q' m' qs, Ending.returned (.slice q m m) = .returned (.slice q' m' m') ∧ PN w.heap.size wr (K + i * (L + 1)) q' m' qs (mln xs (tr zs) i) ∧ m' ≤ n + i ∧ Below w.heap.size w wr) := ⟨q, m, qs, rfl, H.out.p, H.out.mn, H.out.bw⟩
      clear H
      go_wp2
      go_ret
      exact HF.out
end Go.Proofs.YtejnhpjejcpekaaGreatDoor
