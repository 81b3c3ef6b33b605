/-
  upoly.pack.
-/
import Derived.Test.YtneejidiefkgkaaGreatDoorVbDaCxRbCyViVuPr
import Derived.Test.YtneejidiefkgkaaGreatDoorUy
import Derived.Deep.CutRange
namespace Go.Proofs.YtneejidiefkgkaaGreatDoor
open Go.RowKit
set_option linter.unusedVariables false
set_option linter.unusedSimpArgs false

set_option maxHeartbeats 4000000 in
set_option maxRecDepth 100000 in
/-- upoly.pack. -/
theorem pack_any {B : Nat} {w : World} {K : Nat} {p : Option Addr} {n : Nat} {es : List Ent} {zs : List Int} (h : PB B w K p n es zs) (W : Nat) (hW1 : 1 ≤ W) (hW : W ≤ 1000) (hn : n ≤ 1000) (hWe : ∀ j, j < n → zl (gx zs j) ≤ W) :
    Calls Tryz.prog 101 #[.slice p n n, .int .i64 W] w fun r w' => ∃ u : Ent, r = .returned (.agg #[.bool u.s, .slice u.p u.n u.c]) ∧ NV w.heap.size w' (W * n + W * n + 1) (pkf W (gx zs) n) u ∧ Below w.heap.size w w' := by
  obtain ⟨N, hN⟩ : ∃ N, N = W * n := ⟨_, rfl⟩
  have hNle : N ≤ 1000000 := by rw [hN]; exact Nat.mul_le_mul hW hn
  have e1 : (W : Int) * (n : Int) = (N : Int) := by rw [hN]; push_cast; rfl
  have HN : Hid (N = W * n) := hN
  rw [← hN]
  clear hN
  have hmk := mk_u32 N (by omega)
  have HX : Hid (PB B w K p n es zs ∧ ∀ j, j < n → zl (gx zs j) ≤ W) := ⟨h, hWe⟩
  clear h hWe
  go_enter Tryz.func101, Tryz.ntmps101
  go_wp2_with fail
  have hP0 : PK w (((w.alloc (.cells #[.bool false, .slice none 0 0] 47)).alloc (.cells (ca .u32 (zeros N)) 78)).alloc (.cells (ca .u32 (zeros N)) 78)) (w.heap.size + 1) (w.heap.size + 1 + 1) W n 0 zs (zeros N) (zeros N) := by
    refine ⟨?_, ?_, by rw [length_zeros]; exact HN.out, by rw [length_zeros]; exact HN.out, u32_zeros _, u32_zeros _, fun j _ => gx_zeros _ _, fun j _ => gx_zeros _ _, by rw [pkf]; omega, by omega, by omega, by omega, ((Bx.new _ _ _ rfl).alloc _).alloc _, bel_al (bel_al (bel_al (Below.refl _ _)))⟩
    · exact (Row.new1 w _ 78 .u32 (zeros N)).alloc _
    · exact Row.new2 w _ _ 78 .u32 (zeros N)
  have HP0 := (show Hid _ from hP0)
  generalize ((w.alloc (.cells #[.bool false, .slice none 0 0] 47)).alloc (.cells (ca .u32 (zeros N)) 78)).alloc (.cells (ca .u32 (zeros N)) 78) = W0 at *
  obtain ⟨ga, hga⟩ : ∃ ga, ga = w.heap.size + 1 := ⟨_, rfl⟩
  obtain ⟨gb, hgb⟩ : ∃ gb, gb = w.heap.size + 1 + 1 := ⟨_, rfl⟩
  rw [← hgb, ← hga] at HP0 ⊢
  clear hP0 hmk hga hgb
  go_loopw [7, 8, 9, 22] (fun _ _ _ kv wr => ∃ (k : Nat) (A Bl : List Int), k ≤ n ∧ kv = .int .i64 k ∧ Hid (PK w wr ga gb W n k zs A Bl)) (fun _ _ _ kv _ => n - (intOf kv).toNat)
  case atStart => exact ⟨0, zeros N, zeros N, Nat.zero_le _, by go_num, HP0.out⟩
  case round =>
    clear HP0
    obtain ⟨k, A, Bl, hk, rfl, H⟩ := hrel
    rcases Nat.lt_or_ge k n with hlt | hge
    · have hV := H.out
      have hPB := HX.out.1.below hV.bw
      obtain ⟨b, o, hp, hc⟩ := hPB.pl (by rw [hPB.el]; omega)
      subst hp
      obtain ⟨c0, c1⟩ := hc k (by rw [hPB.el]; omega)
      have hen := hPB.ev k hlt
      obtain ⟨z1, z2⟩ := hen.zl
      have hzw : (ge es k).n ≤ W := by rw [z1]; exact HX.out.2 k hlt
      obtain ⟨xs, r1, r2, r3, r4⟩ := en_parts hen
      obtain ⟨off, hoff⟩ : ∃ off, off = W * k := ⟨_, rfl⟩
      have hof1 : off + W ≤ N := by
        rw [hoff, HN.out]
        have : W * (k + 1) ≤ W * n := Nat.mul_le_mul_left _ hlt
        rw [Nat.mul_add, Nat.mul_one] at this
        exact this
      have e2 : (k : Int) * (W : Int) = (off : Int) := by rw [hoff, Int.mul_comm]; push_cast; rfl
      have HOF : Hid (off = W * k) := hoff
      have e3 : (off : Int) ≤ (N : Int) := by omega
      have e4 : IntKind.i64.wrap (off : Int) = (off : Int) := by rw [IntKind.wrap_i64]; omega
      have hlb : b < w.heap.size := by
        obtain ⟨b', o', hb', hl'⟩ := HX.out.1.pl.lt (by rw [HX.out.1.el]; omega)
        cases hb'
        exact hl'
      clear hc hPB hen z1 z2 hV hoff
      rcases r4 with ⟨hs, hv⟩ | ⟨hs, hv⟩
      · rw [hs] at c0
        clear hs
        have HV : Hid (val xs = gx zs k ∧ Rd wr (ge es k).p .u32 xs ∧ xs.length = (ge es k).n ∧ U32 xs) := ⟨hv, r1, r2, r3⟩
        clear hv r1 r2 r3
        go_upto_region 9 with fail
        have hal := bel_al (o := .cells #[.bool false, .slice (ge es k).p (ge es k).n (ge es k).c] 47) (Below.refl wr.heap.size wr)
        have hX1 : Bx (wr.alloc (.cells #[.bool false, .slice (ge es k).p (ge es k).n (ge es k).c] 47)) wr.heap.size (.bool false) (.slice (ge es k).p (ge es k).n (ge es k).c) := Bx.new _ _ _ rfl
        generalize wr.alloc (.cells #[.bool false, .slice (ge es k).p (ge es k).n (ge es k).c] 47) = W1 at *
        obtain ⟨q0, q1, -, -⟩ := hX1
        have hrow : Row W1.drew ga 78 .u32 A := (H.out.ra.below hal H.out.ra.lt).drew
        have hrd : Rd W1.drew (ge es k).p .u32 xs := (HV.out.2.1.below hal).drew
        have hlx := HV.out.2.2.1
        have hfit : off + (ge es k).n ≤ A.length := by rw [H.out.la, ← HN.out]; omega
        have hm : (ge es k).n ≤ N - off := by omega
        have HB1 : Hid (Below wr.heap.size wr W1.drew) := hal.drew
        have hne : ¬ N = off := by omega
        have hnei : ¬ (N : Int) = (off : Int) := by omega
        clear c0 c1 hal
        go_region_law (refine step_copy_g rfl (.tmp 35) (.tmp 37) rfl ga off (N - off) (N - off) (ge es k).p (ge es k).n (ge es k).c (by simp [Act.eval, Act.put]) (by simp [Act.eval, Act.put]) A xs hrow hrd hlx hm hfit ?_; intro w5 hr5 hg5)
        all_goals
          have hnx : ∃ A' B', PK w w5 ga gb W n (k + 1) zs A' B' := ⟨_, _, H.out.above HB1.out HV.out.2.2.2 HV.out.1 (by rw [hlx]; exact hzw) hlt (by rw [← HOF.out]; exact hr5) hg5⟩
          have HNX := (show Hid _ from hnx)
          clear hnx hr5 hg5 hrow hrd q0 q1
          go_wp2
          obtain ⟨A', B', hnx⟩ := HNX.out
          exact ⟨⟨k + 1, A', B', by omega, by go_num, hnx⟩, by simp [intOf]; omega⟩
      · rw [hs] at c0
        clear hs
        have HV : Hid (val xs = -gx zs k ∧ Rd wr (ge es k).p .u32 xs ∧ xs.length = (ge es k).n ∧ U32 xs) := ⟨hv, r1, r2, r3⟩
        clear hv r1 r2 r3
        go_upto_region 9 with fail
        have hal := bel_al (o := .cells #[.bool true, .slice (ge es k).p (ge es k).n (ge es k).c] 47) (Below.refl wr.heap.size wr)
        have hX1 : Bx (wr.alloc (.cells #[.bool true, .slice (ge es k).p (ge es k).n (ge es k).c] 47)) wr.heap.size (.bool true) (.slice (ge es k).p (ge es k).n (ge es k).c) := Bx.new _ _ _ rfl
        generalize wr.alloc (.cells #[.bool true, .slice (ge es k).p (ge es k).n (ge es k).c] 47) = W1 at *
        obtain ⟨q0, q1, -, -⟩ := hX1
        have hrow : Row W1.drew gb 78 .u32 Bl := (H.out.rb.below hal H.out.rb.lt).drew
        have hrd : Rd W1.drew (ge es k).p .u32 xs := (HV.out.2.1.below hal).drew
        have hlx := HV.out.2.2.1
        have hfit : off + (ge es k).n ≤ Bl.length := by rw [H.out.lb, ← HN.out]; omega
        have hm : (ge es k).n ≤ N - off := by omega
        have HB1 : Hid (Below wr.heap.size wr W1.drew) := hal.drew
        have hne : ¬ N = off := by omega
        have hnei : ¬ (N : Int) = (off : Int) := by omega
        clear c0 c1 hal
        go_region_law (refine step_copy_g rfl (.tmp 35) (.tmp 37) rfl gb off (N - off) (N - off) (ge es k).p (ge es k).n (ge es k).c (by simp [Act.eval, Act.put]) (by simp [Act.eval, Act.put]) Bl xs hrow hrd hlx hm hfit ?_; intro w5 hr5 hg5)
        all_goals
          have hnx : ∃ A' B', PK w w5 ga gb W n (k + 1) zs A' B' := ⟨_, _, H.out.under HB1.out HV.out.2.2.2 HV.out.1 (by rw [hlx]; exact hzw) hlt (by rw [← HOF.out]; exact hr5) hg5⟩
          have HNX := (show Hid _ from hnx)
          clear hnx hr5 hg5 hrow hrd q0 q1
          go_wp2
          obtain ⟨A', B', hnx⟩ := HNX.out
          exact ⟨⟨k + 1, A', B', by omega, by go_num, hnx⟩, by simp [intOf]; omega⟩
    · obtain rfl : k = n := by omega
      have hV := H.out
      have hai : AI wr (some ⟨ga, 0, none⟩) N N A := ⟨by rw [hV.la, HN.out], Nat.le_refl _, by unfold maxLen; omega, by omega, hV.ra.rd_all, hV.ua⟩
      have hbi : AI wr (some ⟨gb, 0, none⟩) N N Bl := ⟨by rw [hV.lb, HN.out], Nat.le_refl _, by unfold maxLen; omega, by omega, hV.rb.rd_all, hV.ub⟩
      have hsb := Sub_ev (e := ⟨false, some ⟨ga, 0, none⟩, N, N⟩) (f := ⟨false, some ⟨gb, 0, none⟩, N, N⟩) (K := N) (L := N) ⟨A, hai, rfl, Nat.le_refl _⟩ ⟨Bl, hbi, rfl, Nat.le_refl _⟩
      have ev : ival false A - ival false Bl = pkf W (gx zs) k := by simp only [ival]; exact hV.v
      rw [ev] at hsb
      have hrx := hV.rx
      have HB : Hid (Below w.heap.size w wr) := hV.bw
      have sR : w.heap.size < wr.heap.size := block_lt_of_cell hrx.c0
      clear H hV hai hbi ev hge
      go_wp2_with fail
      refine hsb.mono ?_
      rintro r w5 ⟨u, rfl, hN5, hb5⟩
      obtain ⟨r0, r1, f0, f1⟩ := hrx.later hb5
      have HN5 : Hid (NV wr.heap.size w5 (N + N + 1) (pkf W (gx zs) k) u) := hN5
      clear hsb hN5 hrx
      go_wp2
      refine bodyPost_ret (v := .agg #[.bool u.s, .slice u.p u.n u.c]) (by simp [results, Tryz.results101, go_sem, r0, r1]) rfl ⟨u, rfl, ?_, ?_⟩
      · exact (HN5.out.set2 (g := w.heap.size) (o := 0) sR _ _).mono (Nat.le_of_lt sR)
      · exact bset2 (bnext' HB.out hb5) (Nat.le_refl _) _ _
end Go.Proofs.YtneejidiefkgkaaGreatDoor
/-
  upoly.unpack.
-/
namespace Go.Proofs.YtneejidiefkgkaaGreatDoor
open Go.RowKit
set_option linter.unusedVariables false
set_option linter.unusedSimpArgs false

theorem pkf_neg (W : Nat) (d : Nat → Int) : ∀ k, pkf W (fun j => -d j) k = -pkf W d k
  | 0 => rfl
  | k + 1 => by rw [pkf, pkf, pkf_neg W d k, Int.neg_mul]; omega
/-- The entries with a's sign taken off. -/
def sgd (s : Bool) (d : Nat → Int) (j : Nat) : Int := if s then -d j else d j
theorem sgd_abs (s : Bool) (d : Nat → Int) (j : Nat) : (sgd s d j).natAbs = (d j).natAbs := by cases s <;> simp [sgd]
theorem pkf_sgd (W : Nat) (s : Bool) (d : Nat → Int) (k : Nat) : pkf W (sgd s d) k = if s then -pkf W d k else pkf W d k := by
  cases s
  · rfl
  · exact pkf_neg W d k
/-- A number whose memory is neither g7 nor g10. -/
def Sf (g7 g10 : Nat) (e : Ent) : Prop := 0 < e.n → Off g7 e.p ∧ Off g10 e.p
/-- unpack behind i entries. -/
structure UN (w wr : World) (g3 g7 g8 g9 g10 W n i M : Nat) (u one base cr : Ent) (xs : List Int) (d : Nat → Int) (us : List Ent) (c : Int) : Prop where
  b3 : Bx wr g3 (.bool u.s) (.slice u.p u.n u.c)
  a3 : AI wr u.p u.n u.c xs
  r7 : Row2 wr g7 47 us
  l7 : us.length = n
  b8 : Bx wr g8 (.bool one.s) (.slice one.p one.n one.c)
  v8 : EV wr 2 1 one
  b9 : Bx wr g9 (.bool base.s) (.slice base.p base.n base.c)
  v9 : EV wr (W + 1) (pw W) base
  b10 : Bx wr g10 (.bool cr.s) (.slice cr.p cr.n cr.c)
  v10 : EV wr 2 c cr
  c01 : c = 0 ∨ c = 1
  s3 : Sf g7 g10 u
  s8 : Sf g7 g10 one
  s9 : Sf g7 g10 base
  s10 : Sf g7 g10 cr
  q : ∀ j, j < i → NV w.heap.size wr M (d j) (ge us j) ∧ Sf g7 g10 (ge us j)
  gs : w.heap.size ≤ g3 ∧ w.heap.size ≤ g7 ∧ g7 < wr.heap.size ∧ g10 < wr.heap.size ∧ w.heap.size ≤ g10 ∧ g3 ≠ g7 ∧ g3 ≠ g10 ∧ g7 ≠ g10 ∧ g8 ≠ g7 ∧ g8 ≠ g10 ∧ g9 ≠ g7 ∧ g9 ≠ g10
  bw : Below w.heap.size w wr
theorem bset2o {B g o : Nat} {a b : World} (h : Below B a b) (hg : B ≤ g) (u v : Value) : Below B a ((b.setCell ⟨g, o, none⟩ u).setCell ⟨g, o + 1, none⟩ v) := (h.setCell (p := ⟨g, o, none⟩) hg u).setCell (p := ⟨g, o + 1, none⟩) hg v
theorem Sf.off {g7 g10 : Nat} {e : Ent} (h : Sf g7 g10 e) : 0 < e.n → Off g10 e.p := fun h0 => (h h0).2
theorem Sf.fresh {g7 g10 B : Nat} {e : Ent} (h : Go.Proofs.YtneejidiefkgkaaGreatDoor.From B e.p) (h7 : g7 < B) (h10 : g10 < B) : Sf g7 g10 e := fun _ => ⟨off_from h h7, off_from h h10⟩
section
variable {w wr w' : World} {g3 g7 g8 g9 g10 W n i M : Nat} {u one base cr : Ent} {xs : List Int} {d : Nat → Int} {us : List Ent} {c : Int}
theorem UN.below (h : UN w wr g3 g7 g8 g9 g10 W n i M u one base cr xs d us c) (hb : Below wr.heap.size wr w') : UN w w' g3 g7 g8 g9 g10 W n i M u one base cr xs d us c :=
  ⟨h.b3.later hb, h.a3.below hb, h.r7.below hb h.r7.lt, h.l7, h.b8.later hb, h.v8.below hb, h.b9.later hb, h.v9.below hb, h.b10.later hb, h.v10.below hb, h.c01, h.s3, h.s8, h.s9, h.s10, fun j hj => ⟨(h.q j hj).1.below hb, (h.q j hj).2⟩, by have := h.gs; have := hb.size; omega, bnext' h.bw hb⟩
/-- The carry's variable is written. -/
theorem UN.carry (h : UN w wr g3 g7 g8 g9 g10 W n i M u one base cr xs d us c) {cr' : Ent} {c' : Int} (hv : EV wr 2 c' cr') (hs : Sf g7 g10 cr') (hc : c' = 0 ∨ c' = 1) :
    UN w ((wr.setCell ⟨g10, 0, none⟩ (.bool cr'.s)).setCell ⟨g10, 1, none⟩ (.slice cr'.p cr'.n cr'.c)) g3 g7 g8 g9 g10 W n i M u one base cr' xs d us c' := by
  have g := h.gs
  refine ⟨Bx_oth h.b3 (by omega), ?_, (h.r7.set_other _ _ (by simp; omega)).set_other _ _ (by simp; omega), h.l7, Bx_oth h.b8 (by omega), h.v8.set2 (o := 0) h.s8.off, Bx_oth h.b9 (by omega), h.v9.set2 (o := 0) h.s9.off, Bx_set h.b10, hv.set2 (o := 0) hs.off, hc, h.s3, h.s8, h.s9, hs, fun j hj => ⟨(h.q j hj).1.set2o (o := 0) (h.q j hj).2.off, (h.q j hj).2⟩, by simp; omega, bset2 h.bw (by omega) _ _⟩
  exact ⟨h.a3.len, h.a3.cap, h.a3.bnd, h.a3.sml, fun hx => by
    have ho := h.s3.off (by rw [h.a3.len] at hx; exact hx)
    exact ((h.a3.rd.set_other ⟨g10, 0, none⟩ _ ho).set_other ⟨g10, 1, none⟩ _ ho) hx, h.a3.u⟩
/-- An entry is written. -/
theorem UN.entry (h : UN w wr g3 g7 g8 g9 g10 W n i M u one base cr xs d us c) {e : Ent} (hi : i < n) (hv : NV w.heap.size wr M (d i) e) (hs : Sf g7 g10 e) :
    UN w ((wr.setCell ⟨g7, i * 2, none⟩ (.bool e.s)).setCell ⟨g7, i * 2 + 1, none⟩ (.slice e.p e.n e.c)) g3 g7 g8 g9 g10 W n (i + 1) M u one base cr xs d (us.set i e) c := by
  have g := h.gs
  refine ⟨Bx_any h.b3 (by omega), ?_, h.r7.set i e (by rw [h.l7]; exact hi), by rw [List.length_set]; exact h.l7, Bx_any h.b8 (by omega), h.v8.set2 fun h0 => (h.s8 h0).1, Bx_any h.b9 (by omega), h.v9.set2 fun h0 => (h.s9 h0).1, Bx_any h.b10 (by omega), h.v10.set2 fun h0 => (h.s10 h0).1, h.c01, h.s3, h.s8, h.s9, h.s10, fun j hj => ?_, by simp; omega, bset2o h.bw (by omega) _ _⟩
  · exact ⟨h.a3.len, h.a3.cap, h.a3.bnd, h.a3.sml, fun hx => by
      have ho := (h.s3 (by rw [h.a3.len] at hx; exact hx)).1
      exact ((h.a3.rd.set_other ⟨g7, i * 2, none⟩ _ ho).set_other ⟨g7, i * 2 + 1, none⟩ _ ho) hx, h.a3.u⟩
  · rcases Nat.lt_or_ge j i with hlt | hge
    · rw [ge_set_other _ _ _ _ (by omega)]
      exact ⟨(h.q j hlt).1.set2o fun h0 => ((h.q j hlt).2 h0).1, (h.q j hlt).2⟩
    · obtain rfl : j = i := by omega
      rw [ge_set_same _ _ _ (by rw [h.l7]; exact hi)]
      exact ⟨hv.set2o fun h0 => (hs h0).1, hs⟩
end
theorem ai_cut {w : World} {b o n : Nat} {xs : List Int} (h : AI w (some ⟨b, o, none⟩) n n xs) (f t : Nat) (hf : f ≤ t) (ht : t ≤ n) : AI w (some ⟨b, o + f, none⟩) (t - f) (n - f) ((xs.drop f).take (t - f)) := by
  refine ⟨by have := h.len; simp; omega, by omega, by have := h.bnd; omega, by have := h.sml; omega, fun hx => ?_, u32_take (u32_drop h.u f) _⟩
  have hl := h.len
  obtain ⟨b', o', hb, hc⟩ := h.rd (by simp at hx; omega)
  cases hb
  refine ⟨b, o + f, rfl, fun j hj => ?_⟩
  have hj' : j < t - f := by simp at hj; omega
  rw [gx_take _ _ _ hj', gx_drop, Nat.add_assoc]
  exact hc (f + j) (by omega)
theorem dig_list (xs : List Int) (k W f t : Nat) (hf : f = min k xs.length) (ht : t = min (f + W) xs.length) : (xs.drop f).take (t - f) = (xs.drop k).take W := by
  rcases Nat.lt_or_ge xs.length k with h | h
  · have : f = xs.length := by omega
    rw [this, List.drop_length, List.drop_eq_nil_of_le (Nat.le_of_lt h)]
    simp
  · have : f = k := by omega
    subst this
    rcases Nat.lt_or_ge xs.length (f + W) with h2 | h2
    · rw [List.take_of_length_le (by simp; omega), List.take_of_length_le (by simp; omega)]
    · have : t - f = W := by omega
      rw [this]
/-- The digit in its variable. -/
structure DG (wr wc : World) (g13 W : Nat) (v : Int) (e : Ent) : Prop where
  b : Bx wc g13 (.bool e.s) (.slice e.p e.n e.c)
  v : EV wc W v e
  bw : Below wr.heap.size wr wc
/-- No number lies in g. -/
structure OA (g i : Nat) (u one base cr : Ent) (us : List Ent) : Prop where
  u : 0 < u.n → Off g u.p
  one : 0 < one.n → Off g one.p
  base : 0 < base.n → Off g base.p
  cr : 0 < cr.n → Off g cr.p
  q : ∀ j, j < i → 0 < (ge us j).n → Off g (ge us j).p
theorem ev_off {w : World} {K g : Nat} {z : Int} {e : Ent} (h : EV w K z e) (hg : w.heap.size ≤ g) : 0 < e.n → Off g e.p := fun h0 => by
  obtain ⟨xs, h1, -⟩ := h
  exact h1.rd.off hg (by rw [h1.len]; exact h0)
theorem UN.offs {w wc : World} {g g3 g7 g8 g9 g10 W n i M : Nat} {u one base cr : Ent} {xs : List Int} {d : Nat → Int} {us : List Ent} {c : Int} (h : UN w wc g3 g7 g8 g9 g10 W n i M u one base cr xs d us c) (hg : wc.heap.size ≤ g) (hM : M ≤ 1000) : OA g i u one base cr us :=
  ⟨fun h0 => h.a3.rd.off hg (by rw [h.a3.len]; exact h0), ev_off h.v8 hg, ev_off h.v9 hg, ev_off h.v10 hg, fun j hj => ev_off ((h.q j hj).1.ev hM) hg⟩
/-- A variable of its own is written. -/
theorem UN.box {w wx : World} {g g3 g7 g8 g9 g10 W n i M : Nat} {u one base cr : Ent} {xs : List Int} {d : Nat → Int} {us : List Ent} {c : Int} (h : UN w wx g3 g7 g8 g9 g10 W n i M u one base cr xs d us c) (ho : OA g i u one base cr us) (hne : g ≠ g3 ∧ g ≠ g7 ∧ g ≠ g8 ∧ g ≠ g9 ∧ g ≠ g10 ∧ w.heap.size ≤ g) (x y : Value) :
    UN w ((wx.setCell ⟨g, 0, none⟩ x).setCell ⟨g, 1, none⟩ y) g3 g7 g8 g9 g10 W n i M u one base cr xs d us c := by
  obtain ⟨n3, n7, n8, n9, n10, nw⟩ := hne
  have hgs := h.gs
  refine ⟨Bx_oth h.b3 (Ne.symm n3), ?_, (h.r7.set_other _ _ (by simp; omega)).set_other _ _ (by simp; omega), h.l7, Bx_oth h.b8 (Ne.symm n8), h.v8.set2 (o := 0) ho.one, Bx_oth h.b9 (Ne.symm n9), h.v9.set2 (o := 0) ho.base, Bx_oth h.b10 (Ne.symm n10), h.v10.set2 (o := 0) ho.cr, h.c01, h.s3, h.s8, h.s9, h.s10, fun j hj => ⟨(h.q j hj).1.set2o (o := 0) (ho.q j hj), (h.q j hj).2⟩, by simp; omega, bset2 h.bw nw _ _⟩
  exact ⟨h.a3.len, h.a3.cap, h.a3.bnd, h.a3.sml, fun hx => by
    have ho' := ho.u (by rw [h.a3.len] at hx; exact hx)
    exact ((h.a3.rd.set_other ⟨g, 0, none⟩ _ ho').set_other ⟨g, 1, none⟩ _ ho') hx, h.a3.u⟩
/-- The entry with its sign taken off, in its variable. -/
structure CE (w wx : World) (g14 : Nat) (g3 g7 g8 g9 g10 W n i : Nat) (u one base cr : Ent) (xs : List Int) (d : Nat → Int) (us : List Ent) (c v : Int) (ce : Ent) : Prop where
  un : UN w wx g3 g7 g8 g9 g10 W n i W u one base cr xs d us c
  b : Bx wx g14 (.bool ce.s) (.slice ce.p ce.n ce.c)
  v : NV w.heap.size wx W v ce
  s : Sf g7 g10 ce
  o : 0 < ce.n → Off g14 ce.p
  ne : g14 ≠ g3 ∧ g14 ≠ g7 ∧ g14 ≠ g8 ∧ g14 ≠ g9 ∧ g14 ≠ g10 ∧ w.heap.size ≤ g14
  oa : OA g14 i u one base cr us
theorem CE.below {w wx w' : World} {g14 g3 g7 g8 g9 g10 W n i : Nat} {u one base cr ce : Ent} {xs : List Int} {d : Nat → Int} {us : List Ent} {c v : Int} (h : CE w wx g14 g3 g7 g8 g9 g10 W n i u one base cr xs d us c v ce) (hb : Below wx.heap.size wx w') : CE w w' g14 g3 g7 g8 g9 g10 W n i u one base cr xs d us c v ce :=
  ⟨h.un.below hb, h.b.later hb, h.v.below hb, h.s, h.o, h.ne, h.oa⟩
end Go.Proofs.YtneejidiefkgkaaGreatDoor
