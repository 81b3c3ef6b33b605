/- Own. -/
import Derived.Test.YtdjjlghlcffflaaGreatDoorG4
set_option linter.unusedVariables false
set_option linter.unusedSimpArgs false
set_option maxHeartbeats 8000000
set_option maxRecDepth 100000
namespace Go.Proofs.YtdjjlghlcffflaaGreatDoor.Ev
open Go.RowKit
section
variable {P:Program} {ops:Array Oper} {rec:Task->St->Option (Ans×St)} {mk:List Nat} {S:Nat->St} {R:Nat->Fr}
def fE(S:Nat->St)(i m:Nat):Prop:=m∈(S (i+1)).wr\/((S i).next<=m/\m<(S (i+1)).next)
instance (S:Nat->St) (i m:Nat):Decidable (fE S i m):=by unfold fE;infer_instance
noncomputable def Hd(S:Nat->St)(lst:Nat->Bool):Nat->Nat->Option Blk
 |0,m=>(S 0).heap.get m
 |i+1,m=>if lst i=true/\fE S i m then (S (i+1)).heap.get m else Hd S lst i m
noncomputable def Td(R:Nat->Fr)(ops:Array Oper)(lst:Nat->Bool):Nat->Nat->LV
 |0,t=>(R 0).get t
 |i+1,t=>if lst i=true/\(ops[i]?).bind (·.dst)=some t then (R (i+1)).get t else Td R ops lst i t
structure Stp(P:Program)(ops:Array Oper)(S:Nat->St)(R:Nat->Fr):Prop where
 wf:∀i,i<=ops.size->WF (S i)
 mono:∀i,i<ops.size->aA (S i).base (S (i+1))
 nt:∀i,i<=ops.size->(R i).nt=(R 0).nt
 mks:∀i,i<=ops.size->(R i).marks=(R 0).marks/\(R i).rnd=(R 0).rnd
theorem o8{s:St}(h:WF s):WF s.base:=⟨h.none,h.lt,Nat.le_refl _⟩
theorem IW(hg:Good P rec)(hng:dZ P)(T:Trc P rec ops mk S R)(hw:WF (S 0)):Stp P ops S R:=by
 have key:∀i,i<=ops.size->WF (S i)/\(R i).nt=(R 0).nt/\(R i).marks=(R 0).marks/\(R i).rnd=(R 0).rnd:=by
  intro i;induction i with
  |zero=>exact fun _=>⟨hw,rfl,rfl,rfl⟩
  |succ i ih=>
   intro hi;obtain⟨h1,h2,h3,h4⟩:=ih (by omega)
   obtain⟨hm,hn,_⟩:=kD hg hng (o8 h1) (T.step i ops[i] (Array.getElem?_eq_getElem (by omega)))
   exact⟨hm.wf (o8 h1),hn.1.trans h2,hn.2.1.trans h3,hn.2.2.trans h4⟩
 exact⟨fun i hi=>(key i hi).1,fun i hi=>(kD hg hng (o8 (key i (by omega)).1) (T.step i ops[i] (Array.getElem?_eq_getElem hi))).1,fun i hi=>(key i hi).2.1,fun i hi=>(key i hi).2.2⟩
theorem Stp.next(A:Stp P ops S R):∀{i j},i<=j->j<=ops.size->(S i).next<=(S j).next:=by
 intro i j hij;induction j with
 |zero=>
      intro _;have:i=0:=by omega
      subst this;exact Nat.le_refl _
 |succ j ih=>
  intro hj;rcases Nat.lt_or_ge i (j+1) with h|h
  ·exact Nat.le_trans (ih (by omega) (by omega)) (A.mono j (by omega)).next
  ·have:i=j+1:=by omega
   subst this;exact Nat.le_refl _
theorem Stp.Fy(A:Stp P ops S R):∀i,i<ops.size->∀m∈(S (i+1)).fp,m<(S i).next:=fun i hi m hm=>by
 have h:=(A.mono i hi).low (fun _ h=>by cases h) m hm
 rw[(A.mono i hi).thr] at h
 exact h
theorem Stp.FL(A:Stp P ops S R):∀i,i<ops.size->∀m∈(S (i+1)).wr,m∈(S (i+1)).fp:=fun i hi m hm=>(A.mono i hi).A_ (fun _ h=>by cases h) m hm
theorem Stp.same(A:Stp P ops S R){i m:Nat}(hi:i<ops.size)(h:¬fE S i m):(S (i+1)).heap.get m=(S i).heap.get m:=by
 have hm:=A.mono i hi;rcases Nat.lt_or_ge m (S i).next with h1|h1
 ·exact hm.same m h1 h1 (fun h2=>h (.inl h2))
 ·rw[(A.wf i (by omega)).none m h1]
  rcases Nat.lt_or_ge m (S (i+1)).next with h2|h2
  ·exact absurd (.inr ⟨h1,h2⟩) h
  ·exact(A.wf (i+1) (by omega)).none m h2
theorem Stp.all(A:Stp P ops S R){lst:Nat->Bool}:∀{i},i<=ops.size->(∀j,j<i->lst j=true)->∀m,Hd S lst i m=(S i).heap.get m:=by
 intro i;induction i with
 |zero=>intro _ _ m;rfl
 |succ i ih=>
  intro hi hl m;simp only[Hd];by_cases h:fE S i m
  ·rw[if_pos ⟨hl i (by omega),h⟩]
  ·rw[if_neg (fun e=>h e.2),ih (by omega) (fun j hj=>hl j (by omega)) m,A.same (by omega) h]
theorem Stp.dead(A:Stp P ops S R){m:Nat}(hm:m<(S 0).next)(h:(S 0).heap.get m=none):∀{i},i<=ops.size->(S i).heap.get m=none:=by
 intro i;induction i with
 |zero=>exact fun _=>h
 |succ i ih=>exact fun hi=>(A.mono i (by omega)).dead m (Nat.lt_of_lt_of_le hm (A.next (Nat.zero_le i) (by omega))) (ih (by omega))
theorem yN(A:Stp P ops S R){lst:Nat->Bool}{m:Nat}(hm:m<(S 0).next)(h:(S 0).heap.get m=none):∀{i},i<=ops.size->Hd S lst i m=none:=by
 intro i;induction i with
 |zero=>exact fun _=>h
 |succ i ih=>
  intro hi;simp only[Hd];split
  ·exact A.dead hm h hi
  ·exact ih (by omega)
theorem uM{xs ys:List Nat}{m:Nat}(h1:m∈xs)(h2:m∈ys):meets xs ys=true:=by
 unfold meets;exact List.any_eq_true.2 ⟨m,h1,by simpa using h2⟩
theorem ordered(T:Trc P rec ops mk S R){j k m:Nat}(hk:k<j)(hj:j<ops.size)(h:(m∈(S (k+1)).wr/\m∈(S (j+1)).fp)\/(m∈(S (j+1)).wr/\m∈(S (k+1)).fp)\/((S k).next<=m/\m<(S (k+1)).next/\m∈(S (j+1)).fp)):(mk[j]?.getD 0).testBit k=true:=by
 rcases T.free j hj k hk with h1|h1
 ·exact h1
 ·exfalso
  unfold py dc at h1
  simp only[Bool.and_eq_true,Bool.not_eq_true'] at h1
  rcases h with ⟨h2,h3⟩|⟨h2,h3⟩|⟨h2,h3,h4⟩
  ·rw[uM h2 h3] at h1;simp at h1
  ·rw[uM h2 h3] at h1;simp at h1
  ·have h5:=List.all_eq_true.1 h1.2 m h4
   simp only[Bool.or_eq_true] at h5
   rcases h5 with h5|h5
   ·have:m<(S k).next:=Nat.le_of_ble_eq_true h5
    omega
   ·have:=Nat.le_of_ble_eq_true h5
    omega
theorem AA(T:Trc P rec ops mk S R)(A:Stp P ops S R)(hfp:∀i,i<ops.size->∀m∈(S (i+1)).fp,m<(S i).next){lst:Nat->Bool}(hd:Down ops lst){i m:Nat}{o:Oper}(ho:ops[i]?=some o)(hi:lst i=false)
  (hr:∀e∈o.after,Region.binds .any e=true->lst e.on=true) (hm:m∈(S (i+1)).fp):Hd S lst ops.size m=(S i).heap.get m:=by
 have his:i<ops.size:=(Array.getElem?_eq_some_iff.1 ho).1;have low:∀k,k<=i->Hd S lst k m=(S k).heap.get m:=by
  intro k;induction k with
  |zero=>exact fun _=>rfl
  |succ k ih=>
   intro hk;simp only[Hd];by_cases ht:fE S k m
   ·have:lst k=true:=by
     refine gN T hd i o ho hr k (ordered T (m:=m) (by omega) his ?_)
     rcases ht with h1|h1
     ·exact .inl ⟨h1,hm⟩
     ·exact .inr (.inr ⟨h1.1,h1.2,hm⟩)
    rw[if_pos ⟨this,ht⟩]
   ·rw[if_neg (fun e=>ht e.2),ih (by omega),A.same (by omega) ht]
 have high:∀k,i<=k->k<=ops.size->Hd S lst k m=(S i).heap.get m:=by
  intro k;induction k with
  |zero=>
       intro h _;have:i=0:=by omega
       subst this;exact low 0 (Nat.le_refl _)
  |succ k ih=>
   intro h1 h2;rcases Nat.lt_or_ge k i with h3|h3
   ·have:i=k+1:=by omega
    subst this;exact low _ (Nat.le_refl _)
   ·simp only[Hd]
    rw[if_neg,ih h3 (by omega)]
    rintro⟨h4,h5⟩;rcases Nat.lt_or_ge i k with h6|h6
    ·have:lst i=true:=by
      have hko:ops[k]?=some ops[k]:=Array.getElem?_eq_getElem (by omega)
      refine gN T hd k _ hko (hd k _ h4 hko) i (ordered T (m:=m) h6 (by omega) ?_)
      rcases h5 with h5|h5
      ·exact .inr (.inl ⟨h5,hm⟩)
      ·have e1:=hfp i his m hm
       have e2:=A.next (i:=i) (j:=k) (by omega) (by omega)
       omega
     rw[hi] at this;cases this
    ·have:k=i:=by omega
     subst this;rw[hi] at h4;cases h4
 exact high _ (by omega) (Nat.le_refl _)
theorem Hm(T:Trc P rec ops mk S R)(A:Stp P ops S R)(hfp:∀i,i<ops.size->∀m∈(S (i+1)).fp,m<(S i).next)(hwf:∀i,i<ops.size->∀m∈(S (i+1)).wr,m∈(S (i+1)).fp){lst lst':Nat->Bool}(hd:Down ops lst){i:Nat}(his:i<ops.size)(hi:lst i=false)(hi':lst' i=true)(hs:∀k,k≠i->lst' k=lst k)(m:Nat):
  Hd S lst' ops.size m=if fE S i m then (S (i+1)).heap.get m else Hd S lst ops.size m:=by
 have low:∀k,k<=i->Hd S lst' k m=Hd S lst k m:=by
  intro k;induction k with
  |zero=>exact fun _=>rfl
  |succ k ih=>intro hk;simp only[Hd];rw[hs k (by omega),ih (by omega)]
 have high:∀k,i<k->k<=ops.size->Hd S lst' k m=if fE S i m then (S (i+1)).heap.get m else Hd S lst k m:=by
  intro k;induction k with
  |zero=>intro h _;omega
  |succ k ih=>
   intro h1 h2;rcases Nat.lt_or_ge i k with h3|h3
   ·simp only[Hd]
    rw[hs k (by omega),ih h3 (by omega)]
    by_cases ht:fE S i m
    ·rw[if_pos ht,if_pos ht,if_neg]
     rintro⟨h4,h5⟩;have:lst i=true:=by
      have hko:ops[k]?=some ops[k]:=Array.getElem?_eq_getElem (by omega)
      refine gN T hd k _ hko (hd k _ h4 hko) i (ordered T (m:=m) h3 (by omega) ?_)
      have e2:=A.next (i:=i+1) (j:=k) (by omega) (by omega)
      have e3:=A.next (i:=i) (j:=k) (by omega) (by omega)
      rcases ht with ht|ht
      ·have e1:=hfp i his m (hwf i his m ht)
       rcases h5 with h5|h5
       ·exact .inr (.inl ⟨h5,hwf i his m ht⟩)
       ·omega
      ·rcases h5 with h5|h5
       ·exact .inr (.inr ⟨ht.1,ht.2,hwf k (by omega) m h5⟩)
       ·omega
     rw[hi] at this;cases this
    ·rw[if_neg ht,if_neg ht]
   ·have:k=i:=by omega
    subst this;simp only[Hd];rw[hi',hi,low k (Nat.le_refl _)];by_cases ht:fE S k m
    ·rw[if_pos ⟨rfl,ht⟩,if_pos ht]
    ·rw[if_neg (fun e=>ht e.2),if_neg ht,if_neg (fun e=>by cases e.1)]
 exact high _ his (Nat.le_refl _)
end
section
variable {P:Program} {ops:Array Oper} {rec:Task->St->Option (Ans×St)} {mk:List Nat} {S:Nat->St} {R:Nat->Fr}
theorem Fg(T:Trc P rec ops mk S R)(A:Stp P ops S R)(hn:(R 0).nt<1000000000){i:Nat}(hi:i<ops.size){t:Nat}(h:(ops[i]?).bind (·.dst)≠some t):(R (i+1)).get t=(R i).get t:=by
 have ho:ops[i]?=some ops[i]:=Array.getElem?_eq_getElem hi;obtain⟨v,hp,_⟩:=oQ (T.step i _ ho);have:=ml (by rw[A.nt i (by omega)];exact hn) hp t
 rw[this,if_neg];intro e;rw[ho] at h
 exact h e
theorem Hx(T:Trc P rec ops mk S R)(A:Stp P ops S R)(hn:(R 0).nt<1000000000){lst:Nat->Bool}:∀{i},i<=ops.size->(∀j,j<i->lst j=true)->∀t,Td R ops lst i t=(R i).get t:=by
 intro i;induction i with
 |zero=>intro _ _ t;rfl
 |succ i ih=>
  intro hi hl t;simp only[Td];by_cases h:(ops[i]?).bind (·.dst)=some t
  ·rw[if_pos ⟨hl i (by omega),h⟩]
  ·rw[if_neg (fun e=>h e.2),ih (by omega) (fun j hj=>hl j (by omega)) t,Fg T A hn (by omega) h]
theorem ux{x b:Oper}{t:Nat}(h:jt ops x b=true)(hx:x.dst=some t)(ht:t∈fJ ops b):False:=by
 unfold jt at h
 rw[hx] at h
 have:(fJ ops b).contains t=true:=by simpa using ht
 simp only[Bool.not_eq_true'] at h
 rw[this] at h
 cases h
theorem Az(T:Trc P rec ops mk S R)(A:Stp P ops S R)(hn:(R 0).nt<1000000000){lst:Nat->Bool}(hd:Down ops lst){i t:Nat}{o:Oper}(ho:ops[i]?=some o)(hi:lst i=false)
  (hr:∀e∈o.after,Region.binds .any e=true->lst e.on=true) (ht:t∈fJ ops o):Td R ops lst ops.size t=(R i).get t:=by
 have his:i<ops.size:=(Array.getElem?_eq_some_iff.1 ho).1;have low:∀k,k<=i->Td R ops lst k t=(R k).get t:=by
  intro k;induction k with
  |zero=>exact fun _=>rfl
  |succ k ih=>
   intro hk;simp only[Td];have hko:ops[k]?=some ops[k]:=Array.getElem?_eq_getElem (by omega)
   by_cases h:(ops[k]?).bind (·.dst)=some t
   ·have:lst k=true:=by
     rcases T.sep i o ho k _ (by omega) hko with h1|⟨h1,_,_⟩
     ·exact gN T hd i o ho hr k h1
     ·rw[hko] at h
      exact(ux h1 h ht).elim
    rw[if_pos ⟨this,h⟩]
   ·rw[if_neg (fun e=>h e.2),ih (by omega),Fg T A hn (by omega) h]
 have high:∀k,i<=k->k<=ops.size->Td R ops lst k t=(R i).get t:=by
  intro k;induction k with
  |zero=>
       intro h _;have:i=0:=by omega
       subst this;exact low 0 (Nat.le_refl _)
  |succ k ih=>
   intro h1 h2;rcases Nat.lt_or_ge k i with h3|h3
   ·have:i=k+1:=by omega
    subst this;exact low _ (Nat.le_refl _)
   ·simp only[Td]
    rw[if_neg,ih h3 (by omega)]
    rintro⟨h4,h5⟩;rcases Nat.lt_or_ge i k with h6|h6
    ·have hko:ops[k]?=some ops[k]:=Array.getElem?_eq_getElem (by omega)
     rcases T.sep k _ hko i o h6 ho with h7|⟨_,h7,_⟩
     ·have:=gN T hd k _ hko (hd k _ h4 hko) i h7
      rw[hi] at this;cases this
     ·rw[hko] at h5
      exact ux h7 h5 ht
    ·have:k=i:=by omega
     subst this;rw[hi] at h4;cases h4
 exact high _ (by omega) (Nat.le_refl _)
theorem Hy(T:Trc P rec ops mk S R){lst lst':Nat->Bool}(hd:Down ops lst){i:Nat}{o:Oper}(ho:ops[i]?=some o)(hi:lst i=false)(hi':lst' i=true)(hs:∀k,k≠i->lst' k=lst k)(t:Nat):
  Td R ops lst' ops.size t=if o.dst=some t then (R (i+1)).get t else Td R ops lst ops.size t:=by
 have his:i<ops.size:=(Array.getElem?_eq_some_iff.1 ho).1;have low:∀k,k<=i->Td R ops lst' k t=Td R ops lst k t:=by
  intro k;induction k with
  |zero=>exact fun _=>rfl
  |succ k ih=>intro hk;simp only[Td];rw[hs k (by omega),ih (by omega)]
 have high:∀k,i<k->k<=ops.size->Td R ops lst' k t=if o.dst=some t then (R (i+1)).get t else Td R ops lst k t:=by
  intro k;induction k with
  |zero=>intro h _;omega
  |succ k ih=>
   intro h1 h2;rcases Nat.lt_or_ge i k with h3|h3
   ·simp only[Td]
    rw[hs k (by omega),ih h3 (by omega)]
    by_cases ht:o.dst=some t
    ·rw[if_pos ht,if_pos ht,if_neg]
     rintro⟨h4,h5⟩;have hko:ops[k]?=some ops[k]:=Array.getElem?_eq_getElem (by omega)
     rcases T.sep k _ hko i o h3 ho with h7|⟨_,_,h7⟩
     ·have:=gN T hd k _ hko (hd k _ h4 hko) i h7
      rw[hi] at this;cases this
     ·rw[hko] at h5
      exact h7 t ht h5
    ·rw[if_neg ht,if_neg ht]
   ·have:k=i:=by omega
    subst this;simp only[Td];rw[hi',hi,low k (Nat.le_refl _),ho];by_cases ht:o.dst=some t
    ·rw[if_pos ⟨rfl,ht⟩,if_pos ht]
    ·rw[if_neg (fun e=>ht e.2),if_neg ht,if_neg (fun e=>by cases e.1)]
 exact high _ his (Nat.le_refl _)
theorem I8(hn:(R 0).nt<1000000000)(A:Stp P ops S R)(T:Trc P rec ops mk S R)(lst:Nat->Bool):∀k,k<=ops.size->∃fr:Fr,(fr.nt=(R 0).nt/\fr.marks=(R 0).marks)/\∀t,fr.get t=Td R ops lst k t:=by
 intro k;induction k with
 |zero=>exact fun _=>⟨R 0,⟨rfl,rfl⟩,fun _=>rfl⟩
 |succ k ih=>
  intro hk;obtain⟨fr,h1,h2⟩:=ih (by omega)
  have hko:ops[k]?=some ops[k]:=Array.getElem?_eq_getElem (by omega)
  cases hl:lst k with
  |false=>exact⟨fr,h1,fun t=>by simp only[Td];rw[if_neg (fun e=>by rw[hl] at e;cases e.1)];exact h2 t⟩
  |true=>
   obtain⟨v,hp,_⟩:=oQ (T.step k _ hko);obtain⟨fr',hp'⟩:=iY (f2:=fr) (by rw[A.nt k (by omega),h1.1]) hp
   refine⟨fr',⟨(kx hp').trans h1.1,(c_ hp').1.trans h1.2⟩,fun t=>?_⟩
   rw[ml (by rw[h1.1];exact hn) hp' t]
   simp only[Td,hko,Option.bind_some,hl,true_and];have hg:=ml (by rw[A.nt k (by omega)];exact hn) hp t
   by_cases e:ops[k].dst=some t
   ·rw[if_pos e,if_pos e,hg,if_pos e]
   ·rw[if_neg e,if_neg e];exact h2 t
structure Dl(ops:Array Oper)(S:Nat->St)(R:Nat->Fr)(G:Nat->Prop)(ρ0:Ren)(w0:World)(listed:Array Bool)(a:Act)(w:World)(ρ:Ren):Prop where
 size:listed.size=ops.size
 down:Down ops (fun i=>listed.getD i false)
 out:∀m,(∀i,i<ops.size->listed.getD i false=true->¬((S i).next<=m/\m<(S (i+1)).next))->ρ m=ρ0 m
 rep:∀m b,G m->Hd S (fun i=>listed.getD i false) ops.size m=some b->ie ρ w m b
 sep:∀m k,G m->G k->Hd S (fun i=>listed.getD i false) ops.size m≠none->Hd S (fun i=>listed.getD i false) ops.size k≠none->m≠k->∀p q,ρ m=some p->ρ k=some q->p.blk≠q.blk
 tsz:a.tmps.size=(R 0).nt
 tm:∀t,VR ρ (Td R ops (fun i=>listed.getD i false) ops.size t) (a.tmps.getD t undef)
 dfs:DfR ρ (R 0).marks a.defers
 frame:∀b,b<w0.heap.size->(∀m p,G m->Live (S 0).heap m->ρ0 m=some p->p.blk≠b)->w.heap[b]?=w0.heap[b]?
 vM:w0.heap.size<=w.heap.size
 os:w.os=w0.os
 tape:w.tape=w0.tape
 output:w.output=w0.output
 fresh:∀m p,(S 0).next<=m->Hd S (fun i=>listed.getD i false) ops.size m≠none->ρ m=some p->w0.heap.size<=p.blk\/∃k q,G k/\k<(S 0).next/\Live (S 0).heap k/\ρ0 k=some q/\q.blk=p.blk
 tz:TZ w
 off:∀m p,G m->Hd S (fun i=>listed.getD i false) ops.size m≠none->ρ m=some p->tzB≠some p.blk
end
section
variable {P:Program} {ops:Array Oper} {rec:Task->St->Option (Ans×St)} {mk:List Nat} {S:Nat->St} {R:Nat->Fr}
theorem Gy(A:Stp P ops S R){i j m:Nat}(hi:i<ops.size)(hj:j<ops.size)(h1:(S i).next<=m/\m<(S (i+1)).next)(h2:(S j).next<=m/\m<(S (j+1)).next):i=j:=by
 rcases Nat.lt_trichotomy i j with h|h|h
 ·have:=A.next (i:=i+1) (j:=j) (by omega) (by omega);omega
 ·exact h
 ·have:=A.next (i:=j+1) (j:=i) (by omega) (by omega);omega
theorem D5(hg:Good P rec)(hng:dZ P)(T:Trc P rec ops mk S R)(A:Stp P ops S R)(hn:(R 0).nt<1000000000){G:Nat->Prop}{ρ0 ρ:Ren}{w0 w:World}{a:Act}{listed:Array Bool}(I:Dl ops S R G ρ0 w0 listed a w ρ)
  {i:Nat} {o:Oper} (ho:ops[i]?=some o) (hi:listed.getD i false=false) (hr:∀e∈o.after,Region.binds .any e=true->listed.getD e.on false=true) (hGf:∀m∈(S (i+1)).fp,G m) (hGo:∀m,(S i).next<=m->m<(S (i+1)).next->G m)
  (hf0:∀m,(S 0).next<=m->m<(S ops.size).next->ρ0 m=none) {ro:Option Nat} {Q:Exit->Act->World->Prop} {K:Act->World->Prop}
  (hK:∀ρ' a' w',Dl ops S R G ρ0 w0 (listed.setIfInBounds i true) a' w' ρ'->K a' w'):wpOpIn (Fw ro) 0 P ops Q i K a w:=by
 have his:i<ops.size:=(Array.getElem?_eq_some_iff.1 ho).1;have hfp:=A.Fy;have hwf:=A.FL;obtain⟨lst,hlst⟩:∃lst:Nat->Bool,lst=fun j=>listed.getD j false:=⟨_,rfl⟩
 obtain⟨lst',hlst'⟩:∃lst':Nat->Bool,lst'=fun j=>(listed.setIfInBounds i true).getD j false:=⟨_,rfl⟩
 have hsz:=I.size;have li:lst i=false:=by rw[hlst];exact hi
 have li':lst' i=true:=by rw[hlst'];simp[show i<listed.size by omega]
 have ls:∀k,k≠i->lst' k=lst k:=fun k hk=>by
  rw[hlst,hlst'];simp only[Array.getD_eq_getD_getElem?];rw[Array.getElem?_setIfInBounds_ne (Ne.symm hk)]
 have Id:Down ops lst:=by rw[hlst];exact I.down
 have Irep:∀m b,G m->Hd S lst ops.size m=some b->ie ρ w m b:=by rw[hlst];exact I.rep
 have Isep:∀m k,G m->G k->Hd S lst ops.size m≠none->Hd S lst ops.size k≠none->m≠k->∀p q,ρ m=some p->ρ k=some q->p.blk≠q.blk:=by rw[hlst];exact I.sep
 have Itm:∀t,VR ρ (Td R ops lst ops.size t) (a.tmps.getD t undef):=by rw[hlst];exact I.tm
 have Iout:∀m,(∀i,i<ops.size->lst i=true->¬((S i).next<=m/\m<(S (i+1)).next))->ρ m=ρ0 m:=by rw[hlst];exact I.out
 have Ifresh:∀m p,(S 0).next<=m->Hd S lst ops.size m≠none->ρ m=some p->w0.heap.size<=p.blk\/∃k q,G k/\k<(S 0).next/\Live (S 0).heap k/\ρ0 k=some q/\q.blk=p.blk:=by rw[hlst];exact I.fresh
 have hr':∀e∈o.after,Region.binds .any e=true->lst e.on=true:=by rw[hlst];exact hr
 have Ioff:∀m p,G m->Hd S lst ops.size m≠none->ρ m=some p->tzB≠some p.blk:=by rw[hlst];exact I.off
 have hB:∀m∈(S (i+1)).fp,Hd S lst ops.size m=(S i).heap.get m:=fun m hm=>AA T A hfp Id ho li hr' hm
 have hC:∀m,Hd S lst' ops.size m=if fE S i m then (S (i+1)).heap.get m else Hd S lst ops.size m:=fun m=>Hm T A hfp hwf Id his li li' ls m
 obtain⟨fr2,⟨hnt2,hmk2⟩,hget2⟩:=I8 hn A T lst ops.size (Nat.le_refl _);obtain⟨v,hp,hcong⟩:=oQ (T.step i o ho);obtain⟨fr2',hp2,hrun2⟩:=hcong fr2 (by rw[hnt2,A.nt i (by omega)]) (fun t ht=>by rw[hget2,Az T A hn Id ho li hr' ht])
 obtain⟨hm,_,hop⟩:=kD hg hng (o8 (A.wf i (by omega))) hrun2
 have hown:∀m,((S i).next<=m/\m<(S (i+1)).next)->ρ m=none:=fun m hm'=>by
  rw[Iout m fun j hj hlj hoj=>by
   have:=Gy A his hj hm' hoj;subst this;rw[li] at hlj;cases hlj]
  refine hf0 m (Nat.le_trans (A.next (Nat.zero_le i) (by omega)) hm'.1) (Nat.lt_of_lt_of_le hm'.2 (A.next (by omega) (Nat.le_refl _)))
 have hnone:∀m,((S i).next<=m/\m<(S (i+1)).next)->(S i).heap.get m=none:=fun m hm'=>(A.wf i (by omega)).none m hm'.1
 unfold wpOpIn;rw[ho];refine hop ro (fun m=>m∈(S (i+1)).fp\/((S i).next<=m/\m<(S (i+1)).next)) ρ w a K Q ⟨fun m h=>.inl h,fun m h1 h2=>.inr ⟨by rw[hm.thr] at h1;exact h1,h2⟩⟩ ⟨?_,?_,I.tz,?_⟩ (fun m h1 h2=>hown m ⟨h1,h2⟩) ⟨by rw[I.tsz,hnt2],fun t=>by rw[hget2];exact Itm t,by rw[hnt2];exact hn,by rw[hmk2];exact I.dfs⟩ ?_
 ·intro m b hF hb
  rcases hF with hF|hF
  ·exact Irep m b (hGf m hF) (by rw[hB m hF];exact hb)
  ·rw[show(S i).base.heap.get m=none from hnone m hF] at hb;cases hb
 ·intro m k hFm hFk hlm hlk hne
  have e1:∀x,(x∈(S (i+1)).fp\/((S i).next<=x/\x<(S (i+1)).next))->Live (S i).base.heap x->x∈(S (i+1)).fp:=fun x hx hl=>by
   rcases hx with hx|hx
   ·exact hx
   ·exact absurd (hnone x hx) hl
  have hm':=e1 m hFm hlm;have hk':=e1 k hFk hlk;exact Isep m k (hGf m hm') (hGf k hk') (by rw[hB m hm'];exact hlm) (by rw[hB k hk'];exact hlk) hne
 ·intro m p hFm hlm hp
  have hm':m∈(S (i+1)).fp:=by
   rcases hFm with h|h
   ·exact h
   ·exact absurd (hnone m h) hlm
  exact Ioff m p (hGf m hm') (by rw[hB m hm'];exact hlm) hp
 ·intro ρ' w' a' e ht
  refine hK ρ' a' w' ?_;have hle:ρ.le ρ':=e.le (fun m h1 h2=>hown m ⟨h1,h2⟩)
  have lt:∀m b p,G m->Hd S lst ops.size m=some b->ρ m=some p->p.blk<w.heap.size:=fun m b p hGm hb hpm=>by
   exact(Irep m b hGm hb).lt hpm
  have back:∀m,m∈(S (i+1)).fp->(S (i+1)).heap.get m≠none->Hd S lst ops.size m≠none:=fun m hm1 hl=>by
   rw[hB m hm1];exact(A.mono i his).live (hfp i his m hm1) hl
  have hFv:∀m,(m∈(S (i+1)).fp\/((S i).next<=m/\m<(S (i+1)).next))->Hd S lst' ops.size m=(S (i+1)).heap.get m:=fun m hF=>by
   rw[hC];by_cases ht':fE S i m
   ·rw[if_pos ht']
   ·rw[if_neg ht']
    rcases hF with hF|hF
    ·rw[hB m hF,A.same his ht']
    ·exact absurd (.inr hF) ht'
  have hNv:∀m,¬(m∈(S (i+1)).fp\/((S i).next<=m/\m<(S (i+1)).next))->Hd S lst' ops.size m=Hd S lst ops.size m/\ρ' m=ρ m:=fun m hF=>by
   have hnt:¬fE S i m:=fun h=>hF (h.imp (fun h=>hwf i his m h) id)
   refine⟨by rw[hC,if_neg hnt],e.out m ?_⟩
   rcases Nat.lt_or_ge m (S i).next with h1|h1
   ·exact .inl h1
   ·rcases Nat.lt_or_ge m (S (i+1)).next with h2|h2
    ·exact absurd (.inr ⟨h1,h2⟩) hF
    ·exact .inr h2
  have frameOf:∀m b p,G m->¬(m∈(S (i+1)).fp\/((S i).next<=m/\m<(S (i+1)).next))->Hd S lst ops.size m=some b->ρ m=some p->w'.heap[p.blk]?=w.heap[p.blk]?:=fun m b p hGm hF hb hpm=>by
   refine e.frame p.blk (lt m b p hGm hb hpm) fun k q hFk hlk hqk=>?_
   have hk':k∈(S (i+1)).fp:=by
    rcases hFk with h1|h1
    ·exact h1
    ·exact absurd (hnone k h1) hlk
   exact Isep k m (hGf k hk') hGm (by rw[hB k hk'];exact hlk) (by rw[hb];simp) (fun e=>hF (e ▸ .inl hk')) q p hqk hpm
  refine⟨by simp[hsz],?_,?_,?_,?_,?_,?_,by have:=ht.dfs;rw[(c_ hp2).1,hmk2] at this;exact this,?_,Nat.le_trans I.vM e.size,e.os.trans I.os,e.tape.trans I.tape,e.output.trans I.output,?_,e.rep.tz,?_⟩
  ·rw[<-hlst']
   intro j oj hj hoj ej hej hbj;by_cases h1:j=i
   ·subst h1
    rw[ho] at hoj
    cases hoj
    by_cases h2:ej.on=j
    ·rw[h2];exact li'
    ·rw[ls _ h2];exact hr' ej hej hbj
   ·rw[ls j h1] at hj
    have:=Id j oj hj hoj ej hej hbj;by_cases h2:ej.on=i
    ·rw[h2];exact li'
    ·rw[ls _ h2];exact this
  ·intro m hno
   have hno':∀j,j<ops.size->lst' j=true->¬((S j).next<=m/\m<(S (j+1)).next):=fun j hj hl=>hno j hj (by rw[hlst'] at hl;exact hl)
   have h1:=hno' i his li';rw[e.out m (by
    show m<(S i).next\/_
    omega)]
   exact Iout m fun j hj hl=>hno' j hj (by
    by_cases h2:j=i
    ·rw[h2];exact li'
    ·rw[ls j h2];exact hl)
  ·rw[<-hlst']
   intro m b hGm hb;by_cases hF:m∈(S (i+1)).fp\/((S i).next<=m/\m<(S (i+1)).next)
   ·rw[hFv m hF] at hb
    exact e.rep.rep m b hF hb
   ·obtain⟨h1,h2⟩:=hNv m hF
    rw[h1] at hb
    exact(Irep m b hGm hb).eN hle fun p hpm=>frameOf m b p hGm hF hb hpm
  ·rw[<-hlst']
   have mixed:∀m k,G m->G k->(m∈(S (i+1)).fp\/((S i).next<=m/\m<(S (i+1)).next))->¬(k∈(S (i+1)).fp\/((S i).next<=k/\k<(S (i+1)).next))->Hd S lst' ops.size m≠none->Hd S lst' ops.size k≠none->∀p q,ρ' m=some p->ρ' k=some q->p.blk≠q.blk:=by
    intro m k hGm hGk hFm hFk hlm hlk p q hpm hqk;obtain⟨h1,h2⟩:=hNv k hFk;rw[h1] at hlk
    rw[h2] at hqk
    obtain⟨bk,hbk⟩:∃b,Hd S lst ops.size k=some b:=by
     cases h:Hd S lst ops.size k with
     |none=>exact absurd h hlk
     |some b=>exact⟨b,rfl⟩
    have hltk:=lt k bk q hGk hbk hqk;rw[hFv m hFm] at hlm
    by_cases hmo:(S i).next<=m/\m<(S (i+1)).next
    ·rcases e.fresh m p hmo.1 hmo.2 hlm hpm with h3|⟨m0,q0,hF0,_,hl0,hq0,e0⟩
     ·omega
     ·have hm0:m0∈(S (i+1)).fp:=by
       rcases hF0 with h1|h1
       ·exact h1
       ·exact absurd (hnone m0 h1) hl0
      rw[<-e0];exact Isep m0 k (hGf m0 hm0) hGk (by rw[hB m0 hm0];exact hl0) hlk (fun e=>hFk (e ▸ .inl hm0)) q0 q hq0 hqk
    ·have hm0:m∈(S (i+1)).fp:=by
      rcases hFm with h1|h1
      ·exact h1
      ·exact absurd h1 hmo
     have hpm':ρ m=some p:=by
      rw[<-e.out m (.inl (hfp i his m hm0))];exact hpm
     exact Isep m k hGm hGk (back m hm0 hlm) hlk (fun e=>hFk (e ▸ .inl hm0)) p q hpm' hqk
   intro m k hGm hGk hlm hlk hne p q hpm hqk;by_cases hFm:m∈(S (i+1)).fp\/((S i).next<=m/\m<(S (i+1)).next)
   ·by_cases hFk:k∈(S (i+1)).fp\/((S i).next<=k/\k<(S (i+1)).next)
    ·exact e.rep.sep m k hFm hFk (by unfold Live;rw[<-hFv m hFm];exact hlm) (by unfold Live;rw[<-hFv k hFk];exact hlk) hne p q hpm hqk
    ·exact mixed m k hGm hGk hFm hFk hlm hlk p q hpm hqk
   ·by_cases hFk:k∈(S (i+1)).fp\/((S i).next<=k/\k<(S (i+1)).next)
    ·exact Ne.symm (mixed k m hGk hGm hFk hFm hlk hlm q p hqk hpm)
    ·obtain⟨h1,h2⟩:=hNv m hFm
     obtain⟨h3,h4⟩:=hNv k hFk;rw[h1] at hlm;rw[h3] at hlk;rw[h2] at hpm;rw[h4] at hqk
     exact Isep m k hGm hGk hlm hlk hne p q hpm hqk
  ·rw[ht.size,kx hp2,hnt2]
  ·rw[<-hlst']
   intro t;have h1:=ht.val t;rw[ml (by rw[hnt2];exact hn) hp2 t,hget2] at h1
   rw[Hy T Id ho li li' ls t];have hg':=ml (by rw[A.nt i (by omega)];exact hn) hp t
   by_cases ed:o.dst=some t
   ·rw[if_pos ed] at h1 hg' ⊢
    rw[hg'];exact h1
   ·rw[if_neg ed] at h1 ⊢
    exact h1
  ·intro b hb hne
   rw[e.frame b (Nat.lt_of_lt_of_le hb I.vM) ?_,I.frame b hb hne];intro m p hF hl hpm;have hm0:m∈(S (i+1)).fp:=by
    rcases hF with h1|h1
    ·exact h1
    ·exact absurd (hnone m h1) hl
   have hHd:Hd S lst ops.size m≠none:=by rw[hB m hm0];exact hl
   rcases Nat.lt_or_ge m (S 0).next with h1|h1
   ·refine hne m p (hGf m hm0) (fun hdead=>hHd (yN A h1 hdead (Nat.le_refl _))) ?_
    rw[<-Iout m fun j hj _ hoj=>by have:=A.next (Nat.zero_le j) (by omega);omega]
    exact hpm
   ·rcases Ifresh m p h1 hHd hpm with h2|⟨k,q,hGk,_,hlk,hqk,e2⟩
    ·omega
    ·rw[<-e2];exact hne k q hGk hlk hqk
  ·rw[<-hlst']
   intro m p hm1 hl hpm;by_cases hmo:(S i).next<=m/\m<(S (i+1)).next
   ·rw[hFv m (.inr hmo)] at hl
    rcases e.fresh m p hmo.1 hmo.2 hl hpm with h3|⟨m0,q0,hF0,_,hl0,hq0,e0⟩
    ·exact .inl (Nat.le_trans I.vM h3)
    ·have hm0:m0∈(S (i+1)).fp:=by
      rcases hF0 with h1|h1
      ·exact h1
      ·exact absurd (hnone m0 h1) hl0
     have hHd:Hd S lst ops.size m0≠none:=by rw[hB m0 hm0];exact hl0
     rcases Nat.lt_or_ge m0 (S 0).next with h1|h1
     ·refine .inr ⟨m0,q0,hGf m0 hm0,h1,fun hdead=>hHd (yN A h1 hdead (Nat.le_refl _)),?_,e0⟩
      rw[<-Iout m0 fun j hj _ hoj=>by have:=A.next (Nat.zero_le j) (by omega);omega]
      exact hq0
     ·rcases Ifresh m0 q0 h1 hHd hq0 with h2|⟨k,q,a1,a2,a3,a4,a5⟩
      ·exact .inl (by omega)
      ·exact .inr ⟨k,q,a1,a2,a3,a4,by omega⟩
   ·have hpm':ρ m=some p:=by
     rw[<-e.out m (by show m<(S i).next\/_;omega)];exact hpm
    refine Ifresh m p hm1 ?_ hpm';by_cases hF:m∈(S (i+1)).fp
    ·rw[hFv m (.inl hF)] at hl
     exact back m hF hl
    ·rw[(hNv m (fun h=>h.elim hF hmo)).1] at hl
     exact hl
  ·rw[<-hlst']
   intro m p hGm hl hpm;by_cases hFm:m∈(S (i+1)).fp\/((S i).next<=m/\m<(S (i+1)).next)
   ·exact e.rep.off m p hFm (by unfold Live;rw[<-hFv m hFm];exact hl) hpm
   ·obtain⟨h1,h2⟩:=hNv m hFm
    rw[h1] at hl
    rw[h2] at hpm
    exact Ioff m p hGm hl hpm
end
end Go.Proofs.YtdjjlghlcffflaaGreatDoor.Ev
