/- Own. -/
import Derived.Test.YtdjjlghlcffflaaGreatDoorE1
import Derived.Below
import Derived.Laws.CopyRow
import Derived.Shelf.Spec.TrailingZeros
import Derived.Test.YtdjjlghlcffflaaGreatDoorProg
set_option linter.unusedVariables false
set_option linter.unusedSimpArgs false
set_option maxHeartbeats 8000000
set_option maxRecDepth 100000
namespace Go.Proofs.YtdjjlghlcffflaaGreatDoor.Ev
structure Pl where
 blk:Nat
 base:Nat
 cap:Nat
abbrev Ren:=Nat->Option Pl
mutual
inductive VR (ρ:Ren):LV->Value->Prop where
 |bool (b:Bool):VR ρ (.bool b) (.bool b)
 |int (k:IntKind) (n:Int):VR ρ (.int k n) (.int k n)
 |str (s:ByteArray):VR ρ (.str s) (.string s)
 |ptr {n off:Nat} {p:Pl}:ρ n=some p->VR ρ (.ptr n off) (.pointer (some ⟨p.blk,p.base+off,none⟩))
 |nil:VR ρ .nil (.pointer none)
 |known {n off len c:Nat} {p:Pl}:ρ n=some p->VR ρ (.slice n off len (.known c)) (.slice (some ⟨p.blk,p.base+off,none⟩) len c)
 |more {n off len u:Nat} {p:Pl}:ρ n=some p->VR ρ (.slice n off len (.more u)) (.slice (some ⟨p.blk,p.base+off,none⟩) len (p.cap-u))
 |nilSlice:VR ρ .nilSlice (.slice none 0 0)
 |func {fn:Fn} {a b:List LV} {x y:List Value}:VRs ρ a x->VRs ρ b y->VR ρ (.func fn a b) (.func fn x.toArray y.toArray)
 |nilFunc:VR ρ .nilFunc .nilFunc
 |iface {t:TypeId} {v:LV} {x:Value}:VR ρ v x->VR ρ (.iface t v) (.iface t x)
 |nilIface:VR ρ .nilIface .nilIface
 |agg {cs:List LV} {xs:List Value}:VRs ρ cs xs->VR ρ (.agg cs) (.agg xs.toArray)
 |tuple {cs:List LV} {xs:List Value}:VRs ρ cs xs->VR ρ (.tuple cs) (.tuple xs.toArray)
 |yield {n:Nat} {p:Pl}:ρ n=some p->VR ρ (.yield n) (.func (.yield p.blk) #[] #[])
inductive VRs (ρ:Ren):List LV->List Value->Prop where
 |nil:VRs ρ [] []
 |cons {v:LV} {x:Value} {vs:List LV} {xs:List Value}:VR ρ v x->VRs ρ vs xs->VRs ρ (v::vs) (x::xs)
end
def Ren.le(ρ σ:Ren):Prop:=∀n p,ρ n=some p->σ n=some p
mutual
theorem VR.mono{ρ σ:Ren}(h:ρ.le σ):∀{v:LV} {x:Value},VR ρ v x->VR σ v x
 |_,_,.bool b=>.bool b
 |_,_,.int k n=>.int k n
 |_,_,.str s=>.str s
 |_,_,.ptr e=>.ptr (h _ _ e)
 |_,_,.nil=>.nil
 |_,_,.known e=>.known (h _ _ e)
 |_,_,.more e=>.more (h _ _ e)
 |_,_,.nilSlice=>.nilSlice
 |_,_,.func a b=>.func (VRs.mono h a) (VRs.mono h b)
 |_,_,.nilFunc=>.nilFunc
 |_,_,.iface a=>.iface (VR.mono h a)
 |_,_,.nilIface=>.nilIface
 |_,_,.agg a=>.agg (VRs.mono h a)
 |_,_,.tuple a=>.tuple (VRs.mono h a)
 |_,_,.yield e=>.yield (h _ _ e)
theorem VRs.mono{ρ σ:Ren}(h:ρ.le σ):∀{v:List LV} {x:List Value},VRs ρ v x->VRs σ v x
 |_,_,.nil=>.nil
 |_,_,.cons a b=>.cons (VR.mono h a) (VRs.mono h b)
end
theorem VRs.length{ρ:Ren}:∀{vs:List LV} {xs:List Value},VRs ρ vs xs->xs.length=vs.length
 |_,_,.nil=>rfl
 |_,_,.cons _ b=>by simp[b.length]
theorem VRs.get{ρ:Ren}:∀{vs:List LV} {xs:List Value},VRs ρ vs xs->∀{i:Nat} {v:LV},vs[i]?=some v->∃x,xs[i]?=some x/\VR ρ v x
 |_,_,.nil,i,v,h=>by simp at h
 |_,_,.cons (x:=x) a b,0,v,h=>by simp at h;exact⟨x,by simp,h ▸ a⟩
 |_,_,.cons a b,i+1,v,h=>by
  simp at h
  obtain⟨y,hy,hv⟩:=b.get h;exact⟨y,by simpa using hy,hv⟩
theorem VRs.append{ρ:Ren}:∀{vs:List LV} {xs:List Value},VRs ρ vs xs->∀{us:List LV} {ys:List Value},VRs ρ us ys->VRs ρ (vs++us) (xs++ys)
 |_,_,.nil,_,_,h=>h
 |_,_,.cons a b,_,_,h=>.cons a (b.append h)
theorem VRs.drop{ρ:Ren}:∀(k:Nat) {vs:List LV} {xs:List Value},VRs ρ vs xs->VRs ρ (vs.drop k) (xs.drop k)
 |0,_,_,h=>by simpa using h
 |k+1,_,_,.nil=>by simpa using VRs.nil
 |k+1,_,_,.cons _ b=>by simpa using b.drop k
theorem VRs.take{ρ:Ren}:∀(k:Nat) {vs:List LV} {xs:List Value},VRs ρ vs xs->VRs ρ (vs.take k) (xs.take k)
 |0,_,_,h=>by simpa using VRs.nil
 |k+1,_,_,.nil=>by simpa using VRs.nil
 |k+1,_,_,.cons a b=>by simpa using VRs.cons a (b.take k)
theorem VRs.oC{ρ:Ren}:∀{vs:List LV} {xs:List Value},xs.length=vs.length->(∀(i:Nat) (v:LV) (x:Value),vs[i]?=some v->xs[i]?=some x->VR ρ v x)->VRs ρ vs xs
 | [],[],_,_=>.nil
 | [],_::_,h,_=>by simp at h
 |_::_,[],h,_=>by simp at h
 |v::vs,x::xs,h,hv=>.cons (hv 0 v x (by simp) (by simp)) (VRs.oC (by simpa using h) fun i u y hu hy=>hv (i+1) u y (by simpa using hu) (by simpa using hy))
theorem VR.cells{ρ:Ren}{v:LV}{x:Value}(h:VR ρ v x):VRs ρ v.cells x.cells.toList:=by
 cases h<;>first|(simp only[LV.cells,Value.cells];assumption)|exact .cons (by constructor<;>assumption) .nil
def Value.one:Value->Bool
 | .agg _ | .tuple _=>false
 |_=>true
theorem VR.one{ρ:Ren}{v:LV}{x:Value}(h:VR ρ v x):Value.one x=v.one:=by
 cases h<;>rfl
theorem zu{ρ:Ren}{x:Value}{v:LV}(h:AE x=some v):VR ρ v x:=by
 unfold AE at h
 split at h<;>cases h<;>constructor
theorem xd{ρ:Ren}:∀{xs:List Value} {vs:List LV},xa xs=some vs->VRs ρ vs xs
 | [],vs,h=>by cases h;exact .nil
 |x::xs,vs,h=>by
  simp only[xa] at h
  split at h
  ·rename_i a b ha hb
   cases h
   exact .cons (zu ha) (xd hb)
  ·cases h
theorem Cm{ρ:Ren}{x:Value}{v:LV}(h:ofV x=some v):VR ρ v x:=by
 unfold ofV at h
 split at h
 ·rename_i cs
  cases hc:xa cs.toList with
  |none=>rw[hc] at h;cases h
  |some l=>
   rw[hc] at h
   cases h
   exact .agg (xd hc)
 ·exact zu h
theorem Tr.jN{α:Type}(i:Nat):(Tr.e:Tr α).get i=none:=rfl
theorem Tr.jO{α:Type}(l:Tr α)(v:Option α)(r:Tr α)(i:Nat):(Tr.n l v r).get i=if i=0 then v else if i%2=1 then l.get (i/2) else r.get (i/2-1):=by
 show sel (Nat.beq i 0) v (sel (Nat.beq (i%2) 1) (l.get (i/2)) (r.get (i/2-1)))=_
 by_cases h0:i=0
 ·subst h0;rfl
 ·have:Nat.beq i 0=false:=by
   cases h:Nat.beq i 0 with
   |true=>exact absurd (Nat.eq_of_beq_eq_true h) h0
   |false=>rfl
  rw[this,if_neg h0];by_cases h1:i%2=1
  ·rw[h1];rfl
  ·have:Nat.beq (i%2) 1=false:=by
    cases h:Nat.beq (i%2) 1 with
    |true=>exact absurd (Nat.eq_of_beq_eq_true h) h1
    |false=>rfl
   rw[this,if_neg h1]
theorem zL{α:Type}(i:Nat)(a b c:α):sel (Nat.beq i 0) a (sel (Nat.beq (i%2) 1) b c)=if i=0 then a else if i%2=1 then b else c:=by
 by_cases h0:i=0
 ·subst h0;rfl
 ·have:Nat.beq i 0=false:=by
   cases h:Nat.beq i 0 with
   |true=>exact absurd (Nat.eq_of_beq_eq_true h) h0
   |false=>rfl
  rw[this,if_neg h0];by_cases h1:i%2=1
  ·rw[h1];rfl
  ·have:Nat.beq (i%2) 1=false:=by
    cases h:Nat.beq (i%2) 1 with
    |true=>exact absurd (Nat.eq_of_beq_eq_true h) h1
    |false=>rfl
   rw[this,if_neg h1]
theorem Tr.IA{α:Type}(f i:Nat)(x:Option α):Tr.path (f+1) i x=if i=0 then .n .e x .e else if i%2=1 then .n (Tr.path f (i/2) x) none .e else .n .e none (Tr.path f (i/2-1) x):=zL i _ _ _
theorem Tr.Jh{α:Type}(f:Nat)(l:Tr α)(v:Option α)(r:Tr α)(i:Nat)(x:Option α):(Tr.n l v r).put f i x=if i=0 then .n l x r else if i%2=1 then .n (l.put f (i/2) x) v r else .n l v (r.put f (i/2-1) x):=zL i _ _ _
theorem Tr.qV{α:Type}:∀(f i:Nat) (x:Option α) (j:Nat),i+1<2^f->(Tr.path f i x).get j=if j=i then x else none
 |0,i,x,j,h=>by simp at h
 |f+1,i,x,j,h=>by
  rw[Nat.pow_succ] at h
  rw[Tr.IA];by_cases h0:i=0
  ·subst h0
   rw[if_pos rfl,Tr.jO];by_cases hj:j=0
   ·rw[if_pos hj,if_pos hj]
   ·rw[if_neg hj,if_neg hj];simp[Tr.jN]
  ·rw[if_neg h0]
   by_cases h1:i%2=1
   ·rw[if_pos h1,Tr.jO]
    by_cases hj:j=0
    ·rw[if_pos hj,if_neg (by omega)]
    ·rw[if_neg hj]
     by_cases hj1:j%2=1
     ·rw[if_pos hj1,Tr.qV f _ _ _ (by omega)]
      by_cases e:j=i
      ·subst e;simp
      ·rw[if_neg (by omega),if_neg e]
     ·rw[if_neg hj1,Tr.jN,if_neg (by intro e;subst e;omega)]
   ·rw[if_neg h1,Tr.jO]
    by_cases hj:j=0
    ·rw[if_pos hj,if_neg (by omega)]
    ·rw[if_neg hj]
     by_cases hj1:j%2=1
     ·rw[if_pos hj1,Tr.jN,if_neg (by intro e;subst e;omega)]
     ·rw[if_neg hj1,Tr.qV f _ _ _ (by omega)]
      by_cases e:j=i
      ·subst e;simp
      ·rw[if_neg (by omega),if_neg e]
theorem Tr.l6{α:Type}(f:Nat)(t:Tr α):∀(i:Nat) (x:Option α) (j:Nat),i+1<2^f->(t.put f i x).get j=if j=i then x else t.get j:=by
 induction t with
 |e=>intro i x j h;exact Tr.qV f i x j h
 |n l v r ihl ihr=>
  intro i x j h;rw[Tr.Jh];by_cases h0:i=0
  ·subst h0
   rw[if_pos rfl,Tr.jO,Tr.jO];by_cases hj:j=0
   ·rw[if_pos hj,if_pos hj]
   ·rw[if_neg hj,if_neg hj,if_neg hj]
  ·rw[if_neg h0]
   by_cases h1:i%2=1
   ·rw[if_pos h1,Tr.jO,Tr.jO]
    by_cases hj:j=0
    ·rw[if_pos hj,if_neg (by omega),if_pos hj]
    ·rw[if_neg hj,if_neg hj]
     by_cases hj1:j%2=1
     ·rw[if_pos hj1,if_pos hj1,ihl _ _ _ (by omega)]
      by_cases e:j=i
      ·subst e;simp
      ·rw[if_neg (by omega),if_neg e]
     ·rw[if_neg hj1,if_neg hj1,if_neg (by intro e;subst e;omega)]
   ·rw[if_neg h1,Tr.jO,Tr.jO]
    by_cases hj:j=0
    ·rw[if_pos hj,if_neg (by omega),if_pos hj]
    ·rw[if_neg hj,if_neg hj]
     by_cases hj1:j%2=1
     ·rw[if_pos hj1,if_pos hj1,if_neg (by intro e;subst e;omega)]
     ·rw[if_neg hj1,if_neg hj1,ihr _ _ _ (by omega)]
      by_cases e:j=i
      ·subst e;simp
      ·rw[if_neg (by omega),if_neg e]
open Go.RowKit
structure lE(ρ:Ren)(w:World)(n:Nat)(b:Blk)(p:Pl)(cs:Array Value):Prop where
 at_:ρ n=some p
 heap:w.heap[p.blk]?=some (.cells cs b.elem (0,0))
 val:∀(i:Nat) (v:LV),b.cells[i]?=some v->∃x,cs[p.base+i]?=some x/\VR ρ v x
 fit:p.base+b.cells.length<=cs.size
 more:∀sz,b.more=some sz->cs.size=p.base+p.cap*sz
inductive DfR (ρ:Ren):List Dm->List Deferred->Prop where
 |nil:DfR ρ [] []
 |cons {n:Nat} {p:Pl} {ns:List Dm} {ds:List Deferred}:ρ n=some p->DfR ρ ns ds->DfR ρ (.mark n::ns) ({target:=.collected p.blk,args:=#[]}::ds)
 |call {f:FuncId} {args:List LV} {xs:Array Value} {ns:List Dm} {ds:List Deferred}:VRs ρ args xs.toList->DfR ρ ns ds->DfR ρ (.call f args::ns) ({target:=.fn (.func f) xs,args:=#[]}::ds)
theorem DfR.mono{ρ σ:Ren}(h:ρ.le σ){ns:List Dm}{ds:List Deferred}(hd:DfR ρ ns ds):DfR σ ns ds:=by
 induction hd with
 |nil=>exact .nil
 |cons hp _ ih=>exact .cons (h _ _ hp) ih
 |call hx _ ih=>exact .call (hx.mono h) ih
def wB:Ex->Code
 | .normal=>.skip
 | .exit id=>.exit id
 | .ret=>.ret
structure jL(ρ:Ren)(r:ff)(L:Loop):Prop where
 params:L.params.toList=r.ps
 assign:L.assign=r.assign
 body:L.body=r.body
 A5:L.tmps.size=r.fr.nt
 E7:∀t,VR ρ (r.fr.get t) (L.tmps.getD t undef)
 room:r.fr.nt<1000000000
 st:match r.st with
  | .ready=>L.state=.ready/\L.pending=none
  | .busy=>L.state=.busy
  | .done e=>L.state=.done/\L.pending=some (wB e)
theorem jL.mono{ρ σ:Ren}(h:ρ.le σ){r:ff}{L:Loop}(hl:jL ρ r L):jL σ r L:=⟨hl.params,hl.assign,hl.body,hl.A5,fun t=>(hl.E7 t).mono h,hl.room,hl.st⟩
def tn(ρ:Ren)(w:World)(p:Pl):Oth->Prop
 | .marks=>w.heap[p.blk]?=some (.deferred (some []))
 | .loop r=>∃L,w.heap[p.blk]?=some (.loop L)/\jL ρ r L
structure ie(ρ:Ren)(w:World)(n:Nat)(b:Blk):Prop where
 cells:b.lp=none->∃p cs,lE ρ w n b p cs
 other:∀x,b.lp=some x->∃p,ρ n=some p/\tn ρ w p x
variable {w w':World}
theorem tn.eN{ρ σ:Ren}{p:Pl}{x:Oth}(h:tn ρ w p x)(hle:ρ.le σ)(hh:w'.heap[p.blk]?=w.heap[p.blk]?):tn σ w' p x:=by
 cases x with
 |marks=>exact hh.trans h
 |loop r=>obtain⟨L,h1,h2⟩:=h;exact⟨L,hh.trans h1,h2.mono hle⟩
theorem tn.lt{ρ:Ren}{p:Pl}{x:Oth}(h:tn ρ w p x):p.blk<w.heap.size:=by
 cases x with
 |marks=>exact(Array.getElem?_eq_some_iff.1 h).1
 |loop r=>obtain⟨L,h1,h2⟩:=h;exact(Array.getElem?_eq_some_iff.1 h1).1
variable {n:Nat}
theorem lE.eN{ρ σ:Ren}{b:Blk}{p:Pl}{cs:Array Value}(h:lE ρ w n b p cs)(hle:ρ.le σ)(hh:w'.heap[p.blk]?=w.heap[p.blk]?):lE σ w' n b p cs:=
 ⟨hle _ _ h.at_,hh.trans h.heap,fun i v hv=>let ⟨x,hx,hr⟩:=h.val i v hv;⟨x,hx,hr.mono hle⟩,h.fit,h.more⟩
theorem lE.lt{ρ:Ren}{b:Blk}{p:Pl}{cs:Array Value}(h:lE ρ w n b p cs):p.blk<w.heap.size:=(Array.getElem?_eq_some_iff.1 h.heap).1
theorem ie.at_{ρ:Ren}{b:Blk}(h:ie ρ w n b):∃p,ρ n=some p/\p.blk<w.heap.size:=by
 cases hl:b.lp with
 |none=>obtain⟨p,cs,hr⟩:=h.cells hl;exact⟨p,hr.at_,hr.lt⟩
 |some x=>obtain⟨p,hp,hx⟩:=h.other x hl;exact⟨p,hp,hx.lt⟩
theorem ie.lt{ρ:Ren}{b:Blk}{p:Pl}(h:ie ρ w n b)(hp:ρ n=some p):p.blk<w.heap.size:=by
 obtain⟨q,hq,hl⟩:=h.at_;rw[hp] at hq
 cases hq
 exact hl
theorem ie.eN{ρ σ:Ren}{b:Blk}(h:ie ρ w n b)(hle:ρ.le σ)(hh:∀p,ρ n=some p->w'.heap[p.blk]?=w.heap[p.blk]?):ie σ w' n b:=
 ⟨fun hl=>let ⟨p,cs,hr⟩:=h.cells hl;⟨p,cs,hr.eN hle (hh p hr.at_)⟩,fun x hl=>let ⟨p,hp,hx⟩:=h.other x hl;⟨p,hle _ _ hp,hx.eN hle (hh p hp)⟩⟩
theorem ie.ofB{ρ:Ren}{b:Blk}{p:Pl}{cs:Array Value}(hl:b.lp=none)(h:lE ρ w n b p cs):ie ρ w n b:=⟨fun _=>⟨p,cs,h⟩,fun x hx=>by rw[hl] at hx;cases hx⟩
def Live(h:Tr Blk)(n:Nat):Prop:=h.get n≠none
noncomputable def tzB:Option Nat:=Tryz.prog.globalNamed "math/bits.deBruijn64tab"
def TZ(w:World):Prop:=∀g,tzB=some g->TabAt g Lib.deBruijn64tab w
theorem TZ.eN(h:TZ w)(hk:∀g,tzB=some g->w'.heap[g]?=w.heap[g]?):TZ w':=fun g hg j hj=>by
 have h1:=h g hg j hj;have h2:=hk g hg;unfold World.cell? at h1 ⊢
 dsimp only at h1 ⊢
 rw[h2];exact h1
variable {g:Nat}
theorem TZ.lt(h:TZ w)(hg:tzB=some g):g<w.heap.size:=by
 have h1:=h g hg 0 (by decide)
 unfold World.cell? at h1
 dsimp only at h1
 cases hh:w.heap[g]? with
 |none=>rw[hh] at h1;cases h1
 |some o=>exact(Array.getElem?_eq_some_iff.1 hh).1
structure aV(G:Nat->Prop)(ρ:Ren)(h:Tr Blk)(w:World):Prop where
 rep:∀n b,G n->h.get n=some b->ie ρ w n b
 sep:∀n m,G n->G m->Live h n->Live h m->n≠m->∀p q,ρ n=some p->ρ m=some q->p.blk≠q.blk
 tz:TZ w
 off:∀n p,G n->Live h n->ρ n=some p->tzB≠some p.blk
structure WF(s:St):Prop where
 none:∀n,s.next<=n->s.heap.get n=none
 lt:s.next<=1000000000
 thr:s.thr<=s.next
structure aA(s s':St):Prop where
 thr:s'.thr=s.thr
 next:s.next<=s'.next
 fp:∀n∈s.fp,n∈s'.fp
 wr:∀n∈s.wr,n∈s'.wr
 same:∀n,n<s.next->n<s.thr->n∉s'.wr->s'.heap.get n=s.heap.get n
 dead:∀n,n<s.next->s.heap.get n=none->s'.heap.get n=none
 wf:WF s->WF s'
 A_:(∀n∈s.wr,n∈s.fp)->∀n∈s'.wr,n∈s'.fp
 low:(∀n∈s.fp,n<s.thr)->∀n∈s'.fp,n<s'.thr
theorem aA.refl(s:St):aA s s:=⟨rfl,Nat.le_refl _,fun _ h=>h,fun _ h=>h,fun _ _ _ _=>rfl,fun _ _ h=>h,fun h=>h,fun h=>h,fun h=>h⟩
theorem aA.trans{a b c:St}(h:aA a b)(k:aA b c):aA a c where
 thr:=k.thr.trans h.thr
 next:=Nat.le_trans h.next k.next
 fp:=fun n hn=>k.fp n (h.fp n hn)
 wr:=fun n hn=>k.wr n (h.wr n hn)
 same:=fun n h1 h2 h3=>(k.same n (Nat.lt_of_lt_of_le h1 h.next) (h.thr ▸ h2) h3).trans (h.same n h1 h2 fun h4=>h3 (k.wr n h4))
 dead:=fun n h1 h2=>k.dead n (Nat.lt_of_lt_of_le h1 h.next) (h.dead n h1 h2)
 wf:=fun h1=>k.wf (h.wf h1)
 A_:=fun h1=>k.A_ (h.A_ h1)
 low:=fun h1=>k.low (h.low h1)
theorem aA.live{s s':St}(h:aA s s')(hn:n<s.next)(hl:Live s'.heap n):Live s.heap n:=fun e=>hl (h.dead n hn e)
structure Ext(G:Nat->Prop)(s s':St)(ρ ρ':Ren)(w w':World):Prop where
 out:∀n,(n<s.next\/s'.next<=n)->ρ' n=ρ n
 rep:aV G ρ' s'.heap w'
 frame:∀b,b<w.heap.size->(∀n p,G n->Live s.heap n->ρ n=some p->p.blk≠b)->w'.heap[b]?=w.heap[b]?
 size:w.heap.size<=w'.heap.size
 os:w'.os=w.os
 tape:w'.tape=w.tape
 output:w'.output=w.output
 fresh:∀n p,s.next<=n->n<s'.next->Live s'.heap n->ρ' n=some p->w.heap.size<=p.blk\/∃m q,G m/\m<s.next/\Live s.heap m/\ρ m=some q/\q.blk=p.blk
def bg(ρ:Ren)(s s':St):Prop:=∀n,s.next<=n->n<s'.next->ρ n=none
theorem Ext.le{G:Nat->Prop}{s s':St}{ρ ρ':Ren}(h:Ext G s s' ρ ρ' w w')(hf:bg ρ s s'):ρ.le ρ':=by
 intro n p hn;by_cases h1:n<s.next
 ·rw[h.out n (.inl h1)];exact hn
 ·by_cases h2:n<s'.next
  ·rw[hf n (by omega) h2] at hn;cases hn
  ·rw[h.out n (.inr (by omega))];exact hn
variable {w1 w2:World}
theorem Ext.trans{G:Nat->Prop}{s s1 s2:St}{ρ ρ1 ρ2:Ren}(hw:WF s)(m1:aA s s1)(m2:aA s1 s2)(h:Ext G s s1 ρ ρ1 w w1)(k:Ext G s1 s2 ρ1 ρ2 w1 w2):Ext G s s2 ρ ρ2 w w2 where
 out:=fun n hn=>by
  rcases hn with hn|hn
  ·rw[k.out n (.inl (Nat.lt_of_lt_of_le hn m1.next)),h.out n (.inl hn)]
  ·rw[k.out n (.inr hn),h.out n (.inr (Nat.le_trans m2.next hn))]
 rep:=k.rep
 frame:=fun b hb hn=>by
  rw[k.frame b (Nat.lt_of_lt_of_le hb h.size) ?_,h.frame b hb hn];intro n p hG hl hp;by_cases h1:n<s.next
  ·exact hn n p hG (m1.live h1 hl) (by rw[<-h.out n (.inl h1)];exact hp)
  ·by_cases h2:n<s1.next
   ·rcases h.fresh n p (by omega) h2 hl hp with h3|⟨m,q,hGm,_,hlm,hq,e⟩
    ·omega
    ·rw[<-e];exact hn m q hGm hlm hq
   ·exact absurd ((m1.wf hw).none n (by omega)) hl
 size:=Nat.le_trans h.size k.size
 os:=k.os.trans h.os
 tape:=k.tape.trans h.tape
 output:=k.output.trans h.output
 fresh:=fun n p h1 h2 hl hp=>by
  by_cases h3:n<s1.next
  ·exact h.fresh n p h1 h3 (m2.live h3 hl) (by rw[<-k.out n (.inl h3)];exact hp)
  ·rcases k.fresh n p (by omega) h2 hl hp with h4|⟨m,q,hGm,hm,hlm,hq,e⟩
   ·exact .inl (Nat.le_trans h.size h4)
   ·by_cases h5:m<s.next
    ·exact .inr ⟨m,q,hGm,h5,m1.live h5 hlm,by rw[<-h.out m (.inl h5)];exact hq,e⟩
    ·rcases h.fresh m q (by omega) hm hlm hq with h6|⟨m',q',a,b,c,d,e'⟩
     ·exact .inl (by omega)
     ·exact .inr ⟨m',q',a,b,c,d,by omega⟩
structure Gok(G:Nat->Prop)(s:St):Prop where
 fp:∀n∈s.fp,G n
 own:∀n,s.thr<=n->n<s.next->G n
theorem Gok.back{G:Nat->Prop}{s s':St}(h:Gok G s')(m:aA s s'):Gok G s:=
 ⟨fun n hn=>h.fp n (m.fp n hn),fun n h1 h2=>h.own n (by rw[m.thr];exact h1) (Nat.lt_of_lt_of_le h2 m.next)⟩
theorem bg.left{ρ:Ren}{s s1 s2:St}(h:bg ρ s s2)(m:aA s1 s2):bg ρ s s1:=fun n h1 h2=>h n h1 (Nat.lt_of_lt_of_le h2 m.next)
theorem bg.right{G:Nat->Prop}{ρ ρ1:Ren}{s s1 s2:St}(h:bg ρ s s2)(m:aA s s1)(e:Ext G s s1 ρ ρ1 w w1):bg ρ1 s1 s2:=fun n h1 h2=>by
 rw[e.out n (.inr h1)];exact h n (Nat.le_trans m.next h1) h2
theorem gI(s:St)(n:Nat):s.bJ n=cond (n.blt s.thr) (cond (s.fp.contains n) s {s with fp:=n::s.fp}) s:=by cases s;rfl
theorem iU(s:St)(n:Nat):s.mark n=cond (n.blt s.thr) (cond (s.wr.contains n) s {s with wr:=n::s.wr}) s:=by cases s;rfl
theorem fN(s:St)(n:Nat):(s.bJ n).heap=s.heap:=by rw[gI];cases n.blt s.thr<;>cases s.fp.contains n<;>rfl
theorem dk(s:St)(n:Nat):(s.bJ n).next=s.next:=by rw[gI];cases n.blt s.thr<;>cases s.fp.contains n<;>rfl
theorem fD(s:St)(n:Nat):(s.bJ n).thr=s.thr:=by rw[gI];cases n.blt s.thr<;>cases s.fp.contains n<;>rfl
theorem nE(s:St)(n:Nat):(s.bJ n).wr=s.wr:=by rw[gI];cases n.blt s.thr<;>cases s.fp.contains n<;>rfl
theorem nD(s:St)(n m:Nat)(h:m∈s.fp):m∈(s.bJ n).fp:=by rw[gI];cases n.blt s.thr<;>cases s.fp.contains n<;>simp[h]
theorem rM(s:St)(n:Nat)(h:n<s.thr):n∈(s.bJ n).fp:=by
 have:n.blt s.thr=true:=by simpa [Nat.blt_eq] using h
 rw[gI,this]
 cases hc:s.fp.contains n with
 |false=>simp
 |true=>simpa using hc
theorem s9(s:St)(n m:Nat)(h:m∈(s.bJ n).fp):m∈s.fp\/(m=n/\n<s.thr):=by
 rw[gI] at h
 cases hb:n.blt s.thr with
 |false=>rw[hb] at h;exact .inl h
 |true=>
  rw[hb] at h
  have hlt:n<s.thr:=by simpa [Nat.blt_eq] using hb
  cases hc:s.fp.contains n with
  |true=>rw[hc] at h;exact .inl h
  |false=>
   rw[hc] at h
   simp only[cond_true,cond_false,List.mem_cons] at h
   rcases h with h|h
   ·exact .inr ⟨h,hlt⟩
   ·exact .inl h
theorem Cb(s:St)(n:Nat):(s.mark n).heap=s.heap:=by rw[iU];cases n.blt s.thr<;>cases s.wr.contains n<;>rfl
theorem Cc(s:St)(n:Nat):(s.mark n).next=s.next:=by rw[iU];cases n.blt s.thr<;>cases s.wr.contains n<;>rfl
theorem Ec(s:St)(n:Nat):(s.mark n).thr=s.thr:=by rw[iU];cases n.blt s.thr<;>cases s.wr.contains n<;>rfl
theorem pI(s:St)(n:Nat):(s.mark n).fp=s.fp:=by rw[iU];cases n.blt s.thr<;>cases s.wr.contains n<;>rfl
theorem Gp(s:St)(n m:Nat)(h:m∈s.wr):m∈(s.mark n).wr:=by rw[iU];cases n.blt s.thr<;>cases s.wr.contains n<;>simp[h]
theorem Gn(s:St)(n:Nat)(h:n<s.thr):n∈(s.mark n).wr:=by
 have:n.blt s.thr=true:=by simpa [Nat.blt_eq] using h
 rw[iU,this]
 cases hc:s.wr.contains n with
 |false=>simp
 |true=>simpa using hc
theorem Cd(s:St)(n m:Nat)(h:m∈(s.mark n).wr):m∈s.wr\/(m=n/\n<s.thr):=by
 rw[iU] at h
 cases hb:n.blt s.thr with
 |false=>rw[hb] at h;exact .inl h
 |true=>
  rw[hb] at h
  have hlt:n<s.thr:=by simpa [Nat.blt_eq] using hb
  cases hc:s.wr.contains n with
  |true=>rw[hc] at h;exact .inl h
  |false=>
   rw[hc] at h
   simp only[cond_true,cond_false,List.mem_cons] at h
   rcases h with h|h
   ·exact .inr ⟨h,hlt⟩
   ·exact .inl h
theorem cA(s:St)(n:Nat):aA s (s.bJ n):=
 ⟨fD s n,by rw[dk];exact Nat.le_refl _,nD s n,fun m h=>by rw[nE];exact h,fun m _ _ _=>by rw[fN],fun m _ h=>by rw[fN];exact h,fun h=>⟨fun m hm=>by rw[fN];rw[dk] at hm;exact h.none m hm,by rw[dk];exact h.lt,by rw[dk,fD];exact h.thr⟩,fun h m hm=>by rw[nE] at hm;exact nD s n m (h m hm),fun h m hm=>by
  rw[fD];rcases s9 s n m hm with h1|⟨rfl,h1⟩
  ·exact h m h1
  ·exact h1⟩
theorem gO{G:Nat->Prop}{s:St}{ρ:Ren}(n:Nat)(h:aV G ρ s.heap w):Ext G s (s.bJ n) ρ ρ w w:=
 ⟨fun _ _=>rfl,by rw[fN];exact h,fun _ _ _=>rfl,Nat.le_refl _,rfl,rfl,rfl,fun m p h1 h2 _ _=>by rw[dk] at h2;omega⟩
theorem bB{G:Nat->Prop}{s:St}{ρ:Ren}(h:aV G ρ s.heap w):Ext G s s ρ ρ w w:=
 ⟨fun _ _=>rfl,h,fun _ _ _=>rfl,Nat.le_refl _,rfl,rfl,rfl,fun m p h1 h2 _ _=>by omega⟩
theorem cL{s:St}(hw:WF s)(h:Live s.heap n):n<s.next:=by
 rcases Nat.lt_or_ge n s.next with h1|h1
 ·exact h1
 ·exact absurd (hw.none n h1) h
theorem gR{G:Nat->Prop}{s:St}(hw:WF s)(hl:Live s.heap n)(h:Gok G (s.bJ n)):G n:=by
 rcases Nat.lt_or_ge n s.thr with h1|h1
 ·exact h.fp n (rM s n h1)
 ·exact h.own n (by rw[fD];exact h1) (by rw[dk];exact cL hw hl)
theorem pB{s:St}{b:Blk}(h:s.tQ n=some b):s.heap.get n=some b/\b.lp=none:=by
 unfold St.tQ at h
 split at h
 ·rename_i c hc
  split at h
  ·rename_i hl;cases h;exact⟨hc,hl⟩
  ·cases h
 ·cases h
theorem look_eq{s s':St}{b:Blk}(h:s.look n=some (b,s')):s.heap.get n=some b/\s'=s.bJ n/\b.lp=none:=by
 unfold St.look at h
 cases hg:s.tQ n with
 |none=>rw[hg] at h;cases h
 |some c=>
  rw[hg] at h
  simp only[Option.some.injEq,Prod.mk.injEq] at h
  obtain⟨h1,h2⟩:=pB hg;exact⟨by rw[<-h.1];exact h1,h.2.symm,by rw[<-h.1];exact h2⟩
def Ren.upd(ρ:Ren)(n:Nat)(p:Pl):Ren:=fun m=>if m=n then some p else ρ m
theorem Ren.oX{ρ:Ren}(p:Pl)(h:ρ n=none):ρ.le (ρ.upd n p):=fun m q hm=>by
 unfold Ren.upd;split
 ·rename_i e;subst e;rw[h] at hm;cases hm
 ·exact hm
theorem mh{s s':St}{b:Blk}(h:s.new b=some (n,s')):n=s.next/\s.next<1000000000/\s'={s with heap:=s.heap.put 40 s.next (some b),next:=s.next+1}:=by
 have h:cond (s.next.blt 1000000000) (some (s.next,{s with heap:=s.heap.put 40 s.next (some b),next:=s.next+1})) none=some (n,s'):=by cases s;exact h
 cases hb:s.next.blt 1000000000 with
 |false=>rw[hb] at h;cases h
 |true=>
  rw[hb] at h
  simp only[cond_true,Option.some.injEq,Prod.mk.injEq] at h
  exact⟨h.1.symm,by simpa [Nat.blt_eq] using hb,h.2.symm⟩
theorem iQ{s:St}(b:Option Blk)(h:s.next<1000000000)(m:Nat):(s.heap.put 40 s.next b).get m=if m=s.next then b else s.heap.get m:=
 Tr.l6 40 _ _ _ _ (by omega)
theorem bG{s s':St}{b:Blk}(h:s.new b=some (n,s')):aA s s':=by
 obtain⟨rfl,hlt,rfl⟩:=mh h;refine⟨rfl,Nat.le_succ _,fun _ h=>h,fun _ h=>h,fun m h1 _ _=>?_,fun m h1 h2=>?_,fun hw=>⟨fun m hm=>?_,hlt,Nat.le_succ_of_le hw.thr⟩,fun h=>h,fun h=>h⟩
 ·dsimp only;rw[iQ _ hlt,if_neg (by omega)]
 ·dsimp only;rw[iQ _ hlt,if_neg (by omega)];exact h2
 ·dsimp only at hm ⊢;rw[iQ _ hlt,if_neg (by omega)];exact hw.none m (by omega)
theorem D_{h:Tr Blk}(hl:Live h n):∃b,h.get n=some b:=by
 cases hg:h.get n with
 |none=>exact absurd hg hl
 |some b=>exact⟨b,rfl⟩
variable {cap:Nat}
theorem qP{G:Nat->Prop}{s s':St}{b:Blk}{ρ:Ren}{ob:Obj}(h:s.new b=some (n,s'))(hr:aV G ρ s.heap w)(hf:bg ρ s s')
  (hheap:w'.heap=w.heap.push ob) (hos:w'.os=w.os) (hta:w'.tape=w.tape) (hou:w'.output=w.output) (hb:ie (ρ.upd n ⟨w.heap.size,0,cap⟩) w' n b):
  Ext G s s' ρ (ρ.upd n ⟨w.heap.size,0,cap⟩) w w':=by
 obtain⟨rfl,hlt,rfl⟩:=mh h;have hn:ρ s.next=none:=hf s.next (Nat.le_refl _) (Nat.lt_succ_self _);have hle:=Ren.oX ⟨w.heap.size,0,cap⟩ hn;have hold:∀k,k<w.heap.size->w'.heap[k]?=w.heap[k]?:=fun k hk=>by rw[hheap,Array.getElem?_push,if_neg (by omega)]
 refine⟨fun m hm=>?_,⟨?_,?_,hr.tz.eN fun g hg=>hold g (hr.tz.lt hg),fun m p hG hl hp e=>?_⟩,fun k hk _=>hold k hk,by rw[hheap];simp,hos,hta,hou,fun m p h1 h2 _ hp=>?_⟩
 ·unfold Ren.upd;dsimp only at hm;rw[if_neg (by omega)]
 ·intro m c hG hc
  dsimp only at hc;rw[iQ _ hlt] at hc
  split at hc
  ·rename_i e
   subst e
   cases hc
   exact hb
  ·have hbm:=hr.rep m c hG hc
   exact hbm.eN hle fun p hp=>hold _ (hbm.lt hp)
 ·have lt:∀m q,G m->Live s.heap m->ρ m=some q->q.blk<w.heap.size:=fun m q hG hl hq=>by
   obtain⟨c,hc⟩:=D_ hl;exact(hr.rep m c hG hc).lt hq
  have old:∀m,Live (s.heap.put 40 s.next (some b)) m->m≠s.next->Live s.heap m:=fun m hl hne e=>hl (by rw[iQ _ hlt,if_neg hne];exact e)
  intro m k hGm hGk hlm hlk hne p q hp hq;unfold Ren.upd at hp hq
  dsimp only at hlm hlk
  by_cases e1:m=s.next
  ·by_cases e2:k=s.next
   ·omega
   ·rw[if_pos e1] at hp;rw[if_neg e2] at hq
    cases hp
    have:=lt k q hGk (old k hlk e2) hq;dsimp only;omega
  ·by_cases e2:k=s.next
   ·rw[if_neg e1] at hp;rw[if_pos e2] at hq
    cases hq
    have:=lt m p hGm (old m hlm e1) hp;dsimp only;omega
   ·rw[if_neg e1] at hp;rw[if_neg e2] at hq
    exact hr.sep m k hGm hGk (old m hlm e1) (old k hlk e2) hne p q hp hq
 ·unfold Ren.upd at hp
  dsimp only at hl;by_cases e1:m=s.next
  ·rw[if_pos e1] at hp
   cases hp
   have:=hr.tz.lt e;dsimp only at this
   omega
  ·rw[if_neg e1] at hp
   exact hr.off m p hG (fun e2=>hl (by rw[iQ _ hlt,if_neg e1];exact e2)) hp e
 ·dsimp only at h2
  have:m=s.next:=by omega
  unfold Ren.upd at hp
  rw[if_pos this] at hp
  cases hp
  exact .inl (Nat.le_refl _)
theorem pt{G:Nat->Prop}{s s':St}{b:Blk}{ρ:Ren}(h:s.new b=some (n,s'))(hr:aV G ρ s.heap w)(hf:bg ρ s s')(cs:Array Value)(cap:Nat)
  (hheap:w'.heap=w.heap.push (.cells cs b.elem (0,0))) (hos:w'.os=w.os) (hta:w'.tape=w.tape) (hou:w'.output=w.output)
  (hlen:b.cells.length<=cs.size) (hv:∀(i:Nat) (v:LV),b.cells[i]?=some v->∃x,cs[i]?=some x/\VR ρ v x) (hm:∀sz,b.more=some sz->cs.size=cap*sz) (hlp:b.lp=none:=by rfl):
  Ext G s s' ρ (ρ.upd n ⟨w.heap.size,0,cap⟩) w w':=by
 obtain⟨hn',_,hs'⟩:=mh h;have hn:ρ n=none:=by rw[hn'];exact hf s.next (Nat.le_refl _) (by rw[hs'];exact Nat.lt_succ_self _)
 have hle:=Ren.oX ⟨w.heap.size,0,cap⟩ hn;refine qP h hr hf hheap hos hta hou (.ofB (p:=⟨w.heap.size,0,cap⟩) (cs:=cs) hlp ⟨by simp[Ren.upd],by rw[hheap];simp,fun i v hi=>?_,by simpa using hlen,fun sz hz=>by simpa using hm sz hz⟩)
 obtain⟨x,hx,hrx⟩:=hv i v hi;exact⟨x,by simpa using hx,hrx.mono hle⟩
theorem qU{s s':St}(h:s.fresh=some (n,s')):n=s.next/\s.next<1000000000/\s'={s with next:=s.next+1}:=by
 have h:cond (s.next.blt 1000000000) (some (s.next,{s with next:=s.next+1})) none=some (n,s'):=by cases s;exact h
 cases hb:s.next.blt 1000000000 with
 |false=>rw[hb] at h;cases h
 |true=>
  rw[hb] at h
  simp only[cond_true,Option.some.injEq,Prod.mk.injEq] at h
  exact⟨h.1.symm,by simpa [Nat.blt_eq] using hb,h.2.symm⟩
theorem sx{s s':St}(h:s.fresh=some (n,s')):aA s s':=by
 obtain⟨rfl,hlt,rfl⟩:=qU h;exact⟨rfl,Nat.le_succ _,fun _ h=>h,fun _ h=>h,fun m h1 _ _=>rfl,fun m h1 h2=>h2,fun hw=>⟨fun m hm=>hw.none m (Nat.le_of_succ_le hm),hlt,Nat.le_succ_of_le hw.thr⟩,fun h=>h,fun h=>h⟩
theorem uF{G:Nat->Prop}{s s':St}{ρ:Ren}(h:s.fresh=some (n,s'))(hw:WF s)(hr:aV G ρ s.heap w)(hf:bg ρ s s')(q:Pl):Ext G s s' ρ (ρ.upd n q) w w:=by
 obtain⟨rfl,hlt,rfl⟩:=qU h;have hn:ρ s.next=none:=hf s.next (Nat.le_refl _) (Nat.lt_succ_self _);have hle:=Ren.oX q hn;have hne:∀m,Live s.heap m->m≠s.next:=fun m hl e=>hl (e ▸ hw.none s.next (Nat.le_refl _))
 refine⟨fun m hm=>?_,⟨fun m c hG hc=>(hr.rep m c hG hc).eN hle fun _ _=>rfl,fun m k hGm hGk hlm hlk hmk p r hp hq=>?_,hr.tz,fun m p hG hl hp=>?_⟩,fun _ _ _=>rfl,Nat.le_refl _,rfl,rfl,rfl,fun m p h1 h2 hl _=>absurd (hw.none m h1) hl⟩
 ·unfold Ren.upd;dsimp only at hm;rw[if_neg (by omega)]
 ·unfold Ren.upd at hp hq
  rw[if_neg (hne m hlm)] at hp
  rw[if_neg (hne k hlk)] at hq
  exact hr.sep m k hGm hGk hlm hlk hmk p r hp hq
 ·unfold Ren.upd at hp
  rw[if_neg (hne m hl)] at hp
  exact hr.off m p hG hl hp
theorem dX{s:St}(b:Option Blk)(h:n<1000000000)(m:Nat):(s.set n b).heap.get m=if m=n then b else s.heap.get m:=by
 have e:(s.set n b).heap=s.heap.put 40 n b:=by
  show((s.bJ n).mark n).heap.put 40 n b=_
  rw[Cb,fN]
 rw[e];exact Tr.l6 40 _ _ _ _ (by omega)
theorem cH(s:St)(n:Nat)(b:Option Blk):(s.set n b).next=s.next:=by show((s.bJ n).mark n).next=_;rw[Cc,dk]
theorem pS(s:St)(n:Nat)(b:Option Blk):(s.set n b).thr=s.thr:=by show((s.bJ n).mark n).thr=_;rw[Ec,fD]
theorem fm{s:St}(b:Option Blk)(h:n<1000000000)(hl:Live s.heap n)(hn:n<s.next):aA s (s.set n b):=by
 refine⟨pS s n b,by rw[cH];exact Nat.le_refl _,fun m hm=>?_,fun m hm=>?_,fun m h1 h2 h3=>?_,fun m h1 h2=>?_,fun hw=>⟨fun m hm=>?_,by rw[cH];exact hw.lt,by rw[cH,pS];exact hw.thr⟩,fun hq m hm=>?_,fun hq m hm=>?_⟩
 ·show m∈((s.bJ n).mark n).fp
  rw[pI];exact nD s n m hm
 ·show m∈((s.bJ n).mark n).wr
  exact Gp _ n m (by rw[nE];exact hm)
 ·rw[dX b h]
  split
  ·rename_i e
   subst e;refine absurd ?_ h3;show m∈((s.bJ m).mark m).wr
   exact Gn _ m (by rw[fD];exact h2)
  ·rfl
 ·rw[dX b h,if_neg (fun e:m=n=>hl (e ▸ h2))];exact h2
 ·rw[cH] at hm
  rw[dX b h,if_neg (by omega)];exact hw.none m hm
 ·have hm':m∈((s.bJ n).mark n).wr:=hm
  show m∈((s.bJ n).mark n).fp
  rw[pI];rcases Cd _ n m hm' with h1|⟨rfl,h1⟩
  ·rw[nE] at h1;exact nD s n m (hq m h1)
  ·rw[fD] at h1;exact rM s m h1
 ·have hm':m∈((s.bJ n).mark n).fp:=hm
  rw[pI] at hm'
  rw[pS];rcases s9 s n m hm' with h1|⟨rfl,h1⟩
  ·exact hq m h1
  ·exact h1
theorem l7{G:Nat->Prop}{s:St}(hw:WF s){b:Option Blk}(hl:Live s.heap n)(h:Gok G (s.set n b)):G n:=by
 rcases Nat.lt_or_ge n s.thr with h1|h1
 ·refine h.fp n ?_
  show n∈((s.bJ n).mark n).fp
  rw[pI];exact rM s n h1
 ·exact h.own n (by rw[pS];exact h1) (by rw[cH];exact cL hw hl)
theorem wD{G:Nat->Prop}{s:St}{b:Blk}{p:Pl}{ρ:Ren}(hn:n<1000000000)(hlt:n<s.next)(hl:Live s.heap n)(hG:G n)(hr:aV G ρ s.heap w)(hp:ρ n=some p)(hb:ie ρ w' n b)
  (hother:∀k,k≠p.blk->w'.heap[k]?=w.heap[k]?) (hsz:w'.heap.size=w.heap.size) (hos:w'.os=w.os) (hta:w'.tape=w.tape) (hou:w'.output=w.output):
  Ext G s (s.set n (some b)) ρ ρ w w':=by
 have old:∀m,Live (s.set n (some b)).heap m->Live s.heap m:=fun m h e=>by
  by_cases e1:m=n
  ·exact hl (e1 ▸ e)
  ·exact h (by rw[dX _ hn,if_neg e1];exact e)
 refine⟨fun _ _=>rfl,⟨?_,?_,hr.tz.eN fun g hg=>hother g fun e=>hr.off n p hG hl hp (by rw[<-e];exact hg),fun m q hGm hlm hq=>hr.off m q hGm (old m hlm) hq⟩,fun k hk hne=>hother k ?_,by rw[hsz];exact Nat.le_refl _,hos,hta,hou,fun m p h1 h2 _ _=>by rw[cH] at h2;omega⟩
 ·intro m c hGm hc
  rw[dX _ hn] at hc
  split at hc
  ·rename_i e
   subst e
   cases hc
   exact hb
  ·rename_i e
   have hbm:=hr.rep m c hGm hc;refine hbm.eN (fun _ _ h=>h) fun q hq=>hother _ ?_
   exact hr.sep m n hGm hG (by unfold Live;rw[hc];simp) hl e q p hq hp
 ·intro m k hGm hGk hlm hlk hne
  exact hr.sep m k hGm hGk (old m hlm) (old k hlk) hne
 ·intro e
  exact hne n p hG hl hp e.symm
theorem Gc{G:Nat->Prop}{s:St}{b:Blk}{p:Pl}{cs:Array Value}{ρ:Ren}(hn:n<1000000000)(hlt:n<s.next)(hl:Live s.heap n)(hG:G n)(hr:aV G ρ s.heap w)(hb:lE ρ w' n b p cs)
  (hother:∀k,k≠p.blk->w'.heap[k]?=w.heap[k]?) (hsz:w'.heap.size=w.heap.size) (hos:w'.os=w.os) (hta:w'.tape=w.tape) (hou:w'.output=w.output) (hlp:b.lp=none:=by rfl):
  Ext G s (s.set n (some b)) ρ ρ w w':=wD hn hlt hl hG hr hb.at_ (.ofB hlp hb) hother hsz hos hta hou
end Go.Proofs.YtdjjlghlcffflaaGreatDoor.Ev
