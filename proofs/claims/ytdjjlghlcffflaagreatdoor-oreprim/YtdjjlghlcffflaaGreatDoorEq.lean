/- Own. -/
import Derived.Test.YtdjjlghlcffflaaGreatDoorDj
import Derived.OrdersIn
import Derived.CallsIn
set_option linter.unusedVariables false
set_option linter.unusedSimpArgs false
set_option maxHeartbeats 8000000
set_option maxRecDepth 100000
namespace Go.Proofs.YtdjjlghlcffflaaGreatDoor
open Go.RowKit
structure Ax where
 is:(Nat->Prop)->Value->World->Prop
 later:∀{X:Nat->Prop} {v:Value} {w w':World},is X v w->Below w.heap.size w w'->is X v w'
 add:∀{X:Nat->Prop} {v:Value} {w:World} {b:Nat},is X v w->w.heap.size<=b->is (fun c=>X c\/c=b) v w
 sub:∀{X Y:Nat->Prop} {v:Value} {w:World},is X v w->(∀b,Y b->X b)->is Y v w
instance:Inhabited Ax:=⟨⟨fun _ _ _=>True,fun _ _=>trivial,fun _ _=>trivial,fun _ _=>trivial⟩⟩
def Ax.val(u:Value):Ax:=⟨fun _ v _=>v=u,fun h _=>h,fun h _=>h,fun h _=>h⟩
def Ax.var(lo:Nat)(o:Obj):Ax:=⟨fun X v w=>∃b,v=.pointer (some ⟨b,0,none⟩)/\lo<=b/\w.heap[b]?=some o/\¬X b,fun⟨b,h1,h2,h3,h4⟩ hb=>⟨b,h1,h2,(hb.block b (Array.getElem?_eq_some_iff.1 h3).1).trans h3,h4⟩,
 fun {X v w c} ⟨b,h1,h2,h3,h4⟩ hc=>⟨b,h1,h2,h3,fun h=>by
  rcases h with h|h
  ·exact h4 h
  ·have:=(Array.getElem?_eq_some_iff.1 h3).1
   omega⟩,fun⟨b,h1,h2,h3,h4⟩ hs=>⟨b,h1,h2,h3,fun h=>h4 (hs b h)⟩⟩
structure vE(ops:Array Oper)(dl:List (Nat×Nat))(al:List Nat)(ans:List Ax)(t0:Array Value)(i:Nat)(W:World)(X:Nat->Prop)(ρ:Operand->Value)(v:World):Prop where
 b:Below W.heap.size W v
 xb:∀c,X c->W.heap.size<=c/\c<v.heap.size
 dep:∀j d,(j,d)∈dl->waits ops i j=true->al.contains j=false->(ans.getD j default).is X (ρ (.tmp d)) v
 depA:∀j d,(j,d)∈dl->waits ops i j=true->(ans.getD j default).is (fun _=>False) (ρ (.tmp d)) v
 old:∀s,s∉dl.map Prod.snd->ρ (.tmp s)=t0.getD s undef
 pre:∀s k,(k,s)∈dl->waits ops k i=true->ρ (.tmp s)=t0.getD s undef
 con:∀u,ρ (.const u)=u
 fn:∀f,ρ (.func f)=.func (.func f) #[] #[]
def rQ(P:Program)(Q:Exit->Act->World->Prop)(W:World)(ops:Array Oper)(t0:Array Value)(dl:List (Nat×Nat))(al:List Nat)(ans:List Ax)(i:Nat)(o:Oper):Prop:=
 ∀(a:Act) (w:World) (X:Nat->Prop),vE ops dl al ans t0 i W X a.eval w->o.wp P a w (fun a' w'=>∃v,a'=a.put o.dst v/\(ans.getD i default).is X v w'/\Below w.heap.size w w'/\(al.contains i=true->v=.pointer (some ⟨w.heap.size,0,none⟩)/\w.heap.size<w'.heap.size)) Q
def XS(dl:List (Nat×Nat))(al:List Nat)(listed:Array Bool)(vals:Nat->Value)(i:Nat)(b:Nat):Prop:=∃y∈dl,y.1≠i/\listed.getD y.1 false=true/\al.contains y.1=true/\vals y.1=.pointer (some ⟨b,0,none⟩)
def XA(dl:List (Nat×Nat))(al:List Nat)(vals:Nat->Value)(i:Nat)(b:Nat):Prop:=∃y∈dl,y.1≠i/\al.contains y.1=true/\vals y.1=.pointer (some ⟨b,0,none⟩)
def t_(ops:Array Oper)(dl:List (Nat×Nat))(gl:List (Nat×Bool))(N:Nat):Bool:=(List.range N).all fun i=>match ops[i]? with
 |some o=>(match o.guard with|none=>true|some x=>gl.contains x&&waits ops i x.1&&decide (x.1<N))&&(match o.dst with|some d=>dl.contains (i,d)|none=>false)
 |none=>false
variable {N:Nat}
theorem jR{ops:Array Oper}{dl:List (Nat×Nat)}{gl:List (Nat×Bool)}(h:t_ ops dl gl N=true)(i:Nat)(hi:i<N)(o:Oper)(ho:ops[i]?=some o):(o.guard=none\/∃j b,o.guard=some (j,b)/\(j,b)∈gl/\waits ops i j=true/\j<N)/\∃d,o.dst=some d/\(i,d)∈dl:=by
 have h1:=List.all_eq_true.1 h i (List.mem_range.2 hi);simp only[ho,Bool.and_eq_true] at h1
 refine⟨?_,?_⟩
 ·cases hg:o.guard with
  |none=>exact .inl rfl
  |some x=>
   obtain⟨j,b⟩:=x;have h2:=h1.1;simp only[hg,Bool.and_eq_true,decide_eq_true_eq] at h2
   exact .inr ⟨j,b,rfl,by simpa using h2.1.1,h2.1.2,h2.2⟩
 ·cases hd:o.dst with
  |none=>simp[hd] at h1
  |some d=>exact⟨d,rfl,by simpa [hd] using h1.2⟩
def z_(ans:List Ax):List (Nat×Bool)->Prop
 | []=>True
 |x::l=>(∀X v w,(ans.getD x.1 default).is X v w->v=.bool x.2)/\z_ ans l
theorem tu{ans:List Ax}:∀{l:List (Nat×Bool)},z_ ans l->∀x∈l,∀X v w,(ans.getD x.1 default).is X v w->v=.bool x.2
 | [],_,x,hx=>by cases hx
 |y::l,h,x,hx=>by
  rcases List.mem_cons.1 hx with h1|h1
  ·subst h1;exact h.1
  ·exact tu h.2 x h1
variable {id:Nat} {W:World}
theorem oM{P:Program}{ops:Array Oper}{Q:Exit->Act->World->Prop}{a0:Act}(N:Nat)(dl:List (Nat×Nat))(al:List Nat)(gl:List (Nat×Bool))(ans:List Ax)(hm:P.follows .mixedOrders=true)(ha:nR ops=true)(hop:t_ ops dl gl N=true)(hgl:z_ ans gl)(hl:l_ ops N=true)(hf:(dl.map Prod.fst).Nodup)(hs:(dl.map Prod.snd).Nodup)(hz:(dl.all fun x=>decide (x.2<a0.tmps.size)&&decide (x.1<N))=true)
  (hstep:o7 (rQ P Q W ops a0.tmps dl al ans) N 0 ops.toList)
  (hend:∀(vals:Nat->Value) (w:World),Below W.heap.size W w->(∀x∈dl,(ans.getD x.1 default).is (XA dl al vals x.1) (vals x.1) w)->Ends P Q ops N ⟨dl.foldl (fun t x=>t.setIfInBounds x.2 (vals x.1)) a0.tmps,a0.defers⟩ w):(Code.region id ops true).wp P Q a0 W:=by
 have hz':∀x∈dl,x.2<a0.tmps.size/\x.1<N:=fun x hx=>by simpa using List.all_eq_true.1 hz x hx
 have hNs:N<=ops.size:=by
  unfold l_ at hl
  simp only[Bool.or_eq_true,Bool.and_eq_true,decide_eq_true_eq] at hl
  omega
 have hNu:ops.size<=N+1:=by
  unfold l_ at hl
  simp only[Bool.or_eq_true,Bool.and_eq_true,decide_eq_true_eq] at hl
  omega
 have hall:∀(listed:Array Bool) (vals:Nat->Value) (l:List (Nat×Nat)) (t:Array Value),(∀x∈l,listed.getD x.1 false=true)->lay listed vals l t=l.foldl (fun t x=>t.setIfInBounds x.2 (vals x.1)) t:=by
  intro listed vals l;induction l with
  |nil=>intro t _;rfl
  |cons x l ih=>
   intro t h;obtain⟨i,d⟩:=x;rw[lay,if_pos (h (i,d) (by simp)),ih _ fun y hy=>h y (by simp[hy])]
   rfl
 have tf:∀{l:Array Bool} {i:Nat},i<l.size->l.getD i true=l.getD i false:=fun {l i} hi=>by simp[hi]
 have hin:∀{i:Nat} {o:Oper},ops[i]?=some o->i<ops.size:=fun ho=>(Array.getElem?_eq_some_iff.1 ho).1
 have hxa:∀(listed:Array Bool) (vals:Nat->Value) (i b:Nat),XA dl al vals i b->(∀x∈dl,listed.getD x.1 false=true)->XS dl al listed vals i b:=fun listed vals i b ⟨y,h1,h2,h3,h4⟩ h=>⟨y,h1,h2,h y h1,h3,h4⟩
 refine qy hm (fun listed a w=>listed.size=ops.size/\(∀i o,ops[i]?=some o->listed.getD i false=true->∀e∈o.after,Region.binds .any e=true->listed.getD e.on false=true)/\(if listed.getD N false=true then Q .normal a w else Below W.heap.size W w/\∃vals,a=⟨lay listed vals dl a0.tmps,a0.defers⟩/\(∀x∈dl,listed.getD x.1 false=true->(ans.getD x.1 default).is (XS dl al listed vals x.1) (vals x.1) w)/\∀x∈dl,listed.getD x.1 false=true->al.contains x.1=true->∃b,vals x.1=.pointer (some ⟨b,0,none⟩)/\W.heap.size<=b/\b<w.heap.size)) ha ?_ ?_ ?_
 ·rintro listed a w ⟨h1,h2,h3⟩ hlst
  split at h3
  ·exact h3
  ·rename_i hn
   have hsz:ops.size=N:=by
    rcases Ju N ops.size with h|h
    ·exact absurd (by rw[<-tf (by omega)];exact hlst N h) hn
    ·omega
   obtain⟨hb,vals,rfl,hv,hva⟩:=h3;have h5:∀x∈dl,listed.getD x.1 false=true:=fun x hx=>by
    rw[<-tf (by have:=(hz' x hx).2;omega)]
    exact hlst x.1 (by have:=(hz' x hx).2;omega)
   have:=(hend vals w hb fun x hx=>(ans.getD x.1 default).sub (hv x hx (h5 x hx)) fun b hb'=>hxa listed vals x.1 b hb' h5).out
   rw[o0,Array.getElem?_eq_none (by omega)] at this
   rw[hall listed vals dl _ h5];exact this
 ·rintro listed a w ⟨h1,h2,h3⟩ i o ho hi hdep
  have hi':listed.getD i false=false:=by rw[<-tf (by rw[h1];exact hin ho)];exact hi
  have hlN:∀j,j<N->ops.size=N+1->waits ops N j=true:=fun j hj hsz=>by
   unfold l_ at hl
   simp only[Bool.or_eq_true,Bool.and_eq_true,decide_eq_true_eq] at hl
   rcases hl with h|⟨_,h⟩
   ·omega
   ·exact List.all_eq_true.1 h j (List.mem_range.2 hj)
  have hNn:listed.getD N false=false:=by
   cases hc:listed.getD N false with
   |false=>rfl
   |true=>
    exfalso;have hNlt:N<ops.size:=by
     rcases Ju N ops.size with h|h
     ·exact h
     ·simp[Array.getElem?_eq_none (show listed.size<=N by omega)] at hc
    rcases Ju i N with h|h
    ·obtain⟨o',ho',e,he,h4,h5⟩:=eV (hlN i h (by omega))
     have:=h2 N o' ho' hc e he h5;rw[h4,hi'] at this
     cases this
    ·have:=hin ho
     obtain rfl:i=N:=by omega
     rw[hi'] at hc
     cases hc
  have hne:∀x:Nat,listed.getD x false=true->x≠i:=fun x hx e=>by
   rw[e,hi'] at hx
   cases hx
  have hcl:∀k o',ops[k]?=some o'->(listed.setIfInBounds i true).getD k false=true->∀e∈o'.after,Region.binds .any e=true->(listed.setIfInBounds i true).getD e.on false=true:=by
   intro k o' ho' hk e he hbn;have hup:∀x,listed.getD x false=true->(listed.setIfInBounds i true).getD x false=true:=fun x hx=>by
    have hxi:=hne x hx;simpa [Array.getElem?_setIfInBounds,Ne.symm hxi] using hx
   by_cases hki:k=i
   ·subst hki
    rw[ho] at ho'
    cases ho'
    exact hup _ (hdep e he hbn)
   ·exact hup _ (h2 k o' ho' (by simpa [Array.getElem?_setIfInBounds,Ne.symm hki] using hk) e he hbn)
  rw[if_neg (by rw[hNn];decide)] at h3
  obtain⟨hb,vals,rfl,hv,hva⟩:=h3;unfold wpOp;simp only[ho];rcases Ju i N with hiN|hiN
  ·obtain⟨hg,d,hd,hmem⟩:=jR hop i hiN o ho
   have hst:=mF _ 0 hstep i o (by simpa using ho) (by omega)
   rw[Nat.zero_add] at hst
   have hdp:∀j e,(j,e)∈dl->waits ops i j=true->listed.getD j false=true/\(ans.getD j default).is (XS dl al listed vals j) ((lay listed vals dl a0.tmps).getD e undef) w:=fun j e hje hw=>by
    obtain⟨o',ho',x,hx,hxj,hbn⟩:=eV hw;rw[ho] at ho'
    cases ho'
    have hlj:listed.getD j false=true:=by rw[<-hxj];exact hdep x hx hbn
    refine⟨hlj,?_⟩;rw[wO listed vals j e hlj dl _ hs hje (hz' (j,e) hje).1];exact hv (j,e) hje hlj
   have hst':=hst ⟨lay listed vals dl a0.tmps,a0.defers⟩ w (XS dl al listed vals i) ⟨hb,fun c ⟨y,g1,g2,g3,g4,g5⟩=>by
    obtain⟨b,k1,k2,k3⟩:=hva y g1 g3 g4;rw[g5] at k1
    cases k1
    exact⟨k2,k3⟩,fun j e hje hw haj=>(ans.getD j default).sub (hdp j e hje hw).2 fun b ⟨y,g1,g2,g3,g4,g5⟩=>⟨y,g1,(fun ej=>by rw[ej,haj] at g4;cases g4),g3,g4,g5⟩,
    fun j e hje hw=>(ans.getD j default).sub (hdp j e hje hw).2 fun b hb'=>False.elim hb',fun s hs'=>jA listed vals s dl _ hs',fun s k hks hw=>by
    obtain⟨o',ho',x,hx,hxj,hbn⟩:=eV hw;have hk:listed.getD k false=false:=by
     cases hc:listed.getD k false with
     |false=>rfl
     |true=>
      have:=h2 k o' ho' hc x hx hbn;rw[hxj,hi'] at this
      cases this
    exact kp listed vals k s hk dl _ hs hks,fun _=>rfl,fun _=>rfl⟩
   have hw:Region.wanted o (yielded ops (lay listed vals dl a0.tmps))=true:=by
    rcases hg with hg|⟨j,b,hg,hjb,hwj,hjN⟩
    ·simp[Region.wanted,hg]
    ·obtain⟨oj,hoj⟩:∃oj,ops[j]?=some oj:=⟨_,Array.getElem?_eq_getElem (by omega)⟩
     obtain⟨-,dj,hdj,hmj⟩:=jR hop j hjN oj hoj;have h7:=tu hgl (j,b) hjb _ _ _ (hdp j dj hmj hwj).2;have h8:dj<(lay listed vals dl a0.tmps).size:=by rw[ri];exact(hz' (j,dj) hmj).1
     have h9:(lay listed vals dl a0.tmps)[dj]?=some (.bool b):=by
      rw[Array.getElem?_eq_getElem h8];rw[Array.getD_eq_getD_getElem?,Array.getElem?_eq_getElem h8] at h7
      exact congrArg some h7
     simp[Region.wanted,hg,yielded,hoj,hdj,h9]
   rw[if_pos hw];refine .inl (Oper.wp_mono (fun a' w' hh=>?_) hst')
   obtain⟨v,rfl,hvv,hb',hal⟩:=hh;refine⟨by simpa using h1,hcl,?_⟩
   have hNi:(listed.setIfInBounds i true).getD N false=false:=by
    have:i≠N:=by omega
    simpa [Array.getElem?_setIfInBounds,this] using hNn
   rw[if_neg (by rw[hNi];decide)]
   have hlo:∀x:Nat,x≠i->(listed.setIfInBounds i true).getD x false=listed.getD x false:=fun x hx=>by simp[Array.getElem?_setIfInBounds,Ne.symm hx]
   have hXo:∀x b,x≠i->XS dl al (listed.setIfInBounds i true) (fun k=>if k=i then v else vals k) x b->XS dl al listed vals x b\/(al.contains i=true/\b=w.heap.size):=by
    rintro x b hxi ⟨y,g1,g2,g3,g4,g5⟩;by_cases hyi:y.1=i
    ·right
     have ha':al.contains i=true:=by rw[<-hyi];exact g4
     simp only[hyi,if_true] at g5
     obtain⟨e1,-⟩:=hal ha';rw[e1] at g5
     cases g5
     exact⟨ha',rfl⟩
    ·left
     rw[hlo y.1 hyi] at g3
     simp only[hyi,if_false] at g5
     exact⟨y,g1,g2,g3,g4,g5⟩
   have hXi:∀b,XS dl al (listed.setIfInBounds i true) (fun k=>if k=i then v else vals k) i b->XS dl al listed vals i b:=by
    rintro b ⟨y,g1,g2,g3,g4,g5⟩;rw[hlo y.1 g2] at g3
    simp only[g2,if_false] at g5
    exact⟨y,g1,g2,g3,g4,g5⟩
   refine⟨hb.trans (hb'.mono hb.size),fun k=>if k=i then v else vals k,?_,fun x hx hl'=>?_,fun x hx hl' hal'=>?_⟩
   ·rw[tX listed vals i d v hi dl _ hf hs hmem,hd]
    rfl
   ·by_cases hxi:x.1=i
    ·show(ans.getD x.1 default).is _ (if x.1=i then v else vals x.1) w'
     rw[if_pos hxi,hxi];exact(ans.getD i default).sub hvv hXi
    ·show(ans.getD x.1 default).is _ (if x.1=i then v else vals x.1) w'
     rw[if_neg hxi];have hl'':listed.getD x.1 false=true:=by rw[<-hlo x.1 hxi];exact hl'
     refine(ans.getD x.1 default).sub ((ans.getD x.1 default).later ((ans.getD x.1 default).add (hv x hx hl'') (Jr w.heap.size)) hb') fun b hX=>?_
     rcases hXo x.1 b hxi hX with h|⟨-,h⟩
     ·exact .inl h
     ·exact .inr h
   ·by_cases hxi:x.1=i
    ·show ∃b,(if x.1=i then v else vals x.1)=_/\_
     rw[if_pos hxi];obtain⟨e1,e2⟩:=hal (by rw[<-hxi];exact hal')
     exact⟨w.heap.size,e1,hb.size,e2⟩
    ·show ∃b,(if x.1=i then v else vals x.1)=_/\_
     rw[if_neg hxi];obtain⟨b,k1,k2,k3⟩:=hva x hx (by rw[<-hlo x.1 hxi];exact hl') hal'
     exact⟨b,k1,k2,JE k3 hb'.size⟩
  ·have:=hin ho
   obtain rfl:i=N:=by omega
   have hg:o.guard=none:=by
    unfold l_ at hl
    simp only[Bool.or_eq_true,Bool.and_eq_true,decide_eq_true_eq] at hl
    rcases hl with h|⟨⟨_,h⟩,_⟩
    ·omega
    ·simpa [ho] using h
   have h5:∀x∈dl,listed.getD x.1 false=true:=fun x hx=>by
    obtain⟨o',ho',e,he,h6,h7⟩:=eV (hlN x.1 (hz' x hx).2 (by omega))
    rw[ho] at ho'
    cases ho'
    rw[<-h6];exact hdep e he h7
   have he:=(hend vals w hb fun x hx=>(ans.getD x.1 default).sub (hv x hx (h5 x hx)) fun b hb'=>hxa listed vals x.1 b hb' h5).out
   rw[o0,ho] at he
   have hw:Region.wanted o (yielded ops (lay listed vals dl a0.tmps))=true:=by simp[Region.wanted,hg]
   rw[if_pos hw,hall listed vals dl _ h5];refine .inl (Oper.wp_mono (fun a' w' hh=>?_) he)
   refine⟨by simpa using h1,hcl,?_⟩
   have:(listed.setIfInBounds i true).getD i false=true:=by simp[h1,hin ho]
   rw[if_pos this];exact hh
 ·have hno:∀j,(Array.replicate ops.size false).getD j false=false:=fun j=>by
   simp[Array.getElem?_replicate];split<;>simp
  refine⟨by simp,fun i o ho h=>?_,?_⟩
  ·rw[hno] at h
   cases h
  ·rw[if_neg (by rw[hno];decide)]
   refine⟨⟨rfl,rfl,rfl,Jr _,fun _ _=>rfl⟩,fun _=>undef,?_,fun x hx hl'=>?_,fun x hx hl'=>?_⟩
   ·have hnone:∀(l:List (Nat×Nat)) (t:Array Value),lay (Array.replicate ops.size false) (fun _=>undef) l t=t:=by
     intro l;induction l with
     |nil=>intro t;rfl
     |cons x l ih=>
      intro t;obtain⟨i,e⟩:=x;rw[lay,if_neg (by rw[hno];decide),ih]
    rw[hnone]
   ·rw[hno] at hl'
    cases hl'
   ·rw[hno] at hl'
    cases hl'
section
variable {P:Program} {Q:Exit->Act->World->Prop} {W:World} {ops:Array Oper} {t0:Array Value} {dl:List (Nat×Nat)} {al:List Nat} {ans:List Ax} {i:Nat} {o:Oper}
theorem bD(hna:al.contains i=false)(hrun:∀(X:Nat->Prop) (ρ:Operand->Value) (v:World),vE ops dl al ans t0 i W X ρ v->∃u,(execOp ρ o).run P v=.ok (.value u) v/\(ans.getD i default).is X u v):rQ P Q W ops t0 dl al ans i o:=by
 intro a v X R;obtain⟨u,h1,h2⟩:=hrun X a.eval v R;unfold Oper.wp;rw[h1];exact⟨u,rfl,h2,Jt _ _,fun h=>by rw[hna] at h;cases h⟩
theorem Iz(ob:Obj)(hans:ans.getD i default=Ax.var W.heap.size ob)(hrun:∀(X:Nat->Prop) (ρ:Operand->Value) (v:World),vE ops dl al ans t0 i W X ρ v->(execOp ρ o).run P v=.ok (.value (.pointer (some ⟨v.heap.size,0,none⟩))) (v.alloc ob)):rQ P Q W ops t0 dl al ans i o:=by
 intro a v X R;unfold Oper.wp;rw[hrun X a.eval v R];refine⟨_,rfl,?_,(Jt _ _).alloc (Jr _) _,fun _=>⟨rfl,by simp⟩⟩
 rw[hans];exact⟨v.heap.size,rfl,R.b.size,heap_alloc_new v _,fun h=>absurd (R.xb _ h).2 (Nat.lt_irrefl _)⟩
theorem jX(f:Nat)(hna:al.contains i=false)(hrun:∀(X:Nat->Prop) (ρ:Operand->Value) (v:World),vE ops dl al ans t0 i W X ρ v->∃args,(execOp ρ o).run P v=.ok (.enter f args) v/\Calls P f args v fun e w'=>∃u,e=.returned u/\(ans.getD i default).is X u w'/\Below v.heap.size v w'):rQ P Q W ops t0 dl al ans i o:=by
 intro a v X R;obtain⟨args,h3,h4⟩:=hrun X a.eval v R;unfold Oper.wp;rw[h3];refine h4.mono ?_;rintro e w' ⟨u,rfl,hu,hb'⟩;exact⟨u,rfl,hu,hb',fun h=>by rw[hna] at h;cases h⟩
end
section
variable {F:Fence} {n:Nat} {P:Program} {Q:Exit->Act->World->Prop} {W:World} {ops:Array Oper} {t0:Array Value} {dl:List (Nat×Nat)} {al:List Nat} {ans:List Ax} {i:Nat} {o:Oper}
end
def hor(a:Int):List Int->List Int
 | []=>[]
 |c::cs=>(c+a*gx (hor a cs) 0)::hor a cs
theorem oi(c:Int)(cs:List Int):gx (c::cs) 0=c:=by simp[gx]
theorem oh(c:Int)(cs:List Int)(j:Nat):gx (c::cs) (j+1)=gx cs j:=by simp[gx]
def shr(a:Int):Nat->List Int->List Int
 |0,zs=>zs
 |i+1,zs=>(shr a i zs).take i++hor a ((shr a i zs).drop i)
variable {K n nc:Nat} {p:Option Addr} {es:List Ent} {zs:List Int}
theorem PR.tight(h:PR W N p n nc es zs)(hz:∀t,((gx zs t).natAbs:Int)<pw K):PR W (2*K) p n nc es zs:=⟨h.el,h.zl,h.cap,h.bnd,h.pl,fun j hj=>⟨(h.ev j hj).1.tight (hz j),(h.ev j hj).2⟩⟩
def dl(a:Int):List Int->Nat->Int
 | [],_=>0
 |c::_,0=>c
 |_::cs,t+1=>a*dl a cs t
open Go.Shelf
theorem Dn(a:Int)(w:World)(h0:-9223372036854775808<=a)(h1:a<=9223372036854775807):Calls Tryz.prog 68 #[.int .i64 a] w fun r w'=>∃u:Ent,r=.returned (.agg #[.bool u.s,.slice u.p u.n u.c])/\NV w.heap.size w' 2 a u/\Below w.heap.size w w':=by
 refine(Bk a w h0 h1).mono ?_;rintro e w' ⟨s',p',n',zs,rfl,g1,g2,g3⟩;exact⟨⟨s',p',n',n'⟩,rfl,⟨zs,g1,rfl,g2⟩,g3⟩
variable {B:Nat} {w:World}
theorem PN.pb(h:PN B w K p n es zs)(hK:K<=1000):PB B w K p n es zs:=
 ⟨h.el,h.zl,h.nrm,h.pl,h.fr,fun j hj=>(h.ev j hj).en hK⟩
def cP(m c:Int)(bs:List Int)(o:Nat):Nat->List Int->List Int
 |0,Z=>Z
 |t+1,Z=>(cP m c bs o t Z).set (o+t) ((gx Z (o+t)+c*gx bs t)%m)
def bX(m:Int)(bs:List Int)(n:Nat):Nat->List Int->List Int
 |0,Z=>Z
 |j+1,Z=>bX m bs n j (if (0-gx Z (n+j))%m=0 then Z else cP m ((0-gx Z (n+j))%m) bs j n Z)
theorem eO(m c:Int)(bs:List Int)(o:Nat):∀t Z,(cP m c bs o t Z).length=Z.length
 |0,Z=>rfl
 |t+1,Z=>by rw[cP,List.length_set,eO m c bs o t Z]
theorem ix(m:Int)(bs:List Int)(n:Nat):∀j Z,(bX m bs n j Z).length=Z.length
 |0,Z=>rfl
 |j+1,Z=>by
  rw[bX,ix m bs n j];split
  ·rfl
  ·rw[eO]
theorem mO(Z:List Int)(i j:Nat)(v:Int)(h:i≠j):gx (Z.set i v) j=gx Z j:=by
 unfold gx;rw[List.getD_eq_getElem?_getD,List.getD_eq_getElem?_getD,List.getElem?_set_ne h]
theorem qi(m c:Int)(bs:List Int)(o:Nat):∀t Z j,o+t<=j->gx (cP m c bs o t Z) j=gx Z j
 |0,Z,j,_=>rfl
 |t+1,Z,j,h=>by
  rw[cP,mO _ _ _ _ (by omega)]
  exact qi m c bs o t Z j (by omega)
def Res(m:Int)(xs:List Int):Prop:=∀j,0<=gx xs j/\gx xs j<m
variable {xs:List Int}
theorem Res.set{m:Int}(h:Res m xs)(i:Nat)(v:Int)(h0:0<=v)(h1:v<m):Res m (xs.set i v):=fun j=>by
 by_cases e:i=j
 ·subst e
  rcases Ju i xs.length with hl|hl
  ·rw[bZ _ _ (by rw[List.length_set];exact hl)]
   simp[h0,h1]
  ·have:=h i
   rw[ak xs xs.length (Jr _) i hl] at this
   rw[ak (xs.set i v) xs.length (by simp) i hl]
   exact this
 ·rw[mO _ _ _ _ e]
  exact h j
variable {c:Int} {bs Z:List Int} {o:Nat}
theorem Res.cP{m:Int}(h:Res m Z)(hm:2<=m):∀t,Res m (cP m c bs o t Z)
 |0=>h
 |t+1=>by
  rw[Go.Proofs.YtdjjlghlcffflaaGreatDoor.cP];exact(Res.cP h hm t).set _ _ (Int.emod_nonneg _ (by omega)) (JK _ (by omega))
theorem Res.bX{m:Int}(hm:2<=m):∀j {Z:List Int},Res m Z->Res m (bX m bs n j Z)
 |0,_,h=>h
 |j+1,_,h=>by
  rw[Go.Proofs.YtdjjlghlcffflaaGreatDoor.bX];refine Res.bX hm j ?_;split
  ·exact h
  ·exact h.cP hm n
theorem EH(g na ca:Nat)(Z:List Int)(q:Option Addr)(n nb bc:Nat)(bs:List Int)(m:Int)(w:World)(hnb:nb=n+1)(hna:na<=Z.length)(hca:na<=ca)(hcZ:ca<=100000)(hR:Row w g 128 .u64 Z)(hZ:Res m Z)(hl:bs.length=nb)(hn:n<=100000)(hB:Rd w q .u64 bs)(hb:Res m bs)(hoff:Off g q)(hm:2<=m)(hm2:m<=2147483647):
  Calls Tryz.prog 169 #[.int .u64 m,.slice (some ⟨g,0,none⟩) na ca,.slice q nb bc] w fun e w'=>e=.returned (.slice (some ⟨g,0,none⟩) (ad ((bX m bs n (na-n) Z).take (min n na))) ca)/\Row w' g 128 .u64 (bX m bs n (na-n) Z)/\w.grownBy w' (some g):=by
 have HB:Hid (Rd w q .u64 bs/\Res m bs):=⟨hB,hb⟩;clear hB hb;have HZ:Hid (Res m Z):=hZ;have HR:Hid (Row w g 128 .u64 Z):=hR;clear hZ hR;have hnI:(nb:Int)-1=(n:Int):=by omega
 have hn1:n<nb:=by omega
 have hn2:nb<=n+1:=by omega
 clear hnb;have hnW:IntKind.i64.wrap (n:Int)=(n:Int):=by rw[IntKind.wrap_i64];omega
 go_enter Tryz.func169,Tryz.ntmps169;go_wp2_with fail;go_loopw [8,9,10,11] (fun kv cv rv jv wr=>∃(t:Nat) (Y:List Int),t<=na-n/\kv=.int .i64 (((na:Int)-1)-((na-n-t:Nat):Int))/\Y.length=Z.length/\Hid (bX m bs n t Y=bX m bs n (na-n) Z/\Res m Y/\Row wr g 128 .u64 Y/\w.grownBy wr (some g))) (fun kv _ _ _ _=>(intOf kv+1-n).toNat)
 case atStart=>exact⟨na-n,Z,Jr _,by go_num,rfl,rfl,HZ.out,HR.out,ck _ _⟩
 case round=>
  obtain⟨t,Y,ht,rfl,hY,H⟩:=hrel;rcases Jw t with h0|h0
  ·subst h0
   obtain⟨e1,e2,e3,e4⟩:=H.out;rw[bX] at e1
   subst e1;have hc1:¬(n:Int)<=(na:Int)-1-((na-n-0:Nat):Int):=by omega
   obtain⟨M,hM1,hM2⟩:∃M:Nat,min (n:Int) (na:Int)=(M:Int)/\M=min n na:=⟨min n na,by omega,rfl⟩
   have hM3:(M:Int)<=(ca:Int):=by omega
   have HM:Hid (M=min n na):=hM2;have HI:Hid (Row wr g 128 .u64 (bX m bs n (na-n) Z)/\w.grownBy wr (some g)):=⟨e3,e4⟩;clear H e2 e3 e4 hM2;go_wp2_with fail;refine(qF _ M ca ((bX m bs n (na-n) Z).take M) wr (by rw[List.length_take,hY,HM.out];omega) (by omega) (by omega) (HI.out.1.b5 M)).mono ?_
   rintro e w1 ⟨rfl,rfl⟩;go_wp2;go_ret;rw[<-HM.out];exact⟨rfl,HI.out⟩
  ·obtain⟨s,rfl⟩:∃s,t=s+1:=⟨t-1,by omega⟩
   have hk:(na:Int)-1-((na-n-(s+1):Nat):Int)=((n+s:Nat):Int):=by omega
   rw[hk];obtain⟨e1,e2,e3,e4⟩:=H.out;rw[bX] at e1
   have c0:=e3.cell (n+s) (by omega)
   obtain⟨y0,y1⟩:=e2 (n+s);have hbd1:((n+s:Nat):Int)<(na:Int):=by omega
   have HI:Hid (Res m Y/\Row wr g 128 .u64 Y/\w.grownBy wr (some g)):=⟨e2,e3,e4⟩;have HE:Hid (bX m bs n s (if (0-gx Y (n+s))%m=0 then Y else cP m ((0-gx Y (n+s))%m) bs s n Y)=bX m bs n (na-n) Z):=e1
   clear H e1 e2 e3 e4;go_wp2_with fail;refine(uN m 0 (gx Y (n+s)) _ hm hm2 (by decide) (by omega) y0 y1).mono ?_
   rintro e w1 ⟨rfl,rfl⟩;have q0:=Int.emod_nonneg (0-gx Y (n+s)) (show m≠0 by omega)
   have q1:=JK (0-gx Y (n+s)) (show 0<m by omega)
   generalize (0-gx Y (n+s))%m=c at *
   by_cases hc:c=0
   ·have HC:Hid (c=0):=hc
    have hc':(c==0)=true:=by rw[beq_iff_eq];exact hc
    clear hc;go_wp2;go_roundw
    case rel=>
     refine⟨s,Y,by omega,by go_num,hY,?_,HI.out⟩
     have:=HE.out;rwa [if_pos HC.out] at this
    case measure=>simp[intOf];omega
   ·have hc':(c==0)=false:=by rw[beq_eq_false_iff_ne];exact hc
    have HE2:Hid (bX m bs n s (cP m c bs s n Y)=bX m bs n (na-n) Z):=by have:=HE.out;rwa [if_neg hc] at this
    clear HE;have hs1:((n+s:Nat):Int)-(n:Int)=(s:Int):=by omega
    have hs2:((n+s:Nat):Int)<=(ca:Int):=by omega
    have hs3:(s:Int)<=((n+s:Nat):Int):=by omega
    have hs4:((n+s:Nat):Int)-(s:Int)=(n:Int):=by omega
    have hs5:IntKind.i64.wrap (s:Int)=(s:Int):=by rw[IntKind.wrap_i64];omega
    have HYr:Hid (Res m Y):=HI.out.1;go_wp2_with fail;have hx1:n+s-n=s:=by omega
    have hx2:n+s-s=n:=by omega
    simp only[hx1,hx2];clear hx1 hx2;go_loopw [11,39] (fun jv kv wi=>∃j:Nat,j<=n/\kv=.int .i64 j/\Hid (Row wi g 128 .u64 (cP m c bs s j Y)/\w.grownBy wi (some g))) (fun _ kv _=>n-(intOf kv).toNat)
    case atStart=>exact⟨0,Jz _,by go_num,HI.out.2⟩
    case round=>
     obtain⟨j,hj,rfl,H⟩:=hrel;rcases Ju j n with hlt|hge
     ·obtain⟨r1,r2⟩:=H.out
      obtain⟨b,off,rfl,hcell⟩:=(HB.out.1.dw r2 hoff) (by omega)
      have d0:=hcell j (by omega)
      have d1:=r1.cell (s+j) (by rw[eO];omega)
      rw[qi m c bs s j Y (s+j) (Jr _)] at d1
      have f1:=r1.frozen (s+j);obtain⟨u0,u1⟩:=HYr.out (s+j);obtain⟨v0,v1⟩:=HB.out.2 j;obtain⟨p0,p1⟩:=zp q0 v0 q1 v1 hm2;have HH:Hid (Row wr g 128 .u64 (cP m c bs s j Y)/\w.grownBy wr (some g)):=⟨r1,r2⟩;have hj1:(j:Int)<(nb:Int):=by omega
      have HV:Hid (cP m c bs s (j+1) Y=(cP m c bs s j Y).set (s+j) ((gx Y (s+j)+c*gx bs j)%m)):=rfl;clear hcell r1 r2 H;generalize hP:c*gx bs j=P at *
      have HP:=(show Hid _ from hP)
      clear hP;have hm0:¬m=0:=by omega
      have hm0':(m==0)=false:=by rw[beq_eq_false_iff_ne];exact hm0
      have e1:IntKind.u64.wrap P=P:=by rw[IntKind.wrap_u64];omega
      have e2:IntKind.u64.wrap (gx Y (s+j)+P)=gx Y (s+j)+P:=by rw[IntKind.wrap_u64];omega
      have e3:(gx Y (s+j)+P).tmod m=(gx Y (s+j)+P)%m:=Int.tmod_eq_emod_of_nonneg (by omega)
      have e4:=Int.emod_nonneg (gx Y (s+j)+P) hm0;have e5:=JK (gx Y (s+j)+P) (show 0<m by omega)
      have e6:IntKind.u64.wrap ((gx Y (s+j)+P)%m)=(gx Y (s+j)+P)%m:=by rw[IntKind.wrap_u64];omega
      go_wp2_with fail;go_still_tail 15,(by kernel_rfl)
      go_wp2;go_roundw
      case rel=>
       obtain⟨r1,r2⟩:=HH.out;refine⟨j+1,by omega,by go_num,?_,dR (aL r2 _ _)⟩
       rw[HV.out,HP.out,e1,e2,e3];exact(r1.set (s+j) _).drew
      case measure=>simp[intOf];omega
     ·obtain rfl:j=n:=by omega
      obtain⟨r1,r2⟩:=H.out;have HH:Hid (Row wr g 128 .u64 (cP m c bs s j Y)/\w.grownBy wr (some g)):=⟨r1,r2⟩;clear H r1 r2 hge;go_wp2;go_roundw
      case rel=>
       refine⟨s,cP m c bs s j Y,by omega,by go_num,by rw[eO];exact hY,HE2.out,HYr.out.cP hm j,HH.out⟩
      case measure=>simp[intOf];omega
end Go.Proofs.YtdjjlghlcffflaaGreatDoor
