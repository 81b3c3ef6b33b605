/- Own. -/
import Derived.Test.YtfnkomoickanfaaGreatDoorYf
set_option linter.unusedVariables false
set_option linter.unusedSimpArgs false
set_option maxHeartbeats 8000000
set_option maxRecDepth 100000
namespace Go.Proofs.YtfnkomoickanfaaGreatDoor
open Go.RowKit
structure Ax where
 is:(Nat→Prop)→Value→World→Prop
 later:∀{X:Nat→Prop} {v:Value} {w w':World},is X v w→Below w.heap.size w w'→is X v w'
 add:∀{X:Nat→Prop} {v:Value} {w:World} {b:Nat},is X v w→w.heap.size≤b→is (fun c=>X c∨c=b) v w
 sub:∀{X Y:Nat→Prop} {v:Value} {w:World},is X v w→(∀b,Y b→X b)→is Y v w
instance:Inhabited Ax:=⟨⟨fun _ _ _=>True,fun _ _=>trivial,fun _ _=>trivial,fun _ _=>trivial⟩⟩
def Ax.val(u:Value):Ax:=⟨fun _ v _=>v=u,fun h _=>h,fun h _=>h,fun h _=>h⟩
structure vT(ops:Array Oper)(dl:List (Nat×Nat))(al:List Nat)(ans:List Ax)(t0:Array Value)(i:Nat)(W:World)(X:Nat→Prop)(ρ:Operand→Value)(v:World):Prop where
 b:Below W.heap.size W v
 xb:∀c,X c→W.heap.size≤c∧c<v.heap.size
 dep:∀j d,(j,d)∈dl→waits ops i j=true→al.contains j=false→(ans.getD j default).is X (ρ (.tmp d)) v
 depA:∀j d,(j,d)∈dl→waits ops i j=true→(ans.getD j default).is (fun _=>False) (ρ (.tmp d)) v
 old:∀s,s∉dl.map Prod.snd→ρ (.tmp s)=t0.getD s undef
 pre:∀s k,(k,s)∈dl→waits ops k i=true→ρ (.tmp s)=t0.getD s undef
 con:∀u,ρ (.const u)=u
 fn:∀f,ρ (.func f)=.func (.func f) #[] #[]
def vU(P:Program)(Q:Exit→Act→World→Prop)(W:World)(ops:Array Oper)(t0:Array Value)(dl:List (Nat×Nat))(al:List Nat)(ans:List Ax)(i:Nat)(o:Oper):Prop:=
 ∀(a:Act) (w:World) (X:Nat→Prop),vT ops dl al ans t0 i W X a.eval w→o.wp P a w (fun a' w'=>∃v,a'=a.put o.dst v∧(ans.getD i default).is X v w'∧Below w.heap.size w w'∧(al.contains i=true→v=.pointer (some ⟨w.heap.size,0,none⟩)∧w.heap.size<w'.heap.size)) Q
def XS(dl:List (Nat×Nat))(al:List Nat)(listed:Array Bool)(vals:Nat→Value)(i:Nat)(b:Nat):Prop:=∃y∈dl,y.1≠i∧listed.getD y.1 false=true∧al.contains y.1=true∧vals y.1=.pointer (some ⟨b,0,none⟩)
def XA(dl:List (Nat×Nat))(al:List Nat)(vals:Nat→Value)(i:Nat)(b:Nat):Prop:=∃y∈dl,y.1≠i∧al.contains y.1=true∧vals y.1=.pointer (some ⟨b,0,none⟩)
def vh(ops:Array Oper)(dl:List (Nat×Nat))(gl:List (Nat×Bool))(N:Nat):Bool:=(List.range N).all fun i=>match ops[i]? with
 |some o=>(match o.guard with|none=>true|some x=>gl.contains x&&waits ops i x.1&&decide (x.1<N))&&(match o.dst with|some d=>dl.contains (i,d)|none=>false)
 |none=>false
theorem oy{ops:Array Oper}{dl:List (Nat×Nat)}{gl:List (Nat×Bool)}{N:Nat}(h:vh ops dl gl N=true)(i:Nat)(hi:i<N)(o:Oper)(ho:ops[i]?=some o):(o.guard=none∨∃j b,o.guard=some (j,b)∧(j,b)∈gl∧waits ops i j=true∧j<N)∧∃d,o.dst=some d∧(i,d)∈dl:=by
 have h1:=List.all_eq_true.1 h i (List.mem_range.2 hi)
 simp only[ho,Bool.and_eq_true] at h1
 refine⟨?_,?_⟩
 ·cases hg:o.guard with
  |none=>exact .inl rfl
  |some x=>
   obtain⟨j,b⟩:=x
   have h2:=h1.1
   simp only[hg,Bool.and_eq_true,decide_eq_true_eq] at h2
   exact .inr ⟨j,b,rfl,by simpa using h2.1.1,h2.1.2,h2.2⟩
 ·cases hd:o.dst with
  |none=>simp[hd] at h1
  |some d=>exact⟨d,rfl,by simpa [hd] using h1.2⟩
def zJ(ans:List Ax):List (Nat×Bool)→Prop
 | []=>True
 |x::l=>(∀X v w,(ans.getD x.1 default).is X v w→v=.bool x.2)∧zJ ans l
theorem uK{ans:List Ax}:∀{l:List (Nat×Bool)},zJ ans l→∀x∈l,∀X v w,(ans.getD x.1 default).is X v w→v=.bool x.2
 | [],_,x,hx=>by cases hx
 |y::l,h,x,hx=>by
  rcases List.mem_cons.1 hx with h1|h1
  ·subst h1;exact h.1
  ·exact uK h.2 x h1
theorem tk{P:Program}{ops:Array Oper}{Q:Exit→Act→World→Prop}{id:Nat}{a0:Act}{W:World}(N:Nat)(dl:List (Nat×Nat))(al:List Nat)(gl:List (Nat×Bool))(ans:List Ax)(hm:P.follows .mixedOrders=true)(ha:nR ops=true)(hop:vh ops dl gl N=true)(hgl:zJ ans gl)(hl:jL ops N=true)(hf:(dl.map Prod.fst).Nodup)(hs:(dl.map Prod.snd).Nodup)(hz:(dl.all fun x=>decide (x.2<a0.tmps.size)&&decide (x.1<N))=true)
  (hstep:o5 (vU P Q W ops a0.tmps dl al ans) N 0 ops.toList)
  (hend:∀(vals:Nat→Value) (w:World),Below W.heap.size W w→(∀x∈dl,(ans.getD x.1 default).is (XA dl al vals x.1) (vals x.1) w)→Ends P Q ops N ⟨dl.foldl (fun t x=>t.setIfInBounds x.2 (vals x.1)) a0.tmps,a0.defers⟩ w):(Code.region id ops true).wp P Q a0 W:=by
 have hz':∀x∈dl,x.2<a0.tmps.size∧x.1<N:=fun x hx=>by simpa using List.all_eq_true.1 hz x hx
 have hNs:N≤ops.size:=by
  unfold jL at hl
  simp only[Bool.or_eq_true,Bool.and_eq_true,decide_eq_true_eq] at hl
  omega
 have hNu:ops.size≤N+1:=by
  unfold jL at hl
  simp only[Bool.or_eq_true,Bool.and_eq_true,decide_eq_true_eq] at hl
  omega
 have hall:∀(listed:Array Bool) (vals:Nat→Value) (l:List (Nat×Nat)) (t:Array Value),(∀x∈l,listed.getD x.1 false=true)→lay listed vals l t=l.foldl (fun t x=>t.setIfInBounds x.2 (vals x.1)) t:=by
  intro listed vals l
  induction l with
  |nil=>intro t _;rfl
  |cons x l ih=>
   intro t h
   obtain⟨i,d⟩:=x
   rw[lay,if_pos (h (i,d) (by simp)),ih _ fun y hy=>h y (by simp[hy])]
   rfl
 have tf:∀{l:Array Bool} {i:Nat},i<l.size→l.getD i true=l.getD i false:=fun {l i} hi=>by simp[hi]
 have hin:∀{i:Nat} {o:Oper},ops[i]?=some o→i<ops.size:=fun ho=>(Array.getElem?_eq_some_iff.1 ho).1
 have hxa:∀(listed:Array Bool) (vals:Nat→Value) (i b:Nat),XA dl al vals i b→(∀x∈dl,listed.getD x.1 false=true)→XS dl al listed vals i b:=fun listed vals i b ⟨y,h1,h2,h3,h4⟩ h=>⟨y,h1,h2,h y h1,h3,h4⟩
 refine uk hm (fun listed a w=>listed.size=ops.size∧(∀i o,ops[i]?=some o→listed.getD i false=true→∀e∈o.after,Region.binds .any e=true→listed.getD e.on false=true)∧(if listed.getD N false=true then Q .normal a w else Below W.heap.size W w∧∃vals,a=⟨lay listed vals dl a0.tmps,a0.defers⟩∧(∀x∈dl,listed.getD x.1 false=true→(ans.getD x.1 default).is (XS dl al listed vals x.1) (vals x.1) w)∧∀x∈dl,listed.getD x.1 false=true→al.contains x.1=true→∃b,vals x.1=.pointer (some ⟨b,0,none⟩)∧W.heap.size≤b∧b<w.heap.size)) ha ?_ ?_ ?_
 ·rintro listed a w ⟨h1,h2,h3⟩ hlst
  split at h3
  ·exact h3
  ·rename_i hn
   have hsz:ops.size=N:=by
    rcases Nat.lt_or_ge N ops.size with h|h
    ·exact absurd (by rw[←tf (by omega)];exact hlst N h) hn
    ·omega
   obtain⟨hb,vals,rfl,hv,hva⟩:=h3
   have h5:∀x∈dl,listed.getD x.1 false=true:=fun x hx=>by
    rw[←tf (by have:=(hz' x hx).2;omega)]
    exact hlst x.1 (by have:=(hz' x hx).2;omega)
   have:=(hend vals w hb fun x hx=>(ans.getD x.1 default).sub (hv x hx (h5 x hx)) fun b hb'=>hxa listed vals x.1 b hb' h5).out
   rw[ri,Array.getElem?_eq_none (by omega)] at this
   rw[hall listed vals dl _ h5]
   exact this
 ·rintro listed a w ⟨h1,h2,h3⟩ i o ho hi hdep
  have hi':listed.getD i false=false:=by rw[←tf (by rw[h1];exact hin ho)];exact hi
  have hlN:∀j,j<N→ops.size=N+1→waits ops N j=true:=fun j hj hsz=>by
   unfold jL at hl
   simp only[Bool.or_eq_true,Bool.and_eq_true,decide_eq_true_eq] at hl
   rcases hl with h|⟨_,h⟩
   ·omega
   ·exact List.all_eq_true.1 h j (List.mem_range.2 hj)
  have hNn:listed.getD N false=false:=by
   cases hc:listed.getD N false with
   |false=>rfl
   |true=>
    exfalso
    have hNlt:N<ops.size:=by
     rcases Nat.lt_or_ge N ops.size with h|h
     ·exact h
     ·simp[Array.getElem?_eq_none (show listed.size≤N by omega)] at hc
    rcases Nat.lt_or_ge i N with h|h
    ·obtain⟨o',ho',e,he,h4,h5⟩:=kQ (hlN i h (by omega))
     have:=h2 N o' ho' hc e he h5
     rw[h4,hi'] at this
     cases this
    ·have:=hin ho
     obtain rfl:i=N:=by omega
     rw[hi'] at hc
     cases hc
  have hne:∀x:Nat,listed.getD x false=true→x≠i:=fun x hx e=>by
   rw[e,hi'] at hx
   cases hx
  have hcl:∀k o',ops[k]?=some o'→(listed.setIfInBounds i true).getD k false=true→∀e∈o'.after,Region.binds .any e=true→(listed.setIfInBounds i true).getD e.on false=true:=by
   intro k o' ho' hk e he hbn
   have hup:∀x,listed.getD x false=true→(listed.setIfInBounds i true).getD x false=true:=fun x hx=>by
    have hxi:=hne x hx
    simpa [Array.getElem?_setIfInBounds,Ne.symm hxi] using hx
   by_cases hki:k=i
   ·subst hki
    rw[ho] at ho'
    cases ho'
    exact hup _ (hdep e he hbn)
   ·exact hup _ (h2 k o' ho' (by simpa [Array.getElem?_setIfInBounds,Ne.symm hki] using hk) e he hbn)
  rw[if_neg (by rw[hNn];decide)] at h3
  obtain⟨hb,vals,rfl,hv,hva⟩:=h3
  unfold wpOp
  simp only[ho]
  rcases Nat.lt_or_ge i N with hiN|hiN
  ·obtain⟨hg,d,hd,hmem⟩:=oy hop i hiN o ho
   have hst:=nS _ 0 hstep i o (by simpa using ho) (by omega)
   rw[Nat.zero_add] at hst
   have hdp:∀j e,(j,e)∈dl→waits ops i j=true→listed.getD j false=true∧(ans.getD j default).is (XS dl al listed vals j) ((lay listed vals dl a0.tmps).getD e undef) w:=fun j e hje hw=>by
    obtain⟨o',ho',x,hx,hxj,hbn⟩:=kQ hw
    rw[ho] at ho'
    cases ho'
    have hlj:listed.getD j false=true:=by rw[←hxj];exact hdep x hx hbn
    refine⟨hlj,?_⟩
    rw[yt listed vals j e hlj dl _ hs hje (hz' (j,e) hje).1]
    exact hv (j,e) hje hlj
   have hst':=hst ⟨lay listed vals dl a0.tmps,a0.defers⟩ w (XS dl al listed vals i) ⟨hb,fun c ⟨y,g1,g2,g3,g4,g5⟩=>by
    obtain⟨b,k1,k2,k3⟩:=hva y g1 g3 g4
    rw[g5] at k1
    cases k1
    exact⟨k2,k3⟩,fun j e hje hw haj=>(ans.getD j default).sub (hdp j e hje hw).2 fun b ⟨y,g1,g2,g3,g4,g5⟩=>⟨y,g1,(fun ej=>by rw[ej,haj] at g4;cases g4),g3,g4,g5⟩,
    fun j e hje hw=>(ans.getD j default).sub (hdp j e hje hw).2 fun b hb'=>False.elim hb',fun s hs'=>jc listed vals s dl _ hs',fun s k hks hw=>by
    obtain⟨o',ho',x,hx,hxj,hbn⟩:=kQ hw
    have hk:listed.getD k false=false:=by
     cases hc:listed.getD k false with
     |false=>rfl
     |true=>
      have:=h2 k o' ho' hc x hx hbn
      rw[hxj,hi'] at this
      cases this
    exact lD listed vals k s hk dl _ hs hks,fun _=>rfl,fun _=>rfl⟩
   have hw:Region.wanted o (yielded ops (lay listed vals dl a0.tmps))=true:=by
    rcases hg with hg|⟨j,b,hg,hjb,hwj,hjN⟩
    ·simp[Region.wanted,hg]
    ·obtain⟨oj,hoj⟩:∃oj,ops[j]?=some oj:=⟨_,Array.getElem?_eq_getElem (by omega)⟩
     obtain⟨-,dj,hdj,hmj⟩:=oy hop j hjN oj hoj
     have h7:=uK hgl (j,b) hjb _ _ _ (hdp j dj hmj hwj).2
     have h8:dj<(lay listed vals dl a0.tmps).size:=by rw[sF];exact(hz' (j,dj) hmj).1
     have h9:(lay listed vals dl a0.tmps)[dj]?=some (.bool b):=by
      rw[Array.getElem?_eq_getElem h8]
      rw[Array.getD_eq_getD_getElem?,Array.getElem?_eq_getElem h8] at h7
      exact congrArg some h7
     simp[Region.wanted,hg,yielded,hoj,hdj,h9]
   rw[if_pos hw]
   refine .inl (Oper.wp_mono (fun a' w' hh=>?_) hst')
   obtain⟨v,rfl,hvv,hb',hal⟩:=hh
   refine⟨by simpa using h1,hcl,?_⟩
   have hNi:(listed.setIfInBounds i true).getD N false=false:=by
    have:i≠N:=by omega
    simpa [Array.getElem?_setIfInBounds,this] using hNn
   rw[if_neg (by rw[hNi];decide)]
   have hlo:∀x:Nat,x≠i→(listed.setIfInBounds i true).getD x false=listed.getD x false:=fun x hx=>by simp[Array.getElem?_setIfInBounds,Ne.symm hx]
   have hXo:∀x b,x≠i→XS dl al (listed.setIfInBounds i true) (fun k=>if k=i then v else vals k) x b→XS dl al listed vals x b∨(al.contains i=true∧b=w.heap.size):=by
    rintro x b hxi ⟨y,g1,g2,g3,g4,g5⟩
    by_cases hyi:y.1=i
    ·right
     have ha':al.contains i=true:=by rw[←hyi];exact g4
     simp only[hyi,if_true] at g5
     obtain⟨e1,-⟩:=hal ha'
     rw[e1] at g5
     cases g5
     exact⟨ha',rfl⟩
    ·left
     rw[hlo y.1 hyi] at g3
     simp only[hyi,if_false] at g5
     exact⟨y,g1,g2,g3,g4,g5⟩
   have hXi:∀b,XS dl al (listed.setIfInBounds i true) (fun k=>if k=i then v else vals k) i b→XS dl al listed vals i b:=by
    rintro b ⟨y,g1,g2,g3,g4,g5⟩
    rw[hlo y.1 g2] at g3
    simp only[g2,if_false] at g5
    exact⟨y,g1,g2,g3,g4,g5⟩
   refine⟨hb.trans (hb'.mono hb.size),fun k=>if k=i then v else vals k,?_,fun x hx hl'=>?_,fun x hx hl' hal'=>?_⟩
   ·rw[uS listed vals i d v hi dl _ hf hs hmem,hd]
    rfl
   ·by_cases hxi:x.1=i
    ·show(ans.getD x.1 default).is _ (if x.1=i then v else vals x.1) w'
     rw[if_pos hxi,hxi]
     exact(ans.getD i default).sub hvv hXi
    ·show(ans.getD x.1 default).is _ (if x.1=i then v else vals x.1) w'
     rw[if_neg hxi]
     have hl'':listed.getD x.1 false=true:=by rw[←hlo x.1 hxi];exact hl'
     refine(ans.getD x.1 default).sub ((ans.getD x.1 default).later ((ans.getD x.1 default).add (hv x hx hl'') (Nat.le_refl w.heap.size)) hb') fun b hX=>?_
     rcases hXo x.1 b hxi hX with h|⟨-,h⟩
     ·exact .inl h
     ·exact .inr h
   ·by_cases hxi:x.1=i
    ·show ∃b,(if x.1=i then v else vals x.1)=_∧_
     rw[if_pos hxi]
     obtain⟨e1,e2⟩:=hal (by rw[←hxi];exact hal')
     exact⟨w.heap.size,e1,hb.size,e2⟩
    ·show ∃b,(if x.1=i then v else vals x.1)=_∧_
     rw[if_neg hxi]
     obtain⟨b,k1,k2,k3⟩:=hva x hx (by rw[←hlo x.1 hxi];exact hl') hal'
     exact⟨b,k1,k2,Nat.lt_of_lt_of_le k3 hb'.size⟩
  ·have:=hin ho
   obtain rfl:i=N:=by omega
   have hg:o.guard=none:=by
    unfold jL at hl
    simp only[Bool.or_eq_true,Bool.and_eq_true,decide_eq_true_eq] at hl
    rcases hl with h|⟨⟨_,h⟩,_⟩
    ·omega
    ·simpa [ho] using h
   have h5:∀x∈dl,listed.getD x.1 false=true:=fun x hx=>by
    obtain⟨o',ho',e,he,h6,h7⟩:=kQ (hlN x.1 (hz' x hx).2 (by omega))
    rw[ho] at ho'
    cases ho'
    rw[←h6]
    exact hdep e he h7
   have he:=(hend vals w hb fun x hx=>(ans.getD x.1 default).sub (hv x hx (h5 x hx)) fun b hb'=>hxa listed vals x.1 b hb' h5).out
   rw[ri,ho] at he
   have hw:Region.wanted o (yielded ops (lay listed vals dl a0.tmps))=true:=by simp[Region.wanted,hg]
   rw[if_pos hw,hall listed vals dl _ h5]
   refine .inl (Oper.wp_mono (fun a' w' hh=>?_) he)
   refine⟨by simpa using h1,hcl,?_⟩
   have:(listed.setIfInBounds i true).getD i false=true:=by simp[h1,hin ho]
   rw[if_pos this]
   exact hh
 ·have hno:∀j,(Array.replicate ops.size false).getD j false=false:=fun j=>by
   simp[Array.getElem?_replicate]
   split<;>simp
  refine⟨by simp,fun i o ho h=>?_,?_⟩
  ·rw[hno] at h
   cases h
  ·rw[if_neg (by rw[hno];decide)]
   refine⟨⟨rfl,rfl,rfl,Nat.le_refl _,fun _ _=>rfl⟩,fun _=>undef,?_,fun x hx hl'=>?_,fun x hx hl'=>?_⟩
   ·have hnone:∀(l:List (Nat×Nat)) (t:Array Value),lay (Array.replicate ops.size false) (fun _=>undef) l t=t:=by
     intro l
     induction l with
     |nil=>intro t;rfl
     |cons x l ih=>
      intro t
      obtain⟨i,e⟩:=x
      rw[lay,if_neg (by rw[hno];decide),ih]
    rw[hnone]
   ·rw[hno] at hl'
    cases hl'
   ·rw[hno] at hl'
    cases hl'
section
variable {P:Program} {Q:Exit→Act→World→Prop} {W:World} {ops:Array Oper} {t0:Array Value} {dl:List (Nat×Nat)} {al:List Nat} {ans:List Ax} {i:Nat} {o:Oper}
theorem dp(hna:al.contains i=false)(hrun:∀(X:Nat→Prop) (ρ:Operand→Value) (v:World),vT ops dl al ans t0 i W X ρ v→∃u,(execOp ρ o).run P v=.ok (.value u) v∧(ans.getD i default).is X u v):vU P Q W ops t0 dl al ans i o:=by
 intro a v X R
 obtain⟨u,h1,h2⟩:=hrun X a.eval v R
 unfold Oper.wp
 rw[h1]
 exact⟨u,rfl,h2,Below.refl _ _,fun h=>by rw[hna] at h;cases h⟩
theorem pK(f:Nat)(hna:al.contains i=false)(hrun:∀(X:Nat→Prop) (ρ:Operand→Value) (v:World),vT ops dl al ans t0 i W X ρ v→∃args,(execOp ρ o).run P v=.ok (.enter f args) v∧Calls P f args v fun e w'=>∃u,e=.returned u∧(ans.getD i default).is X u w'∧Below v.heap.size v w'):vU P Q W ops t0 dl al ans i o:=by
 intro a v X R
 obtain⟨args,h3,h4⟩:=hrun X a.eval v R
 unfold Oper.wp
 rw[h3]
 refine h4.mono ?_
 rintro e w' ⟨u,rfl,hu,hb'⟩
 exact⟨u,rfl,hu,hb',fun h=>by rw[hna] at h;cases h⟩
end
def rG{α:Type}(E:World→Nat→Nat→α→Hdr→Prop):Prop:=
 ∀{w w':World} {B T:Nat} {z:α} {h:Hdr},E w B T z h→T≤w.heap.size→(∀b,B≤b→b<T→w'.heap[b]?=w.heap[b]?)→E w' B T z h
theorem RE.same{w w':World}{N:Nat}{z:Int}{e:Ent}(h:RE w N z e)(hs:0<e.n→∀a,e.p=some a→w'.heap[a.block]?=w.heap[a.block]?):RE w' N z e:=by
 obtain⟨⟨ds,k,h2⟩,h3⟩:=h
 refine⟨⟨ds,⟨k.len,fun hx=>(k.rd.same fun a ha _=>hs ?_ a ha) hx,k.u,k.nrm,k.sg,k.sml⟩,h2⟩,h3⟩
 rw[←k.len]
 exact hx
theorem qq(N D:Nat):rG (EY N D):=fun {w w' B T z h} he hT hs=>by
 obtain⟨fs,k,e1,e2,h1,h2,h3⟩:=he
 refine⟨fs,⟨k.el,k.zl,k.cap,k.bnd,fun hx=>(k.pl.same fun a ha hlt=>?_) hx,fun j hj=>(k.ev j hj).same fun hn a ha=>?_⟩,e1,e2,h1,h2,h3⟩
 ·have h4:=h2 a ha (by rw[←k.el];exact hx)
  exact hs _ h4.1 h4.2
 ·have h4:=h3 j hj hn a ha
  exact hs _ h4.1 h4.2
theorem qt{α:Type}[Inhabited α]{D:Nat}{E:World→Nat→Nat→α→Hdr→Prop}(L:rG E):rG (HR D E):=fun {w w' B T z h} he hT hs=>by
 obtain⟨rs,k⟩:=he
 refine⟨rs,k.el,k.tl,k.cap,k.bnd,k.pn,k.few,k.hl.same fun a ha hn hlt=>?_,k.at_,fun j hj=>L (k.ev j hj) hT hs⟩
 have h1:=k.at_ a ha (by rw[←k.el];exact hn)
 exact hs _ h1.1 h1.2
section
variable {lo base:Nat} {w w1 w2:World}
end
end Go.Proofs.YtfnkomoickanfaaGreatDoor
