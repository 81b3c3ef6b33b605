/- Own. -/
import Derived.Test.YtdjjlghlcffflaaGreatDoorE9
import Derived.RangeFuncNested
import Derived.RangeFuncBound
set_option linter.unusedVariables false
set_option linter.unusedSimpArgs false
set_option maxHeartbeats 8000000
set_option maxRecDepth 100000
namespace Go.Proofs.YtdjjlghlcffflaaGreatDoor.Ev
open Go.RowKit
theorem DZ{k:IntKind}{n:Int}(h:inR k n=true):k.wrap n=n:=by
 have key:∀(lo hi:Int),lo<=n->n<=hi->(k.signed=true->lo = - 2^(k.bits-1)/\hi=2^(k.bits-1)-1)->(k.signed=false->lo=0/\hi=2^k.bits-1)->(2:Int)^k.bits=2*2^(k.bits-1)->(0:Int)<2^(k.bits-1)->k.wrap n=n:=by
  intro lo hi h1 h2 hs hu h3 h4;unfold IntKind.wrap;dsimp only
  cases hsg:k.signed with
  |true=>
   obtain⟨rfl,rfl⟩:=hs hsg;rcases Int.lt_or_le n 0 with h5|h5
   ·have e:n%(2^k.bits:Int)=n+2^k.bits:=by
     rw[<-Int.add_emod_right];exact Int.emod_eq_of_lt (by omega) (by omega)
    rw[e];have:(2:Int)^(k.bits-1)<=n+2^k.bits:=by omega
    simp[this]
   ·have e:n%(2^k.bits:Int)=n:=Int.emod_eq_of_lt h5 (by omega)
    rw[e];have:¬(2:Int)^(k.bits-1)<=n:=by omega
    simp[this]
  |false=>
   obtain⟨rfl,rfl⟩:=hu hsg;have e:n%(2^k.bits:Int)=n:=Int.emod_eq_of_lt h1 (by omega)
   rw[e];simp
 cases k with
 |i64=>
  cases n with
  |ofNat m=>have h':=Nat.le_of_ble_eq_true h;exact key (-9223372036854775808) 9223372036854775807 (by show(-9223372036854775808:Int)<=(m:Int);omega) (by show(m:Int)<=9223372036854775807;omega) (fun _=>⟨by decide,by decide⟩) (fun e=>by cases e) (by decide) (by decide)
  |negSucc m=>have h':=Nat.le_of_ble_eq_true h;exact key (-9223372036854775808) 9223372036854775807 (by omega) (by omega) (fun _=>⟨by decide,by decide⟩) (fun e=>by cases e) (by decide) (by decide)
 |u64=>
  cases n with
  |ofNat m=>have h':=Nat.le_of_ble_eq_true h;exact key 0 18446744073709551615 (by show(0:Int)<=(m:Int);omega) (by show(m:Int)<=18446744073709551615;omega) (fun e=>by cases e) (fun _=>⟨rfl,by decide⟩) (by decide) (by decide)
  |negSucc m=>cases h
 |u32=>
  cases n with
  |ofNat m=>have h':=Nat.le_of_ble_eq_true h;exact key 0 4294967295 (by show(0:Int)<=(m:Int);omega) (by show(m:Int)<=4294967295;omega) (fun e=>by cases e) (fun _=>⟨rfl,by decide⟩) (by decide) (by decide)
  |negSucc m=>cases h
 |u8=>
  cases n with
  |ofNat m=>have h':=Nat.le_of_ble_eq_true h;exact key 0 255 (by show(0:Int)<=(m:Int);omega) (by show(m:Int)<=255;omega) (fun e=>by cases e) (fun _=>⟨rfl,by decide⟩) (by decide) (by decide)
  |negSucc m=>cases h
 |_=>cases h
theorem rO(k:IntKind)(n:Int):lz k n=k.wrap n:=by
 unfold lz
 cases h:inR k n with
 |false=>rfl
 |true=>exact(DZ h).symm
theorem ss(a b:Int):ltF a b=decide (a<b):=by
 cases a with
 |ofNat m=>
  cases b with
  |ofNat n=>
   show Nat.ble (Nat.succ m) n=_
   cases h:Nat.ble (Nat.succ m) n with
   |true=>have:=Nat.le_of_ble_eq_true h;exact(decide_eq_true (by show(m:Int)<(n:Int);omega)).symm
   |false=>
    have h1:¬Nat.succ m<=n:=fun e=>by rw[Nat.ble_eq_true_of_le e] at h;cases h
    exact(decide_eq_false (by show ¬(m:Int)<(n:Int);omega)).symm
  |negSucc n=>exact(decide_eq_false (by show ¬(m:Int)<Int.negSucc n;omega)).symm
 |negSucc m=>
  cases b with
  |ofNat n=>exact(decide_eq_true (by show Int.negSucc m<(n:Int);omega)).symm
  |negSucc n=>
   show Nat.ble (Nat.succ n) m=_
   cases h:Nat.ble (Nat.succ n) m with
   |true=>have:=Nat.le_of_ble_eq_true h;exact(decide_eq_true (by omega)).symm
   |false=>
    have h1:¬Nat.succ n<=m:=fun e=>by rw[Nat.ble_eq_true_of_le e] at h;cases h
    exact(decide_eq_false (by omega)).symm
theorem BO(a b:Int):eqF a b=(a==b):=by
 have key:∀m n:Nat,Nat.beq m n=decide (m=n):=fun m n=>by
  cases h:Nat.beq m n with
  |true=>exact(decide_eq_true (Nat.eq_of_beq_eq_true h)).symm
  |false=>exact(decide_eq_false (fun e=>by subst e;rw[Nat.beq_refl] at h;cases h)).symm
 have hb:(a==b)=decide (a=b):=by
  rw[Bool.eq_iff_iff];simp
 rw[hb]
 cases a with
 |ofNat m=>
  cases b with
  |ofNat n=>
   show Nat.beq m n=_
   rw[key];simp only[Int.ofNat.injEq]
  |negSucc n=>exact(decide_eq_false (by simp)).symm
 |negSucc m=>
  cases b with
  |ofNat n=>exact(decide_eq_false (by simp)).symm
  |negSucc n=>show Nat.beq m n=_;rw[key];simp
theorem sC(a b:Int):Bool.not (decide (b<a))=decide (a<=b):=by
 rw[<-decide_not];congr 1;simp
theorem F4(op:BinOp)(k:IntKind)(a b:Int):binF op k a b=rT op k a b:=by
 cases op with
 |add=>show some (LV.int k (lz k (Int.add a b)))=_;rw[rO];rfl
 |sub=>show some (LV.int k (lz k (Int.sub a b)))=_;rw[rO];rfl
 |mul=>show some (LV.int k (lz k (Int.mul a b)))=_;rw[rO];rfl
 |eql=>show some (LV.bool (eqF a b))=_;rw[BO];rfl
 |neq=>show some (LV.bool (Bool.not (eqF a b)))=_;rw[BO];rfl
 |lss=>show some (LV.bool (ltF a b))=_;rw[ss];rfl
 |leq=>show some (LV.bool (Bool.not (ltF b a)))=_;rw[ss,sC];rfl
 |gtr=>show some (LV.bool (ltF b a))=_;rw[ss];rfl
 |geq=>show some (LV.bool (Bool.not (ltF a b)))=_;rw[ss,sC];rfl
 |_=>rfl
theorem DB(op:Op)(P:Program)(fr:Fr)(s:St):Fq op P fr s=b_ P fr op s:=by
 cases op with
 |binOp o t x y u=>
  show op2 (fun P a b s=>Aa o t P a b s) x y P fr s=_
  simp only[op2,b_]
  cases fr.eval x with
  |none=>rfl
  |some v=>
   cases fr.eval y with
   |none=>rfl
   |some z=>
    show Aa o t P v z s=bM (rZ P o t v z) s
    cases v<;>try rfl
    cases z<;>try rfl
    show bM (tv o _ _ _ _) s=bM _ s
    simp only[tv,F4];rfl
 |_=>rfl
def dZ(P:Program):Prop:=∀(f:FuncId) (fn:Func),P.funcs[f]?=some fn->fn.body.isSome=true->(fn.name == "runtime.NumGoroutine")=false
section
variable {P:Program} {ρ:Ren} {w:World}
theorem jx{f:FuncId}{args:List LV}{s s':St}{r:R}(hng:dZ P)(h:eL P f args s=some (r,s')):s'=s/\r=.enter f args/\∀xs w,(callFunc f xs).run P w=.ok (.enter f xs) w:=by
 unfold eL at h
 split at h
 ·rename_i fn hf
  split at h
  ·rename_i c hb
   cases h
   refine⟨rfl,rfl,fun xs w=>?_⟩
   have h1:=hng f fn hf (by rw[hb];rfl)
   simp only[callFunc,program,Sem.run_bind];show(Sem.run P _ w)=_
   simp[hf,h1,hb]
  ·cases h
 ·cases h
theorem Hf{t:TypeId}{a:Addr}{n:String}:(Builtin.ssaWrapNilChk_ #[t] t #[.pointer (some a),strVal "",strVal n]).run P w=.ok (.pointer (some a)) w:=rfl
theorem qg{G:Nat->Prop}{s s':St}{u:LV}{x:Value}{name:String}{us:List LV}{xs:Array Value}{r:R}(hng:dZ P)(h:iP P u name us s=some (r,s'))(hu:VR ρ u x)(hx:VRs ρ us xs.toList)(hw:WF s)(hG:Gok G s')(hr:aV G ρ s.heap w):
  OpR P G s s' ρ w r (callMethod x name xs):=by
 unfold iP at h
 split at h
 ·rename_i t v
  cases hu
  rename_i y hy
  split at h
  ·rename_i i hi
   split at h
   ·rename_i m hm
    obtain⟨hp,h⟩:=ay h;have hpl:m.path.toList=[]:=by simpa using hp
    split at h
    ·rename_i f pr hf
     have main:∀(s1 s2:St) (v1:LV) (y1:Value),eL P f (v1::us) s1=some (r,s2)->VR ρ v1 y1->aA s s1->Ext G s s1 ρ ρ w w->(receiverAt t (.val y) pr (some ((name.splitOn ".").getLastD name))).run P w=.ok y1 w->s2=s'->OpR P G s s' ρ w r (callMethod (.iface t y) name xs):=by
      intro s1 s2 v1 y1 he hv1 hm1 he1 hra e;obtain⟨rfl,rfl,hcall⟩:=jx hng he;subst e;refine⟨hm1,ρ,w,.enter f (#[y1]++xs),?_,he1,rfl,?_⟩
      ·obtain⟨k,hk⟩:∃k,P.types.size+Made.depth=k+1:=⟨P.types.size+Made.depth-1,by have:Made.depth=100:=rfl;omega⟩
       have hmeth:(method (k+1) t y name).run P w=.ok (f,y1) w:=by
        simp only[method,Sem.run_bind,ja hi,Result.andThen_ok,hm,hpl,follow,Sem.run_pure,hf];simp only[hp,if_true,hra,Result.andThen_ok]
       simp only[callMethod,program,Sem.run_bind];show Result.andThen (Sem.run P (method (P.types.size+Made.depth) t y name) w) _=_
       rw[hk,hmeth];exact hcall _ _
      ·simpa using VRs.cons hv1 hx
     split at h
     ·rename_i e0 hu0
      exact main s s' v y h hy (aA.refl s) (bB hr) (by simp[receiverAt,run_underlying hu0,Place.get]) rfl
     ·rename_i e0 hu0
      split at h
      ·rename_i v1 s1 hl
       obtain⟨rfl,rfl,_⟩:=jx hng h;obtain⟨v2,hv2,hm1,y2,hrun,he1,hvr⟩:=n_ (P:=P) hl hy hw hG hr
       cases hv2
       refine main s' s' v1 y2 h hvr hm1 he1 ?_ rfl
       cases hy with
       |ptr hp0=>
        simp only[Instr.loadAt,Instr.sureAddr,Sem.run_bind,Sem.run_pure,Result.andThen_ok] at hrun
        simp[receiverAt,run_underlying hu0,Place.get,Hf,asAddr,hrun]
       |_=>unfold fR at hl;cases hl
      ·cases h
     ·rename_i d hnp hu0
      refine main s s' v y h hy (aA.refl s) (bB hr) ?_ rfl;simp only[receiverAt,Sem.run_bind,run_underlying hu0,Result.andThen_ok]
      cases d<;>first|rfl|exact absurd rfl (hnp _)
     ·cases h
    ·cases h
   ·cases h
  ·cases h
 ·cases h
theorem CC{fr f:Fr}{dst:Option Tmp}{v:LV}(h:fr.put dst v=some f):Fr.put {fr with marks:=[],rnd:=true} dst v=some {f with marks:=[],rnd:=true}:=by
 unfold Fr.put at h ⊢
 cases dst with
 |none=>cases h;rfl
 |some d=>
  obtain⟨h1,h⟩:=ay h
  cases h
  dsimp only;rw[h1];rfl
theorem xw:∀{ps:List Tmp} {vs:List LV} {xs:List Value} {fr f:Fr} {tmps:Array Value},fr.uf ps vs=some f->VRs ρ vs xs->bH ρ {fr with marks:=[],rnd:=true} {tmps:=tmps,defers:=[]}->
  ps.length=xs.length/\bH ρ {f with marks:=[],rnd:=true} {tmps:=(ps.zip xs).foldl (fun t pv=>t.setIfInBounds pv.1 pv.2) tmps,defers:=[]}
 | [],vs,xs,fr,f,tmps,h,hv,ht=>by
  cases vs with
  |nil=>cases hv;cases h;exact⟨rfl,ht⟩
  |cons v vs=>simp[Fr.uf] at h
 |p::ps,vs,xs,fr,f,tmps,h,hv,ht=>by
  cases vs with
  |nil=>simp[Fr.uf] at h
  |cons v vs=>
   obtain _|⟨hv1,hv2⟩:=hv
   simp only[Fr.uf] at h
   split at h
   ·rename_i f1 hp
    have h1:=ht.put (CC hp) hv1;obtain⟨h2,h3⟩:=xw h hv2 h1;exact⟨by simp[h2],h3⟩
   ·cases h
theorem Ar{G:Nat->Prop}{s s':St}{n:Nat}{p:Pl}{us:List LV}{xs:Array Value}{r:R}(h:pg n us s=some (r,s'))(hp:ρ n=some p)(hx:VRs ρ us xs.toList)(hw:WF s)(hG:Gok G s')(hr:aV G ρ s.heap w):
  OpR P G s s' ρ w r (Instr.yield p.blk xs):=by
 unfold pg at h
 split at h
 ·rename_i b hb
  split at h
  ·rename_i r0 hlp
   split at h
   ·rename_i f hst hf
    cases h
    have hl:Live s.heap n:=by unfold Live;rw[hb];simp
    have hGn:=gR hw hl hG;obtain⟨q,hq,L,hL,hLR⟩:=(hr.rep n b hGn hb).other _ hlp;rw[hp] at hq
    cases hq
    have h0:bH ρ {r0.fr with marks:=[],rnd:=true} {tmps:=L.tmps,defers:=[]}:=⟨hLR.A5,hLR.E7,hLR.room,.nil⟩
    obtain⟨h1,h2⟩:=xw hf hx h0;have hsz:xs.size=L.params.size:=by
     have:=hLR.params;rw[<-this] at h1
     simp at h1
     omega
    refine⟨cA s n,ρ,w,_,run_yield hL hsz,gO n hr,p,hp,rfl,hLR.assign,hLR.body,?_⟩;have e:(L.params.zip xs).foldl (fun t (p,v)=>t.setIfInBounds p v) L.tmps=(r0.ps.zip xs.toList).foldl (fun t pv=>t.setIfInBounds pv.1 pv.2) L.tmps:=by
     rw[<-hLR.params,<-Array.foldl_toList];simp
    rw[e];exact h2
   ·cases h
  ·cases h
 ·cases h
theorem BF{G:Nat->Prop}{s s':St}{fr:Fr}{a:Act}{c:Call}{ty:TypeId}{r:R}(hng:dZ P)(h:lT P fr c s=some (r,s'))(ht:bH ρ fr a)(hw:WF s)(hG:Gok G s')(hr:aV G ρ s.heap w)(hf:bg ρ s s'):
  OpR P G s s' ρ w r (do let d <-resolve a.eval c ty;invoke d.target d.args):=by
 unfold lT at h
 split at h
 ·cases h
 ·rename_i args hargs
  have hv:=kT ht hargs;have hl:(c.args.map a.eval).toList=c.args.toList.map a.eval:=by simp
  split at h
  ·rename_i b hc
   obtain⟨hm,ρ',w',nx,h1,h2,h3⟩:=wk (P:=P) (ty:=ty) (cb:=c.args.map fun | .const _=>true|_=>false) h hv hw hG hr hf
   refine⟨hm,ρ',w',nx,?_,h2,h3⟩;simp only[resolve,hc,Sem.run_bind,Sem.run_pure,Result.andThen_ok,invoke];have e1:(c.args.toList.map a.eval).toArray=c.args.map a.eval:=by apply Array.ext';simp
   have e2:c.argTypes.toList.toArray=c.argTypes:=by simp
   rw[e1,e2] at h1
   exact h1
  ·rename_i q name hc
   split at h
   ·rename_i u hu
    obtain⟨hm,ρ',w',nx,h1,h2,h3⟩:=qg (P:=P) hng h (aU ht hu) (by rw[<-hl] at hv;exact hv) hw hG hr
    refine⟨hm,ρ',w',nx,?_,h2,h3⟩;simp only[resolve,hc,Sem.run_bind,Sem.run_pure,Result.andThen_ok,invoke];have e1:(#[a.eval q]++c.args.map a.eval)[0]?=some (a.eval q):=by rw[Array.getElem?_append_left (by simp)];rfl
    have e2:(#[a.eval q]++c.args.map a.eval).extract 1 (#[a.eval q]++c.args.map a.eval).size=c.args.map a.eval:=by apply Array.ext';simp;exact List.take_of_length_le (by simp)
    rw[e1,e2];exact h1
   ·cases h
  ·rename_i q hc
   split at h
   ·rename_i g first captured hu
    obtain⟨rfl,rfl,hcall⟩:=jx hng h;have hq:=aU ht hu;generalize he:a.eval q=fv at hq
    cases hq
    rename_i xf xc h1 h2
    refine⟨aA.refl _,ρ,w,.enter g (xf.toArray++c.args.map a.eval++xc.toArray),?_,bB hr,rfl,?_⟩
    ·simp only[resolve,hc,he,Deferred.ofValue,Sem.run_bind,Sem.run_pure,Result.andThen_ok,invoke]
     exact hcall _ _
    ·have:=(h1.append hv).append h2
     simpa using this
   ·rename_i name first captured hu
    split at h
    ·rename_i r0 rest hfa
     have hq:=aU ht hu;generalize he:a.eval q=fv at hq
     cases hq
     rename_i xf xc h1 h2
     have hall:=h1.append hv;rw[hfa] at hall
     generalize hfx:xf++c.args.toList.map a.eval=ys at hall
     obtain _|⟨hr0,hrest⟩:=hall
     rename_i y0 yrest
     have harr:xf.toArray++c.args.map a.eval=(y0::yrest).toArray:=by rw[<-hfx];apply Array.ext';simp
     obtain⟨hm,ρ',w',nx,h3,h4,h5⟩:=qg (P:=P) (xs:=yrest.toArray) hng h hr0 (by simpa using hrest) hw hG hr
     refine⟨hm,ρ',w',nx,?_,h4,h5⟩;simp only[resolve,hc,he,Deferred.ofValue,Sem.run_bind,Sem.run_pure,Result.andThen_ok,invoke,harr];have e1:(y0::yrest).toArray[0]?=some y0:=by simp
     have e2:(y0::yrest).toArray.extract 1 (y0::yrest).toArray.size=yrest.toArray:=by apply Array.ext';simp
     rw[e1,e2];exact h3
    ·cases h
   ·rename_i n hu
    have hq:=aU ht hu;generalize he:a.eval q=fv at hq
    cases hq
    rename_i p hp
    obtain⟨hm,ρ',w',nx,h3,h4,h5⟩:=Ar (P:=P) (xs:=c.args.map a.eval) h hp (by rw[hl];exact hv) hw hG hr
    refine⟨hm,ρ',w',nx,?_,h4,h5⟩;simp only[resolve,hc,he,Deferred.ofValue,Sem.run_bind,Sem.run_pure,Result.andThen_ok,invoke];have e1:#[]++c.args.map a.eval=c.args.map a.eval:=by simp
    rw[e1];exact h3
   ·cases h
theorem qO{fr:Fr}{a:Act}(ht:bH ρ fr a){q:Option Operand}{v:Option LV}(h:fr.iu q=some v):OR ρ v (q.map a.eval):=by
 cases q with
 |none=>cases h;trivial
 |some x=>
  unfold Fr.iu at h
  split at h
  ·contradiction
  ·rename_i y e
   cases e
   split at h
   ·rename_i u hu
    cases h
    exact aU ht hu
   ·cases h
theorem jU{G:Nat->Prop}{s s':St}{fr:Fr}{a:Act}{o:Oper}{r:R}(hng:dZ P)(h:b_ P fr o.op s=some (r,s'))(ht:bH ρ fr a)(hw:WF s)(hG:Gok G s')(hr:aV G ρ s.heap w)(hf:bg ρ s s'):
  OpR P G s s' ρ w r (execOp a.eval o):=by
 obtain⟨dst,op,type,pos,after,guard⟩:=o;dsimp only at h
 unfold b_ at h
 split at h
 ·obtain⟨v,hv,rfl,rfl⟩:=cm h
  exact⟨aA.refl _,ρ,w,.value _,rfl,bB hr,aU ht hv⟩
 ·obtain⟨v,hv,rfl,rfl⟩:=cm h
  exact⟨aA.refl _,ρ,w,.value _,rfl,bB hr,aU ht hv⟩
 ·rename_i c x y
  split at h
  ·rename_i t u v hc hx hy
   cases h
   have h1:=aU ht hc;generalize he:a.eval c=cv at h1
   cases h1
   refine⟨aA.refl _,ρ,w,.value (if t then a.eval x else a.eval y),?_,bB hr,?_⟩
   ·simp[execOp,he,asBool]
   ·cases t
    ·exact aU ht hy
    ·exact aU ht hx
  ·cases h
 ·rename_i elem
  have hm:aA s s':=by
   unfold iO at h
   split at h
   ·obtain⟨n,hn,_⟩:=fo h;exact bG hn
   ·cases h
  have hv:∃v,r=.val v:=by
   unfold iO at h
   split at h
   ·obtain⟨n,hn,e⟩:=fo h;exact⟨_,e⟩
   ·cases h
  obtain⟨v,rfl⟩:=hv;exact .jQ hm (Ae h hr hf) rfl
 ·rename_i elem x
  split at h
  ·rename_i u hu
   obtain⟨n,hn,rfl⟩:=fo h;exact .jQ (bG hn) (Dy h (aU ht hu) hr hf) rfl
  ·cases h
 ·rename_i t parts
  split at h
  ·rename_i ps hps
   have hp:=oF ht hps;have e:(parts.map fun p=>(p.1,a.eval p.2)).toList=parts.toList.map fun p=>(p.1,a.eval p.2):=by simp
   rw[<-e] at hp
   obtain⟨rfl,v,rfl,hv⟩:=Ag (P:=P) (w:=w) h hp;exact .dW hr hv rfl
  ·cases h
 ·rename_i t len parts
  split at h
  ·rename_i ps hps
   have hp:=oF ht hps;have e:(parts.map fun p=>(p.1,a.eval p.2)).toList=parts.toList.map fun p=>(p.1,a.eval p.2):=by simp
   rw[<-e] at hp
   obtain⟨hm,v,rfl,hv⟩:=r8 (P:=P) (w:=w) h hp hr hf;exact .jQ hm hv rfl
  ·cases h
 ·split at h
  ·rename_i u hu
   obtain⟨v,rfl,hm,y,h1,h2,h3⟩:=n_ (P:=P) h (aU ht hu) hw hG hr;exact .jQ hm ⟨ρ,w,y,h1,h2,h3⟩ rfl
  ·cases h
 ·split at h
  ·rename_i u v hu hv
   obtain⟨rfl,hm,w',h1,h2⟩:=Ap (P:=P) h (aU ht hu) (aU ht hv) hw hG hr;exact⟨hm,ρ,w',.skip,by simp[execOp,h1],h2,trivial⟩
  ·cases h
 ·rename_i q
  split at h
  ·rename_i u hu
   obtain⟨rfl,v,rfl,y,h1,h2⟩:=vw (P:=P) (w:=w) (o:=⟨dst,.nilCheck q,type,pos,after,guard⟩) (a:=a) rfl h (aU ht hu);exact⟨aA.refl _,ρ,w,.value y,h1,bB hr,h2⟩
  ·cases h
 ·split at h
  ·rename_i u v hu hv
   obtain⟨x,hx,rfl,rfl⟩:=cm h;exact .dW hr (Dx hx (aU ht hu) (aU ht hv)) rfl
  ·cases h
 ·split at h
  ·rename_i u hu
   obtain⟨x,hx,rfl,rfl⟩:=cm h;exact .dW hr (F_ hx (aU ht hu)) rfl
  ·cases h
 ·split at h
  ·rename_i u hu
   obtain⟨x,hx,rfl,rfl⟩:=cm h;exact .dW hr (wm hx (aU ht hu)) rfl
  ·cases h
 ·split at h
  ·rename_i u hu
   obtain⟨x,hx,rfl,rfl⟩:=cm h;exact .dW hr (tJ hx (aU ht hu)) rfl
  ·cases h
 ·rename_i fn first captured
  split at h
  ·rename_i u v hu hv
   cases h
   have h1:=kT ht hu;have h2:=kT ht hv;refine⟨aA.refl _,ρ,w,.value (.func fn (first.map a.eval) (captured.map a.eval)),by simp[execOp,Instr.makeFunc],bB hr,?_⟩
   have:=VR.func (fn:=fn) h1 h2;have e1:(first.toList.map a.eval).toArray=first.map a.eval:=by apply Array.ext';simp
   have e2:(captured.toList.map a.eval).toArray=captured.map a.eval:=by apply Array.ext';simp
   rw[e1,e2] at this
   exact this
  ·cases h
 ·split at h
  ·rename_i u v hu hv
   obtain⟨hm,z,rfl,hz⟩:=tK (P:=P) (w:=w) h (aU ht hu) (aU ht hv) hr hf;exact .jQ hm hz rfl
  ·cases h
 ·split at h
  ·rename_i u lo hi mx hu hlo hhi hmx
   obtain⟨hm,ρ',e,v,rfl,y,h1,h2⟩:=Ao (P:=P) (w:=w) h (aU ht hu) (qO ht hlo) (qO ht hhi) (qO ht hmx) hw hG hr hf;exact .jQ hm ⟨ρ',w,y,h1,e,h2⟩ rfl
  ·cases h
 ·split at h
  ·rename_i u hu
   obtain⟨x,hx,rfl,rfl⟩:=cm h;exact .dW hr (tG hx (aU ht hu)) rfl
  ·cases h
 ·split at h
  ·rename_i u hu
   obtain⟨x,hx,rfl,rfl⟩:=cm h;exact .dW hr (Aj hx (aU ht hu)) rfl
  ·cases h
 ·split at h
  ·rename_i u v hu hv
   obtain⟨x,hx,rfl,rfl⟩:=cm h;exact .dW hr (tI hx (aU ht hu) (aU ht hv)) rfl
  ·cases h
 ·split at h
  ·rename_i u v hu hv
   obtain⟨x,hx,rfl,rfl⟩:=cm h;exact .dW hr (Ak hx (aU ht hu) (aU ht hv)) rfl
  ·cases h
 ·split at h
  ·rename_i u hu
   obtain⟨x,hx,rfl,rfl⟩:=cm h;exact .dW hr (yq hx (aU ht hu)) rfl
  ·cases h
 ·split at h
  ·rename_i u hu
   obtain⟨x,hx,rfl,rfl⟩:=cm h;exact .dW hr (wo hx (aU ht hu)) rfl
  ·cases h
 ·exact BF hng h ht hw hG hr hf
 ·cases h
end
def Fw(ro:Option Nat):Fence:={Fence.wide with round:=ro}
def jG:Ex->Exit
 | .normal=>.normal
 | .exit id=>.exit id
 | .ret=>.ret
def fg(F:Fence)(n:Nat)(P:Program)(c:Code)(Q:Exit->Act->World->Prop)(a:Act)(w:World):Prop:=
 ∀(b:Frame) (k:List Item) (cs:List Frame),b.roundOf=F.round->F.fn b.fn->F.room (cs.length+1+n)->
  ∃e a' w',Q e a' w'/\ArrivesIn (Machine.fenced P F) P (lone (b.atR a (.code c :: .inLoop c::k)) cs w) b k cs e a' w'
variable {n:Nat} {w:World}
theorem fg.wp{F:Fence}{P:Program}{c:Code}{Q:Exit->Act->World->Prop}{a:Act}(h:fg F n P c Q a w):(Code.loop c).wpIn F n P Q a w:=by
 intro b k cs hro hb hr;obtain⟨e,a',w',hq,harr⟩:=h b k cs hro hb hr;exact⟨e,a',w',hq,.of_steps (.one (fenced_calm hb hr rfl) stepR_loop) harr⟩
def wpS(F:Fence)(n:Nat)(P:Program)(c:Code)(Q:Exit->Act->World->Prop)(a:Act)(w:World):Prop:=
 match c with
 | .loop d=>fg F n P d Q a w
 |c=>c.wpIn F n P Q a w
theorem wpS.wp{F:Fence}{P:Program}{c:Code}{Q:Exit->Act->World->Prop}{a:Act}(h:wpS F n P c Q a w):c.wpIn F n P Q a w:=by
 cases c<;>first|exact h|exact fg.wp h
def vP(P:Program)(c:Code)(fr:Fr)(s:St)(e:Ex)(fr':Fr)(s':St):Prop:=
 ∀(ro:Option Nat) (G:Nat->Prop) (ρ:Ren) (w:World) (a:Act) (Q:Exit->Act->World->Prop),(fr.rnd=false->ro=none)->Gok G s'->aV G ρ s.heap w->bg ρ s s'->bH ρ fr a->
  (∀ρ' w' a',Ext G s s' ρ ρ' w w'->bH ρ' fr' a'->Q (jG e) a' w')->wpS (Fw ro) 0 P c Q a w
def Bc(P:Program)(f:FuncId)(args:List LV)(s:St)(v:LV)(s':St):Prop:=
 ∀(G:Nat->Prop) (ρ:Ren) (w:World) (xs:Array Value),Gok G s'->aV G ρ s.heap w->bg ρ s s'->VRs ρ args xs.toList->
  CallsIn Fence.wide 0 P f xs w fun e w'=>∃ρ' x,e=.returned x/\VR ρ' v x/\Ext G s s' ρ ρ' w w'
def rS(P:Program):Task->St->Ans->St->Prop
 | .code c fr,s,.code e fr',s'=>aA s s'/\fr'.rnd=fr.rnd/\vP P c fr s e fr' s'
 | .call f args,s,.call v,s'=>aA s s'/\Bc P f args s v s'
 |_,_,_,_=>False
def Good(P:Program)(rec:Task->St->Option (Ans×St)):Prop:=∀t s r s',WF s->rec t s=some (r,s')->rS P t s r s'
section
variable {P:Program}
theorem eT{ρ:Ren}{fr:Fr}{a:Act}(ht:bH ρ fr a)(ops:Array Oper)(o:Oper):Region.wanted o (yielded ops a.tmps)=dN fr ops o:=by
 unfold Region.wanted dN
 cases o.guard with
 |none=>rfl
 |some p=>
  obtain⟨j,want⟩:=p;dsimp only;unfold yielded
  cases hj:ops[j]? with
  |none=>simp
  |some g=>
   dsimp only[Option.bind_some]
   cases hd:g.dst with
   |none=>simp
   |some d=>
    dsimp only[Option.bind_some];have hv:=ht.val d
    cases hx:a.tmps[d]? with
    |none=>
     have:a.tmps.getD d undef=undef:=by rw[Array.getD_eq_getD_getElem?,hx];rfl
     rw[this] at hv
     generalize fr.get d=l at hv ⊢
     cases hv
     cases want<;>rfl
    |some x=>
     have:a.tmps.getD d undef=x:=by rw[Array.getD_eq_getD_getElem?,hx];rfl
     rw[this] at hv
     generalize fr.get d=l at hv ⊢
     cases hv<;>first|(cases want<;>rfl)|(rename_i b;cases b<;>cases want<;>rfl)
theorem fF{α:Type}{b:Bool}{x y:Option α}{z:α}(h:cond b x y=some z):(b=true/\x=some z)\/(b=false/\y=some z):=by
 cases b
 ·exact .inr ⟨rfl,h⟩
 ·exact .inl ⟨rfl,h⟩
theorem lF{t:TypeId}{u:LV}{s s':St}{r:R}(h:fR P t u s=some (r,s')):aA s s':=by
 unfold fR at h
 split at h
 ·rename_i n off
  split at h
  ·rename_i b s1 hl ha
   obtain⟨hb,rfl,hlp⟩:=look_eq hl;split at h
   ·split at h
    ·cases h;exact cA s n
    ·cases h
   ·cases h
  ·rename_i b s1 hl ha
   obtain⟨hb,rfl,hlp⟩:=look_eq hl;split at h
   ·cases h;exact cA s n
   ·cases h
  ·cases h
 ·cases h
theorem vu{ts:List TypeId}{us:List LV}{s s':St}{r:R}(hw:WF s)(h:ki P ts us s=some (r,s')):aA s s':=by
 unfold ki at h
 split at h
 ·split at h
  ·split at h
   ·cases h
   ·split at h
    ·obtain⟨_,h⟩:=ay h
     split at h
     ·cases h
     ·rename_i new s1 hf
      have hm1:=eZ hf;have hw1:=hm1.wf hw;obtain⟨_,h⟩:=ay h;split at h
      ·rcases fF h with ⟨_,h⟩|⟨_,h⟩
       ·cases h;exact hm1
       ·split at h
        ·rename_i hnew;cases h;exact hm1.trans (bG hnew)
        ·cases h
      ·obtain⟨_,h⟩:=ay h
       split at h
       ·rcases fF h with ⟨_,h⟩|⟨_,h⟩
        ·split at h
         ·rename_i hst;cases h;exact hm1.trans (dt hw1 hst)
         ·cases h
        ·split at h
         ·cases h
         ·rename_i b s2 hl
          obtain⟨hb,rfl,hlp⟩:=look_eq hl;split at h
          ·cases h
          ·split at h
           ·rename_i hnew;cases h;exact hm1.trans ((cA _ _).trans (bG hnew))
           ·cases h
       ·split at h
        ·cases h
        ·rename_i b s2 hl
         obtain⟨hb,rfl,hlp⟩:=look_eq hl;split at h
         ·cases h
         ·obtain⟨_,h⟩:=ay h
          rcases fF h with ⟨_,h⟩|⟨_,h⟩
          ·split at h
           ·rename_i hst;cases h;exact hm1.trans (dt hw1 hst)
           ·cases h
          ·split at h
           ·cases h
           ·split at h
            ·rename_i hnew
             cases h
             exact hm1.trans (uO hw1 (by unfold Live;rw[hb];simp) hnew)
            ·cases h
      ·cases h
    ·cases h
  ·cases h
 ·cases h
theorem tF{ts:List TypeId}{us:List LV}{s s':St}{r:R}(hw:WF s)(h:ju P ts us s=some (r,s')):aA s s':=by
 unfold ju at h
 split at h
 ·rename_i hd
  cases h
  exact vu hw hd
 ·unfold kO at h
  split at h
  ·split at h
   ·split at h
    ·obtain⟨_,h⟩:=ay h
     split at h
     ·rename_i hnew;cases h;exact bG hnew
     ·cases h
    ·cases h
   ·cases h
  ·cases h
theorem yr{ts:List TypeId}{us:List LV}{s s':St}{r:R}(hw:WF s)(h:nZ P ts us s=some (r,s')):aA s s':=by
 unfold nZ at h
 split at h
 ·split at h
  ·split at h
   ·split at h
    ·cases h
    ·rename_i cs s1 hf
     have hm1:=eZ hf;split at h
     ·split at h
      ·rename_i hst;cases h;exact hm1.trans (dt (hm1.wf hw) hst)
      ·cases h
     ·cases h;exact hm1
     ·cases h
   ·cases h
  ·cases h
 ·cases h
theorem wu{t:TypeId}{u:LV}{lo hi mx:Option LV}{s s':St}{r:R}(h:jV P t u lo hi mx s=some (r,s')):aA s s':=by
 unfold jV at h
 split at h
 ·rename_i elem n off len c hu
  split at h
  ·split at h
   ·rename_i v s1 hs
    cases h
    unfold uk at hs
    split at hs
    ·cases hs
    ·rename_i k sure hc
     have hm:aA s (cond sure s (s.bJ n)):=by
      cases sure
      ·exact cA s n
      ·exact aA.refl s
     dsimp only at hs;split at hs
     ·rcases fF hs with ⟨_,hs⟩|⟨_,hs⟩
      ·cases hs;exact hm
      ·obtain⟨_,hs⟩:=ay hs
       rcases fF hs with ⟨_,hs⟩|⟨_,hs⟩
       ·cases hs;exact hm
       ·split at hs
        ·rename_i hfr;cases hs;exact hm.trans (sx hfr)
        ·cases hs
     ·split at hs
      ·obtain⟨_,hs⟩:=ay hs;cases hs;exact hm
      ·cases hs
     ·cases hs
   ·cases h
  ·cases h
 ·obtain⟨_,h⟩:=ay h;cases h;exact aA.refl s
 ·split at h
  ·obtain⟨_,h⟩:=ay h;cases h;exact aA.refl s
  ·cases h
 ·cases h
theorem jm{f:FuncId}{args:List LV}{s s':St}{r:R}(h:eL P f args s=some (r,s')):s'=s:=by
 unfold eL at h
 split at h
 ·split at h
  ·cases h;rfl
  ·cases h
 ·cases h
theorem nH{u:LV}{name:String}{us:List LV}{s s':St}{r:R}(h:iP P u name us s=some (r,s')):aA s s':=by
 unfold iP at h
 split at h
 ·split at h
  ·split at h
   ·obtain⟨_,h⟩:=ay h
    split at h
    ·split at h
     ·rw[jm h];exact aA.refl s
     ·split at h
      ·rename_i hl;rw[jm h];exact lF hl
      ·cases h
     ·rw[jm h];exact aA.refl s
     ·cases h
    ·cases h
   ·cases h
  ·cases h
 ·cases h
theorem bS{v:Option LV}{s s':St}{r:R}(h:bM v s=some (r,s')):aA s s':=by
 obtain⟨_,_,_,rfl⟩:=cm h;exact aA.refl _
theorem gM{fr:Fr}{op:Op}{s s':St}{r:R}(hw:WF s)(h:b_ P fr op s=some (r,s')):aA s s':=by
 unfold b_ at h
 split at h
 ·exact bS h
 ·exact bS h
 ·split at h
  ·cases h;exact aA.refl _
  ·cases h
 ·unfold iO at h
  split at h
  ·obtain⟨n,hn,_⟩:=fo h;exact bG hn
  ·cases h
 ·split at h
  ·obtain⟨n,hn,_⟩:=fo h;exact bG hn
  ·cases h
 ·split at h
  ·unfold lS at h
   split at h
   ·split at h
    ·split at h
     ·cases h;exact aA.refl _
     ·cases h
    ·cases h
   ·cases h
  ·cases h
 ·split at h
  ·unfold fh at h
   split at h
   ·split at h
    ·obtain⟨_,h⟩:=ay h
     split at h
     ·split at h
      ·rename_i hn;cases h;exact bG hn
      ·cases h
     ·cases h
    ·cases h
   ·cases h
  ·cases h
 ·split at h
  ·exact lF h
  ·cases h
 ·split at h
  ·unfold lV at h
   split at h
   ·obtain⟨_,h⟩:=ay h
    split at h
    ·rename_i hst;cases h;exact dt hw hst
    ·cases h
   ·cases h
  ·cases h
 ·split at h
  ·unfold il at h
   split at h<;>cases h<;>exact aA.refl _
  ·cases h
 ·split at h
  ·exact bS h
  ·cases h
 ·split at h
  ·exact bS h
  ·cases h
 ·split at h
  ·exact bS h
  ·cases h
 ·split at h
  ·exact bS h
  ·cases h
 ·split at h
  ·cases h;exact aA.refl _
  ·cases h
 ·split at h
  ·unfold fS at h
   split at h
   ·split at h
    ·obtain⟨_,h⟩:=ay h
     split at h
     ·rename_i hn;cases h;exact bG hn
     ·cases h
    ·cases h
   ·cases h
  ·cases h
 ·split at h
  ·exact wu h
  ·cases h
 ·split at h
  ·exact bS h
  ·cases h
 ·split at h
  ·exact bS h
  ·cases h
 ·split at h
  ·exact bS h
  ·cases h
 ·split at h
  ·exact bS h
  ·cases h
 ·split at h
  ·exact bS h
  ·cases h
 ·split at h
  ·exact bS h
  ·cases h
 ·unfold lT at h
  split at h
  ·cases h
  ·split at h
   ·unfold kP at h
    split at h
    ·exact tF hw h
    ·exact yr hw h
    ·exact nY hw h
    ·exact bS h
    ·exact bS h
    ·split at h
     ·exact bS h
     ·cases h
    ·split at h
     ·exact bS h
     ·cases h
    ·cases h
   ·split at h
    ·exact nH h
    ·cases h
   ·split at h
    ·rw[jm h];exact aA.refl _
    ·split at h
     ·exact nH h
     ·cases h
    ·unfold pg at h
     split at h
     ·split at h
      ·split at h
       ·cases h;exact cA _ _
       ·cases h
      ·cases h
     ·cases h
    ·cases h
 ·cases h
theorem ny{G:Nat->Prop}{s:St}{n:Nat}{p:Pl}{ρ:Ren}{w:World}{r:ff}{L L':Loop}(st:LSt)(hw:WF s)(hl:Live s.heap n)(hG:G n)(hr:aV G ρ s.heap w)(hp:ρ n=some p)(hL:w.heap[p.blk]?=some (.loop L))(hL':jL ρ {r with st:=st} L'):
  aA s (s.gX n r st)/\Ext G s (s.gX n r st) ρ ρ w (w.putObj p.blk (.loop L')):=by
 have hlt:=cL hw hl;have h9:=Nat.lt_of_lt_of_le hlt hw.lt;have hb:=(Array.getElem?_eq_some_iff.1 hL).1;refine⟨fm _ h9 hl hlt,wD h9 hlt hl hG hr hp ⟨fun e=>(by cases e),fun x hx=>?_⟩ (fun k hk=>World.putObj_heap_other hk) (by simp) rfl rfl rfl⟩
 cases hx
 exact⟨p,hp,L',World.putObj_heap_same hb,hL'⟩
theorem uL{b:Option Blk}{r:ff}(h:iz b=some r):∃c,b=some c/\c.lp=some (.loop r):=by
 unfold iz at h
 split at h
 ·rename_i c
  split at h
  ·rename_i r hl;cases h;exact⟨c,rfl,hl⟩
  ·cases h
 ·cases h
theorem pH{G:Nat->Prop}{s:St}{n:Nat}{p:Pl}{ρ:Ren}{w:World}{r:ff}(h:iz (s.heap.get n)=some r)(hG:G n)(hr:aV G ρ s.heap w)(hp:ρ n=some p):Live s.heap n/\∃L,w.heap[p.blk]?=some (.loop L)/\jL ρ r L:=by
 obtain⟨c,hc,hlp⟩:=uL h;obtain⟨q,hq,L,hL,hLR⟩:=(hr.rep n c hG hc).other _ hlp;rw[hp] at hq
 cases hq
 exact⟨by unfold Live;rw[hc];simp,L,hL,hLR⟩
theorem kX{s:St}{n:Nat}{r:ff}(h:iz (s.heap.get n)=some r):Live s.heap n:=by
 obtain⟨c,hc,_⟩:=uL h;unfold Live;rw[hc];simp
theorem jL.E6{ρ:Ren}{r:ff}{L:Loop}(h:jL ρ r L)(st:LSt)(state:LoopState)(pend:Option Code)(hs:match st with
  | .ready=>state=.ready/\pend=none
  | .busy=>state=.busy
  | .done e=>state=.done/\pend=some (wB e)):jL ρ {r with st:=st} {L with state:=state,pending:=pend}:=
 ⟨h.params,h.assign,h.body,h.A5,h.E7,h.room,hs⟩
theorem kF{s:St}{n:Nat}{r:ff}{st:LSt}(hw:WF s)(hl:Live s.heap n):aA s (s.gX n r st):=fm _ (Nat.lt_of_lt_of_le (cL hw hl) hw.lt) hl (cL hw hl)
theorem yt{n:Nat}{e:Ex}{f2:Fr}{s s':St}{v:LV}(hw:WF s)(h:endRound n e f2 s=some (v,s')):aA s s'/\∀(G:Nat->Prop) (ρ:Ren) (w:World) (p:Pl) (a:Act) (R:Ending->World->Prop),G n->aV G ρ s.heap w->ρ n=some p->
  (∀x w',VR ρ v x->Ext G s s' ρ ρ w w'->R (.returned x) w')->roundPost P p.blk R (jG e) a w:=by
 unfold endRound at h
 split at h
 ·rename_i r2 hl hmk
  have hlive:=kX hl;split at h
  ·rename_i hst
   split at h
   ·cases h
    refine⟨kF hw hlive,fun G ρ w p a R hG hr hp hR=>?_⟩
    obtain⟨_,L,hL,hLR⟩:=pH hl hG hr hp;have h1:=ny .ready hw hlive hG hr hp hL (hLR.E6 .ready .ready none ⟨rfl,rfl⟩);exact⟨_,_,run_endRound none hL,hR _ _ (.bool true) h1.2⟩
   ·rename_i hne
    cases h
    refine⟨kF hw hlive,fun G ρ w p a R hG hr hp hR=>?_⟩
    obtain⟨_,L,hL,hLR⟩:=pH hl hG hr hp;have h1:=ny (.done e) hw hlive hG hr hp hL (hLR.E6 (.done e) .done (some (wB e)) ⟨rfl,rfl⟩)
    cases e with
    |normal=>exact(hne rfl).elim
    |exit id=>exact⟨_,_,run_endRound (some (.exit id)) hL,hR _ _ (.bool false) h1.2⟩
    |ret=>exact⟨_,_,run_endRound (some .ret) hL,hR _ _ (.bool false) h1.2⟩
  ·cases h
 ·cases h
theorem yJ{rec:Task->St->Option (Ans×St)}(hg:Good P rec){n:Nat}{r:ff}{f:Fr}{s s':St}{v:LV}(hw:WF s)(h:np rec n r f s=some (v,s')):aA s s'/\
  ∀(ro:Option Nat) (G:Nat->Prop) (ρ:Ren) (w:World) (p:Pl) (tmps:Array Value) (fn:FuncId) (R:Ending->World->Prop),G n->n<s.next->Gok G s'->aV G ρ s.heap w->bg ρ s s'->ρ n=some p->bH ρ {f with marks:=[],rnd:=true} {tmps:=tmps,defers:=[]}->
   (∀ρ' x w',VR ρ' v x->Ext G s s' ρ ρ' w w'->R (.returned x) w')->RoundIn (Fw ro) 0 P p.blk fn tmps r.assign r.body w R:=by
 unfold np at h
 split at h
 ·rename_i f1 s1 h1
  obtain⟨hm1,hrn1,hc1⟩:=hg _ _ _ _ hw h1;have hw1:=hm1.wf hw;split at h
  ·rename_i r1 hl1 hmk1
   have hlive1:=kX hl1;split at h
   ·rename_i hst1
    split at h
    ·rename_i e f2 s2 h2
     have hmb:=kF (r:=r1) (st:=.busy) hw1 hlive1;have hwb:=hmb.wf hw1;obtain⟨hm2,hrn2,hc2⟩:=hg _ _ _ _ hwb h2;have hw2:=hm2.wf hwb;obtain⟨hm3,hend⟩:=yt (P:=P) hw2 h;have hm12:=hm1.trans (hmb.trans hm2);refine⟨hm12.trans hm3,fun ro G ρ w p tmps fn R hGn hnlt hG hr hf hp ht hR=>?_⟩
     have hG2:=hG.back hm3;have hGb:=hG2.back hm2;have hG1:=hGb.back hmb;have hle1:∀ρ1 w1,Ext G s s1 ρ ρ1 w w1->ρ1 n=some p:=fun ρ1 w1 e1=>by rw[e1.out n (.inl hnlt)];exact hp
     refine roundIn_of_wpIn (F:=Fw ro) trivial (wpS.wp (hc1 (some p.blk) G ρ w _ _ (fun e=>by cases e) hG1 hr (hf.left (hmb.trans (hm2.trans hm3))) ht fun ρ1 w1 a1 e1 ht1=>?_))
     have hp1:=hle1 ρ1 w1 e1;obtain⟨_,L,hL,hLR⟩:=pH hl1 hGn e1.rep hp1;have hready:L.state=.ready:=by have:=hLR.st;rw[hst1] at this;exact this.1
     have hb:=ny (r:=r1) .busy hw1 hlive1 hGn e1.rep hp1 hL (hLR.E6 .busy .busy L.pending rfl);refine⟨_,run_beginRound hL hready,?_⟩;have hf1:bg ρ1 s1 s':=hf.right hm1 e1;have hfb:bg ρ1 (s1.gX n r1 .busy) s':=hf1.right hmb hb.2;refine wpS.wp (hc2 (some p.blk) G ρ1 _ a1 _ (fun e=>by rw[hrn1] at e;cases e) hG2 hb.2.rep (hfb.left hm3) ht1 fun ρ2 w2 a2 e2 ht2=>?_)
     have hn1:n<(s1.gX n r1 .busy).next:=Nat.lt_of_lt_of_le hnlt (Nat.le_trans hm1.next hmb.next);have hp2:ρ2 n=some p:=by rw[e2.out n (.inl hn1)];exact hp1
     refine hend G ρ2 w2 p a2 R hGn e2.rep hp2 fun x w3 hx e3=>?_
     exact hR ρ2 x w3 hx ((e1.trans hw hm1 (hmb.trans hm2) (hb.2.trans hw1 hmb hm2 e2)).trans hw hm12 hm3 e3)
    ·cases h
   ·cases h
  ·cases h
 ·cases h
theorem vi(rec:Task->St->Option (Ans×St))(ops:Array Oper)(o:Oper)(fr:Fr)(s:St):oP P rec ops o fr s=et P rec ops o fr s:=by
 unfold oP et;have hw:A8 o.guard fr ops o=dN fr ops o:=by
  unfold A8
  cases h:o.guard with
  |none=>unfold dN;rw[h]
  |some p=>rfl
 rw[hw,DB]
 cases dN fr ops o with
 |false=>rfl
 |true=>
  show Fx rec (b_ P fr o.op s) fr o.dst=_
  cases b_ P fr o.op s with
  |none=>rfl
  |some p=>
   obtain⟨r,s1⟩:=p
   cases r with
   |val v=>rfl
   |skip=>rfl
   |enter f args=>
    show tN (rec (.call f args) s1) fr o.dst=_
    dsimp only;unfold tN
    cases h:rec (.call f args) s1 with
    |none=>rfl
    |some q=>
     obtain⟨a,s2⟩:=q
     cases a<;>rfl
   |round n r f=>rfl
theorem sU(rec:Task->St->Option (Ans×St))(ops:Array Oper):∀(os:List Oper) (fr:Fr) (s:St),uh P rec ops os fr s=oR P rec ops os fr s
 | [],fr,s=>rfl
 |o::os,fr,s=>by
  show AD (oP P rec ops o fr s) (uh P rec ops os)=_
  rw[vi];unfold AD oR
  cases et P rec ops o fr s with
  |none=>rfl
  |some p=>
   obtain⟨fr1,s1⟩:=p;exact sU rec ops os fr1 s1
def OpOK(P:Program)(ops:Array Oper)(o:Oper)(fr:Fr)(s:St)(fr':Fr)(s':St):Prop:=
 ∀(ro:Option Nat) (G:Nat->Prop) (ρ:Ren) (w:World) (a:Act) (K:Act->World->Prop) (Q:Exit->Act->World->Prop),Gok G s'->aV G ρ s.heap w->bg ρ s s'->bH ρ fr a->
  (∀ρ' w' a',Ext G s s' ρ ρ' w w'->bH ρ' fr' a'->K a' w')->
  if Region.wanted o (yielded ops a.tmps) then o.wpIn (Fw ro) 0 P a w K Q else (∀f,o.about P w a.eval=some f->(Fw ro).fn f)/\K (a.put o.dst undef) w
theorem nu{ro:Option Nat}{a:Act}{o:Oper}{fr:Fr}{s s':St}{r:R}(h:b_ P fr o.op s=some (r,s')):o.semAt (Fw ro).round a.eval=execOp a.eval o:=by
 refine Oper.semAt_eq _ _ _ fun c e=>?_
 rw[e] at h
 cases h
theorem kD{rec:Task->St->Option (Ans×St)}(hg:Good P rec)(hng:dZ P){ops:Array Oper}{o:Oper}{fr fr':Fr}{s s':St}(hw:WF s)(h:et P rec ops o fr s=some (fr',s')):
  aA s s'/\(fr'.nt=fr.nt/\fr'.marks=fr.marks/\fr'.rnd=fr.rnd)/\OpOK P ops o fr s fr' s':=by
 unfold et at h
 rcases Bool.eq_false_or_eq_true (dN fr ops o) with hwt|hwt
 ·rw[hwt] at h
  simp only[cond_true] at h
  split at h
  ·rename_i v s1 hop
   split at h
   ·rename_i f1 hp
    cases h
    refine⟨gM hw hop,⟨kx hp,c_ hp⟩,fun ro G ρ w a K Q hG hr hf ht hK=>?_⟩
    rw[eT ht,hwt];simp only[if_true];obtain⟨hm,ρ',w',nx,h1,h2,h3⟩:=jU hng hop ht hw hG hr hf;refine⟨fun _ _=>trivial,?_⟩
    rw[nu hop,h1]
    cases nx<;>first|(exact h3.elim;done)|skip
    exact hK ρ' w' _ h2 ((ht.mono (h2.le hf)).put hp h3)
   ·cases h
  ·rename_i s1 hop
   split at h
   ·rename_i f1 hp
    cases h
    refine⟨gM hw hop,⟨kx hp,c_ hp⟩,fun ro G ρ w a K Q hG hr hf ht hK=>?_⟩
    rw[eT ht,hwt];simp only[if_true];obtain⟨hm,ρ',w',nx,h1,h2,h3⟩:=jU hng hop ht hw hG hr hf;refine⟨fun _ _=>trivial,?_⟩
    rw[nu hop,h1]
    cases nx<;>first|(exact h3.elim;done)|skip
    exact hK ρ' w' _ h2 ((ht.mono (h2.le hf)).put hp pV)
   ·cases h
  ·rename_i f args s1 hop
   split at h
   ·rename_i v s2 hrec
    split at h
    ·rename_i f1 hp
     cases h
     have hm1:=gM hw hop;have hw1:=hm1.wf hw;obtain⟨hm2,hcall⟩:=hg _ _ _ _ hw1 hrec;refine⟨hm1.trans hm2,⟨kx hp,c_ hp⟩,fun ro G ρ w a K Q hG hr hf ht hK=>?_⟩
     rw[eT ht,hwt];simp only[if_true];obtain⟨_,ρ1,w1,nx,h1,h2,h3⟩:=jU hng hop ht hw (hG.back hm2) hr (hf.left hm2);refine⟨fun _ _=>trivial,?_⟩
     rw[nu hop,h1]
     cases nx<;>first|(exact h3.elim;done)|skip
     rename_i g xs
     obtain⟨rfl,hxs⟩:=h3;refine⟨fun e=>(by cases e),?_⟩
     have hc:=hcall G ρ1 w1 xs hG h2.rep (hf.right hm1 h2) hxs;refine CallsIn.mono (F:=Fw ro) hc ?_;rintro e w2 ⟨ρ2,x,rfl,hx,he2⟩;have he:=h2.trans hw hm1 hm2 he2;exact hK ρ2 w2 _ he ((ht.mono (he.le hf)).put hp hx)
    ·cases h
   ·cases h
  ·rename_i n0 r0 f0 s1 hop
   obtain⟨hchk,h⟩:=ay h;split at h
   ·rename_i v s2 hrnd
    split at h
    ·rename_i f1 hp
     cases h
     have hm1:=gM hw hop;have hw1:=hm1.wf hw;obtain⟨hm2,hround⟩:=yJ hg hw1 hrnd;refine⟨hm1.trans hm2,⟨kx hp,c_ hp⟩,fun ro G ρ w a K Q hG hr hf ht hK=>?_⟩
     rw[eT ht,hwt];simp only[if_true];obtain⟨_,ρ1,w1,nx,h1,h2,h3⟩:=jU hng hop ht hw (hG.back hm2) hr (hf.left hm2);refine⟨fun _ _=>trivial,?_⟩
     rw[nu hop,h1]
     cases nx<;>first|(exact h3.elim;done)|skip
     rename_i l fn tmps asg bod
     obtain⟨p,hpn,rfl,rfl,rfl,htm⟩:=h3;refine⟨fun e=>(by cases e),?_⟩
     have hn0:Live s1.heap n0/\n0<s1.next/\G n0:=by
      simp only[Bool.and_eq_true,Bool.or_eq_true] at hchk
      obtain⟨r9,hr9⟩:=Option.isSome_iff_exists.1 hchk.1;have hl1:=kX hr9;have hlt:=cL hw1 hl1;refine⟨hl1,hlt,?_⟩;rcases hchk.2 with h5|h5
      ·exact(hG.back hm2).own n0 (Nat.le_of_ble_eq_true h5) hlt
      ·exact(hG.back hm2).fp n0 (by simpa using h5)
     refine(hround ro G ρ1 w1 p tmps fn _ hn0.2.2 hn0.2.1 hG h2.rep (hf.right hm1 h2) hpn htm fun ρ2 x w2 hx he2=>?_)
     have he:=h2.trans hw hm1 hm2 he2;exact hK ρ2 w2 _ he ((ht.mono (he.le hf)).put hp hx)
    ·cases h
   ·cases h
  ·cases h
 ·rw[hwt] at h
  simp only[cond_false] at h
  split at h
  ·rename_i f1 hp
   cases h
   refine⟨aA.refl s,⟨kx hp,c_ hp⟩,fun ro G ρ w a K Q hG hr hf ht hK=>?_⟩
   rw[eT ht,hwt];simp only[Bool.false_eq_true,if_false];exact⟨fun _ _=>trivial,hK ρ w _ (bB hr) (ht.put hp pV)⟩
  ·cases h
end
end Go.Proofs.YtdjjlghlcffflaaGreatDoor.Ev
