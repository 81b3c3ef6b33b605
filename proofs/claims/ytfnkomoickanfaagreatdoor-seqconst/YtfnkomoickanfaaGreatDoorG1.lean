/- Own. -/
import Derived.Test.YtfnkomoickanfaaGreatDoorE9
import Derived.RangeFuncNested
import Derived.RangeFuncBound
set_option linter.unusedVariables false
set_option linter.unusedSimpArgs false
set_option maxHeartbeats 8000000
set_option maxRecDepth 100000
namespace Go.Proofs.YtfnkomoickanfaaGreatDoor.Ev
open Go.RowKit
theorem Ag{k:IntKind}{n:Int}(h:inR k n=true):k.wrap n=n:=by
 have key:∀(lo hi:Int),lo≤n→n≤hi→(k.signed=true→lo = - 2^(k.bits-1)∧hi=2^(k.bits-1)-1)→(k.signed=false→lo=0∧hi=2^k.bits-1)→(2:Int)^k.bits=2*2^(k.bits-1)→(0:Int)<2^(k.bits-1)→k.wrap n=n:=by
  intro lo hi h1 h2 hs hu h3 h4
  unfold IntKind.wrap
  dsimp only
  cases hsg:k.signed with
  |true=>
   obtain⟨rfl,rfl⟩:=hs hsg
   rcases Int.lt_or_le n 0 with h5|h5
   ·have e:n%(2^k.bits:Int)=n+2^k.bits:=by
     rw[←Int.add_emod_right]
     exact Int.emod_eq_of_lt (by omega) (by omega)
    rw[e]
    have:(2:Int)^(k.bits-1)≤n+2^k.bits:=by omega
    simp[this]
   ·have e:n%(2^k.bits:Int)=n:=Int.emod_eq_of_lt h5 (by omega)
    rw[e]
    have:¬(2:Int)^(k.bits-1)≤n:=by omega
    simp[this]
  |false=>
   obtain⟨rfl,rfl⟩:=hu hsg
   have e:n%(2^k.bits:Int)=n:=Int.emod_eq_of_lt h1 (by omega)
   rw[e]
   simp
 cases k with
 |i64=>
  cases n with
  |ofNat m=>have h':=Nat.le_of_ble_eq_true h;exact key (-9223372036854775808) 9223372036854775807 (by show(-9223372036854775808:Int)≤(m:Int);omega) (by show(m:Int)≤9223372036854775807;omega) (fun _=>⟨by decide,by decide⟩) (fun e=>by cases e) (by decide) (by decide)
  |negSucc m=>have h':=Nat.le_of_ble_eq_true h;exact key (-9223372036854775808) 9223372036854775807 (by omega) (by omega) (fun _=>⟨by decide,by decide⟩) (fun e=>by cases e) (by decide) (by decide)
 |u64=>
  cases n with
  |ofNat m=>have h':=Nat.le_of_ble_eq_true h;exact key 0 18446744073709551615 (by show(0:Int)≤(m:Int);omega) (by show(m:Int)≤18446744073709551615;omega) (fun e=>by cases e) (fun _=>⟨rfl,by decide⟩) (by decide) (by decide)
  |negSucc m=>cases h
 |u32=>
  cases n with
  |ofNat m=>have h':=Nat.le_of_ble_eq_true h;exact key 0 4294967295 (by show(0:Int)≤(m:Int);omega) (by show(m:Int)≤4294967295;omega) (fun e=>by cases e) (fun _=>⟨rfl,by decide⟩) (by decide) (by decide)
  |negSucc m=>cases h
 |u8=>
  cases n with
  |ofNat m=>have h':=Nat.le_of_ble_eq_true h;exact key 0 255 (by show(0:Int)≤(m:Int);omega) (by show(m:Int)≤255;omega) (fun e=>by cases e) (fun _=>⟨rfl,by decide⟩) (by decide) (by decide)
  |negSucc m=>cases h
 |_=>cases h
theorem nJ(k:IntKind)(n:Int):jk k n=k.wrap n:=by
 unfold jk
 cases h:inR k n with
 |false=>rfl
 |true=>exact(Ag h).symm
theorem oi(a b:Int):ltF a b=decide (a<b):=by
 cases a with
 |ofNat m=>
  cases b with
  |ofNat n=>
   show Nat.ble (Nat.succ m) n=_
   cases h:Nat.ble (Nat.succ m) n with
   |true=>have:=Nat.le_of_ble_eq_true h;exact(decide_eq_true (by show(m:Int)<(n:Int);omega)).symm
   |false=>
    have h1:¬Nat.succ m≤n:=fun e=>by rw[Nat.ble_eq_true_of_le e] at h;cases h
    exact(decide_eq_false (by show ¬(m:Int)<(n:Int);omega)).symm
  |negSucc n=>exact(decide_eq_false (by show ¬(m:Int)<Int.negSucc n;omega)).symm
 |negSucc m=>
  cases b with
  |ofNat n=>exact(decide_eq_true (by show Int.negSucc m<(n:Int);omega)).symm
  |negSucc n=>
   show Nat.ble (Nat.succ n) m=_
   cases h:Nat.ble (Nat.succ n) m with
   |true=>have:=Nat.le_of_ble_eq_true h;exact(decide_eq_true (by omega)).symm
   |false=>
    have h1:¬Nat.succ n≤m:=fun e=>by rw[Nat.ble_eq_true_of_le e] at h;cases h
    exact(decide_eq_false (by omega)).symm
theorem rZ(a b:Int):eqF a b=(a==b):=by
 have key:∀m n:Nat,Nat.beq m n=decide (m=n):=fun m n=>by
  cases h:Nat.beq m n with
  |true=>exact(decide_eq_true (Nat.eq_of_beq_eq_true h)).symm
  |false=>exact(decide_eq_false (fun e=>by subst e;rw[Nat.beq_refl] at h;cases h)).symm
 have hb:(a==b)=decide (a=b):=by
  rw[Bool.eq_iff_iff];simp
 rw[hb]
 cases a with
 |ofNat m=>
  cases b with
  |ofNat n=>
   show Nat.beq m n=_
   rw[key]
   simp only[Int.ofNat.injEq]
  |negSucc n=>exact(decide_eq_false (by simp)).symm
 |negSucc m=>
  cases b with
  |ofNat n=>exact(decide_eq_false (by simp)).symm
  |negSucc n=>show Nat.beq m n=_;rw[key];simp
theorem ow(a b:Int):Bool.not (decide (b<a))=decide (a≤b):=by
 rw[←decide_not]
 congr 1
 simp
theorem BE(op:BinOp)(k:IntKind)(a b:Int):binF op k a b=nT op k a b:=by
 cases op with
 |add=>show some (LV.int k (jk k (Int.add a b)))=_;rw[nJ];rfl
 |sub=>show some (LV.int k (jk k (Int.sub a b)))=_;rw[nJ];rfl
 |mul=>show some (LV.int k (jk k (Int.mul a b)))=_;rw[nJ];rfl
 |eql=>show some (LV.bool (eqF a b))=_;rw[rZ];rfl
 |neq=>show some (LV.bool (Bool.not (eqF a b)))=_;rw[rZ];rfl
 |lss=>show some (LV.bool (ltF a b))=_;rw[oi];rfl
 |leq=>show some (LV.bool (Bool.not (ltF b a)))=_;rw[oi,ow];rfl
 |gtr=>show some (LV.bool (ltF b a))=_;rw[oi];rfl
 |geq=>show some (LV.bool (Bool.not (ltF a b)))=_;rw[oi,ow];rfl
 |_=>rfl
theorem zV(op:Op)(P:Program)(fr:Fr)(s:St):Be op P fr s=bA P fr op s:=by
 cases op with
 |binOp o t x y u=>
  show op2 (fun P a b s=>vY o t P a b s) x y P fr s=_
  simp only[op2,bA]
  cases fr.eval x with
  |none=>rfl
  |some v=>
   cases fr.eval y with
   |none=>rfl
   |some z=>
    show vY o t P v z s=bf (nZ P o t v z) s
    cases v<;>try rfl
    cases z<;>try rfl
    show bf (o6 o _ _ _ _) s=bf _ s
    simp only[o6,BE]
    rfl
 |_=>rfl
def cT(P:Program):Prop:=∀(f:FuncId) (fn:Func),P.funcs[f]?=some fn→fn.body.isSome=true→(fn.name == "runtime.NumGoroutine")=false
section
variable {P:Program} {ρ:Ren} {w:World}
theorem gF{f:FuncId}{args:List LV}{s s':St}{r:R}(hng:cT P)(h:dk P f args s=some (r,s')):s'=s∧r=.enter f args∧∀xs w,(callFunc f xs).run P w=.ok (.enter f xs) w:=by
 unfold dk at h
 split at h
 ·rename_i fn hf
  split at h
  ·rename_i c hb
   cases h
   refine⟨rfl,rfl,fun xs w=>?_⟩
   have h1:=hng f fn hf (by rw[hb];rfl)
   simp only[callFunc,program,Sem.run_bind]
   show(Sem.run P _ w)=_
   simp[hf,h1,hb]
  ·cases h
 ·cases h
theorem CA{t:TypeId}{a:Addr}{n:String}:(Builtin.ssaWrapNilChk_ #[t] t #[.pointer (some a),strVal "",strVal n]).run P w=.ok (.pointer (some a)) w:=rfl
theorem mJ{G:Nat→Prop}{s s':St}{u:LV}{x:Value}{name:String}{us:List LV}{xs:Array Value}{r:R}(hng:cT P)(h:fI P u name us s=some (r,s'))(hu:VR ρ u x)(hx:VRs ρ us xs.toList)(hw:WF s)(hG:Gok G s')(hr:aI G ρ s.heap w):
  OpR P G s s' ρ w r (callMethod x name xs):=by
 unfold fI at h
 split at h
 ·rename_i t v
  cases hu
  rename_i y hy
  split at h
  ·rename_i i hi
   split at h
   ·rename_i m hm
    obtain⟨hp,h⟩:=an h
    have hpl:m.path.toList=[]:=by simpa using hp
    split at h
    ·rename_i f pr hf
     have main:∀(s1 s2:St) (v1:LV) (y1:Value),dk P f (v1::us) s1=some (r,s2)→VR ρ v1 y1→ar s s1→Ext G s s1 ρ ρ w w→(receiverAt t (.val y) pr (some ((name.splitOn ".").getLastD name))).run P w=.ok y1 w→s2=s'→OpR P G s s' ρ w r (callMethod (.iface t y) name xs):=by
      intro s1 s2 v1 y1 he hv1 hm1 he1 hra e
      obtain⟨rfl,rfl,hcall⟩:=gF hng he
      subst e
      refine⟨hm1,ρ,w,.enter f (#[y1]++xs),?_,he1,rfl,?_⟩
      ·obtain⟨k,hk⟩:∃k,P.types.size+Made.depth=k+1:=⟨P.types.size+Made.depth-1,by have:Made.depth=100:=rfl;omega⟩
       have hmeth:(method (k+1) t y name).run P w=.ok (f,y1) w:=by
        simp only[method,Sem.run_bind,fZ hi,Result.andThen_ok,hm,hpl,follow,Sem.run_pure,hf]
        simp only[hp,if_true,hra,Result.andThen_ok]
       simp only[callMethod,program,Sem.run_bind]
       show Result.andThen (Sem.run P (method (P.types.size+Made.depth) t y name) w) _=_
       rw[hk,hmeth]
       exact hcall _ _
      ·simpa using VRs.cons hv1 hx
     split at h
     ·rename_i e0 hu0
      exact main s s' v y h hy (ar.refl s) (aN hr) (by simp[receiverAt,run_underlying hu0,Place.get]) rfl
     ·rename_i e0 hu0
      split at h
      ·rename_i v1 s1 hl
       obtain⟨rfl,rfl,_⟩:=gF hng h
       obtain⟨v2,hv2,hm1,y2,hrun,he1,hvr⟩:=lf (P:=P) hl hy hw hG hr
       cases hv2
       refine main s' s' v1 y2 h hvr hm1 he1 ?_ rfl
       cases hy with
       |ptr hp0=>
        simp only[Instr.loadAt,Instr.sureAddr,Sem.run_bind,Sem.run_pure,Result.andThen_ok] at hrun
        simp[receiverAt,run_underlying hu0,Place.get,CA,asAddr,hrun]
       |_=>unfold ey at hl;cases hl
      ·cases h
     ·rename_i d hnp hu0
      refine main s s' v y h hy (ar.refl s) (aN hr) ?_ rfl
      simp only[receiverAt,Sem.run_bind,run_underlying hu0,Result.andThen_ok]
      cases d<;>first|rfl|exact absurd rfl (hnp _)
     ·cases h
    ·cases h
   ·cases h
  ·cases h
 ·cases h
theorem yO{fr f:Fr}{dst:Option Tmp}{v:LV}(h:fr.put dst v=some f):Fr.put {fr with marks:=[],rnd:=true} dst v=some {f with marks:=[],rnd:=true}:=by
 unfold Fr.put at h ⊢
 cases dst with
 |none=>cases h;rfl
 |some d=>
  obtain⟨h1,h⟩:=an h
  cases h
  dsimp only
  rw[h1]
  rfl
theorem sT:∀{ps:List Tmp} {vs:List LV} {xs:List Value} {fr f:Fr} {tmps:Array Value},fr.pL ps vs=some f→VRs ρ vs xs→aV ρ {fr with marks:=[],rnd:=true} {tmps:=tmps,defers:=[]}→
  ps.length=xs.length∧aV ρ {f with marks:=[],rnd:=true} {tmps:=(ps.zip xs).foldl (fun t pv=>t.setIfInBounds pv.1 pv.2) tmps,defers:=[]}
 | [],vs,xs,fr,f,tmps,h,hv,ht=>by
  cases vs with
  |nil=>cases hv;cases h;exact⟨rfl,ht⟩
  |cons v vs=>simp[Fr.pL] at h
 |p::ps,vs,xs,fr,f,tmps,h,hv,ht=>by
  cases vs with
  |nil=>simp[Fr.pL] at h
  |cons v vs=>
   obtain _|⟨hv1,hv2⟩:=hv
   simp only[Fr.pL] at h
   split at h
   ·rename_i f1 hp
    have h1:=ht.put (yO hp) hv1
    obtain⟨h2,h3⟩:=sT h hv2 h1
    exact⟨by simp[h2],h3⟩
   ·cases h
theorem wE{G:Nat→Prop}{s s':St}{n:Nat}{p:Pl}{us:List LV}{xs:Array Value}{r:R}(h:me n us s=some (r,s'))(hp:ρ n=some p)(hx:VRs ρ us xs.toList)(hw:WF s)(hG:Gok G s')(hr:aI G ρ s.heap w):
  OpR P G s s' ρ w r (Instr.yield p.blk xs):=by
 unfold me at h
 split at h
 ·rename_i b hb
  split at h
  ·rename_i r0 hlp
   split at h
   ·rename_i f hst hf
    cases h
    have hl:Live s.heap n:=by unfold Live;rw[hb];simp
    have hGn:=eT hw hl hG
    obtain⟨q,hq,L,hL,hLR⟩:=(hr.rep n b hGn hb).other _ hlp
    rw[hp] at hq
    cases hq
    have h0:aV ρ {r0.fr with marks:=[],rnd:=true} {tmps:=L.tmps,defers:=[]}:=⟨hLR.xw,hLR.A8,hLR.room,.nil⟩
    obtain⟨h1,h2⟩:=sT hf hx h0
    have hsz:xs.size=L.params.size:=by
     have:=hLR.params
     rw[←this] at h1
     simp at h1
     omega
    refine⟨bG s n,ρ,w,_,run_yield hL hsz,eS n hr,p,hp,rfl,hLR.assign,hLR.body,?_⟩
    have e:(L.params.zip xs).foldl (fun t (p,v)=>t.setIfInBounds p v) L.tmps=(r0.ps.zip xs.toList).foldl (fun t pv=>t.setIfInBounds pv.1 pv.2) L.tmps:=by
     rw[←hLR.params,←Array.foldl_toList]
     simp
    rw[e]
    exact h2
   ·cases h
  ·cases h
 ·cases h
theorem xU{G:Nat→Prop}{s s':St}{fr:Fr}{a:Act}{c:Call}{ty:TypeId}{r:R}(hng:cT P)(h:jC P fr c s=some (r,s'))(ht:aV ρ fr a)(hw:WF s)(hG:Gok G s')(hr:aI G ρ s.heap w)(hf:aK ρ s s'):
  OpR P G s s' ρ w r (do let d ←resolve a.eval c ty;invoke d.target d.args):=by
 unfold jC at h
 split at h
 ·cases h
 ·rename_i args hargs
  have hv:=iY ht hargs
  have hl:(c.args.map a.eval).toList=c.args.toList.map a.eval:=by simp
  split at h
  ·rename_i b hc
   obtain⟨hm,ρ',w',nx,h1,h2,h3⟩:=rT (P:=P) (ty:=ty) (cb:=c.args.map fun | .const _=>true|_=>false) h hv hw hG hr hf
   refine⟨hm,ρ',w',nx,?_,h2,h3⟩
   simp only[resolve,hc,Sem.run_bind,Sem.run_pure,Result.andThen_ok,invoke]
   have e1:(c.args.toList.map a.eval).toArray=c.args.map a.eval:=by apply Array.ext';simp
   have e2:c.argTypes.toList.toArray=c.argTypes:=by simp
   rw[e1,e2] at h1
   exact h1
  ·rename_i q name hc
   split at h
   ·rename_i u hu
    obtain⟨hm,ρ',w',nx,h1,h2,h3⟩:=mJ (P:=P) hng h (aH ht hu) (by rw[←hl] at hv;exact hv) hw hG hr
    refine⟨hm,ρ',w',nx,?_,h2,h3⟩
    simp only[resolve,hc,Sem.run_bind,Sem.run_pure,Result.andThen_ok,invoke]
    have e1:(#[a.eval q]++c.args.map a.eval)[0]?=some (a.eval q):=by rw[Array.getElem?_append_left (by simp)];rfl
    have e2:(#[a.eval q]++c.args.map a.eval).extract 1 (#[a.eval q]++c.args.map a.eval).size=c.args.map a.eval:=by apply Array.ext';simp;exact List.take_of_length_le (by simp)
    rw[e1,e2]
    exact h1
   ·cases h
  ·rename_i q hc
   split at h
   ·rename_i g first captured hu
    obtain⟨rfl,rfl,hcall⟩:=gF hng h
    have hq:=aH ht hu
    generalize he:a.eval q=fv at hq
    cases hq
    rename_i xf xc h1 h2
    refine⟨ar.refl _,ρ,w,.enter g (xf.toArray++c.args.map a.eval++xc.toArray),?_,aN hr,rfl,?_⟩
    ·simp only[resolve,hc,he,Deferred.ofValue,Sem.run_bind,Sem.run_pure,Result.andThen_ok,invoke]
     exact hcall _ _
    ·have:=(h1.append hv).append h2
     simpa using this
   ·rename_i name first captured hu
    split at h
    ·rename_i r0 rest hfa
     have hq:=aH ht hu
     generalize he:a.eval q=fv at hq
     cases hq
     rename_i xf xc h1 h2
     have hall:=h1.append hv
     rw[hfa] at hall
     generalize hfx:xf++c.args.toList.map a.eval=ys at hall
     obtain _|⟨hr0,hrest⟩:=hall
     rename_i y0 yrest
     have harr:xf.toArray++c.args.map a.eval=(y0::yrest).toArray:=by rw[←hfx];apply Array.ext';simp
     obtain⟨hm,ρ',w',nx,h3,h4,h5⟩:=mJ (P:=P) (xs:=yrest.toArray) hng h hr0 (by simpa using hrest) hw hG hr
     refine⟨hm,ρ',w',nx,?_,h4,h5⟩
     simp only[resolve,hc,he,Deferred.ofValue,Sem.run_bind,Sem.run_pure,Result.andThen_ok,invoke,harr]
     have e1:(y0::yrest).toArray[0]?=some y0:=by simp
     have e2:(y0::yrest).toArray.extract 1 (y0::yrest).toArray.size=yrest.toArray:=by apply Array.ext';simp
     rw[e1,e2]
     exact h3
    ·cases h
   ·rename_i n hu
    have hq:=aH ht hu
    generalize he:a.eval q=fv at hq
    cases hq
    rename_i p hp
    obtain⟨hm,ρ',w',nx,h3,h4,h5⟩:=wE (P:=P) (xs:=c.args.map a.eval) h hp (by rw[hl];exact hv) hw hG hr
    refine⟨hm,ρ',w',nx,?_,h4,h5⟩
    simp only[resolve,hc,he,Deferred.ofValue,Sem.run_bind,Sem.run_pure,Result.andThen_ok,invoke]
    have e1:#[]++c.args.map a.eval=c.args.map a.eval:=by simp
    rw[e1]
    exact h3
   ·cases h
theorem mY{fr:Fr}{a:Act}(ht:aV ρ fr a){q:Option Operand}{v:Option LV}(h:fr.fh q=some v):OR ρ v (q.map a.eval):=by
 cases q with
 |none=>cases h;trivial
 |some x=>
  unfold Fr.fh at h
  split at h
  ·contradiction
  ·rename_i y e
   cases e
   split at h
   ·rename_i u hu
    cases h
    exact aH ht hu
   ·cases h
theorem h_{G:Nat→Prop}{s s':St}{fr:Fr}{a:Act}{o:Oper}{r:R}(hng:cT P)(h:bA P fr o.op s=some (r,s'))(ht:aV ρ fr a)(hw:WF s)(hG:Gok G s')(hr:aI G ρ s.heap w)(hf:aK ρ s s'):
  OpR P G s s' ρ w r (execOp a.eval o):=by
 obtain⟨dst,op,type,pos,after,guard⟩:=o
 dsimp only at h
 unfold bA at h
 split at h
 ·obtain⟨v,hv,rfl,rfl⟩:=bL h
  exact⟨ar.refl _,ρ,w,.value _,rfl,aN hr,aH ht hv⟩
 ·obtain⟨v,hv,rfl,rfl⟩:=bL h
  exact⟨ar.refl _,ρ,w,.value _,rfl,aN hr,aH ht hv⟩
 ·rename_i c x y
  split at h
  ·rename_i t u v hc hx hy
   cases h
   have h1:=aH ht hc
   generalize he:a.eval c=cv at h1
   cases h1
   refine⟨ar.refl _,ρ,w,.value (if t then a.eval x else a.eval y),?_,aN hr,?_⟩
   ·simp[execOp,he,asBool]
   ·cases t
    ·exact aH ht hy
    ·exact aH ht hx
  ·cases h
 ·rename_i elem
  have hm:ar s s':=by
   unfold fH at h
   split at h
   ·obtain⟨n,hn,_⟩:=dR h;exact aS hn
   ·cases h
  have hv:∃v,r=.val v:=by
   unfold fH at h
   split at h
   ·obtain⟨n,hn,e⟩:=dR h;exact⟨_,e⟩
   ·cases h
  obtain⟨v,rfl⟩:=hv
  exact .gY hm (wh h hr hf) rfl
 ·rename_i elem x
  split at h
  ·rename_i u hu
   obtain⟨n,hn,rfl⟩:=dR h
   exact .gY (aS hn) (zS h (aH ht hu) hr hf) rfl
  ·cases h
 ·rename_i t parts
  split at h
  ·rename_i ps hps
   have hp:=lK ht hps
   have e:(parts.map fun p=>(p.1,a.eval p.2)).toList=parts.toList.map fun p=>(p.1,a.eval p.2):=by simp
   rw[←e] at hp
   obtain⟨rfl,v,rfl,hv⟩:=wj (P:=P) (w:=w) h hp
   exact .cW hr hv rfl
  ·cases h
 ·rename_i t len parts
  split at h
  ·rename_i ps hps
   have hp:=lK ht hps
   have e:(parts.map fun p=>(p.1,a.eval p.2)).toList=parts.toList.map fun p=>(p.1,a.eval p.2):=by simp
   rw[←e] at hp
   obtain⟨hm,v,rfl,hv⟩:=n_ (P:=P) (w:=w) h hp hr hf
   exact .gY hm hv rfl
  ·cases h
 ·split at h
  ·rename_i u hu
   obtain⟨v,rfl,hm,y,h1,h2,h3⟩:=lf (P:=P) h (aH ht hu) hw hG hr
   exact .gY hm ⟨ρ,w,y,h1,h2,h3⟩ rfl
  ·cases h
 ·split at h
  ·rename_i u v hu hv
   obtain⟨rfl,hm,w',h1,h2⟩:=wC (P:=P) h (aH ht hu) (aH ht hv) hw hG hr
   exact⟨hm,ρ,w',.skip,by simp[execOp,h1],h2,trivial⟩
  ·cases h
 ·rename_i q
  split at h
  ·rename_i u hu
   obtain⟨rfl,v,rfl,y,h1,h2⟩:=qP (P:=P) (w:=w) (o:=⟨dst,.nilCheck q,type,pos,after,guard⟩) (a:=a) rfl h (aH ht hu)
   exact⟨ar.refl _,ρ,w,.value y,h1,aN hr,h2⟩
  ·cases h
 ·split at h
  ·rename_i u v hu hv
   obtain⟨x,hx,rfl,rfl⟩:=bL h
   exact .cW hr (zR hx (aH ht hu) (aH ht hv)) rfl
  ·cases h
 ·split at h
  ·rename_i u hu
   obtain⟨x,hx,rfl,rfl⟩:=bL h
   exact .cW hr (BH hx (aH ht hu)) rfl
  ·cases h
 ·split at h
  ·rename_i u hu
   obtain⟨x,hx,rfl,rfl⟩:=bL h
   exact .cW hr (rU hx (aH ht hu)) rfl
  ·cases h
 ·split at h
  ·rename_i u hu
   obtain⟨x,hx,rfl,rfl⟩:=bL h
   exact .cW hr (pe hx (aH ht hu)) rfl
  ·cases h
 ·rename_i fn first captured
  split at h
  ·rename_i u v hu hv
   cases h
   have h1:=iY ht hu
   have h2:=iY ht hv
   refine⟨ar.refl _,ρ,w,.value (.func fn (first.map a.eval) (captured.map a.eval)),by simp[execOp,Instr.makeFunc],aN hr,?_⟩
   have:=VR.func (fn:=fn) h1 h2
   have e1:(first.toList.map a.eval).toArray=first.map a.eval:=by apply Array.ext';simp
   have e2:(captured.toList.map a.eval).toArray=captured.map a.eval:=by apply Array.ext';simp
   rw[e1,e2] at this
   exact this
  ·cases h
 ·split at h
  ·rename_i u v hu hv
   obtain⟨hm,z,rfl,hz⟩:=pf (P:=P) (w:=w) h (aH ht hu) (aH ht hv) hr hf
   exact .gY hm hz rfl
  ·cases h
 ·split at h
  ·rename_i u lo hi mx hu hlo hhi hmx
   obtain⟨hm,ρ',e,v,rfl,y,h1,h2⟩:=wB (P:=P) (w:=w) h (aH ht hu) (mY ht hlo) (mY ht hhi) (mY ht hmx) hw hG hr hf
   exact .gY hm ⟨ρ',w,y,h1,e,h2⟩ rfl
  ·cases h
 ·split at h
  ·rename_i u hu
   obtain⟨x,hx,rfl,rfl⟩:=bL h
   exact .cW hr (o_ hx (aH ht hu)) rfl
  ·cases h
 ·split at h
  ·rename_i u hu
   obtain⟨x,hx,rfl,rfl⟩:=bL h
   exact .cW hr (wu hx (aH ht hu)) rfl
  ·cases h
 ·split at h
  ·rename_i u v hu hv
   obtain⟨x,hx,rfl,rfl⟩:=bL h
   exact .cW hr (pc hx (aH ht hu) (aH ht hv)) rfl
  ·cases h
 ·split at h
  ·rename_i u v hu hv
   obtain⟨x,hx,rfl,rfl⟩:=bL h
   exact .cW hr (wy hx (aH ht hu) (aH ht hv)) rfl
  ·cases h
 ·split at h
  ·rename_i u hu
   obtain⟨x,hx,rfl,rfl⟩:=bL h
   exact .cW hr (tZ hx (aH ht hu)) rfl
  ·cases h
 ·split at h
  ·rename_i u hu
   obtain⟨x,hx,rfl,rfl⟩:=bL h
   exact .cW hr (rV hx (aH ht hu)) rfl
  ·cases h
 ·exact xU hng h ht hw hG hr hf
 ·cases h
end
end Go.Proofs.YtfnkomoickanfaaGreatDoor.Ev
