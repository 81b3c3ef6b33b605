/- Own. -/
import Derived.Test.YtfnkomoickanfaaGreatDoorE4
set_option linter.unusedVariables false
set_option linter.unusedSimpArgs false
set_option maxHeartbeats 8000000
set_option maxRecDepth 100000
namespace Go.Proofs.YtfnkomoickanfaaGreatDoor.Ev
open Go.RowKit
section
variable {P:Program} {ρ:Ren} {w:World}
theorem nE(zs:List LV):∀n,(iH zs n).length=n*zs.length
 |0=>by simp[iH]
 |n+1=>by simp[iH,nE zs n,Nat.add_mul];omega
theorem tp(zs:List LV)(hz:0<zs.length):∀n i,i<n*zs.length→(iH zs n)[i]?=zs[i%zs.length]?
 |0,i,h=>by simp at h
 |n+1,i,h=>by
  simp only[iH]
  by_cases hi:i<zs.length
  ·rw[List.getElem?_append_left hi,Nat.mod_eq_of_lt hi]
  ·rw[List.getElem?_append_right (by omega),tp zs hz n _ (by rw[Nat.add_mul] at h;omega),←Nat.mod_eq_sub_mod (by omega)]
theorem jl{z:LV}{x:Value}{size n:Nat}(hv:VR ρ z x)(hs:z.cells.length=size)(h0:0<size):
  VRs ρ (iH z.cells n) (((Array.range (n*size)).map (x.cells[· % x.cells.size]!)).toList):=by
 have hc:=hv.cells
 have hl:=hc.length
 simp at hl
 refine VRs.lI (by simp[nE];rw[hs]) fun i v y hi hy=>?_
 have hlt:i<n*z.cells.length:=by
  have:=(List.getElem?_eq_some_iff.1 hi).1
  rwa [nE] at this
 rw[tp _ (by omega) _ _ hlt] at hi
 obtain⟨u,hu,hvr⟩:=hc.get hi
 have hlt2:i<n*size:=by rwa [hs] at hlt
 have hm:i%z.cells.length<x.cells.size:=by rw[hl];exact Nat.mod_lt _ (by omega)
 simp[hlt2] at hy
 have hu2:x.cells[i%z.cells.length]?=some u:=by simpa using hu
 rw[←hl] at hu2 hm
 rw[Array.getElem?_eq_getElem hm] at hu2
 cases hu2
 rw[getElem!_pos x.cells _ hm] at hy
 rw[←hy]
 exact hvr
theorem n_{G:Nat→Prop}{s s':St}{t:TypeId}{len:Nat}{ps:List (Nat×LV)}{xs:Array (Nat×Value)}{r:R}(h:dK P t len ps s=some (r,s'))(hp:PRs ρ ps xs.toList)(hr:aI G ρ s.heap w)(hf:aK ρ s s'):
  ar s s'∧∃v,r=.val v∧iu P G s s' ρ w v (Instr.buildSlice t len xs):=by
 unfold dK at h
 split at h
 ·rename_i elem he
  split at h
  ·rename_i size z hsz hz
   obtain⟨h1,h⟩:=an h
   simp only[Bool.and_eq_true] at h1
   obtain⟨⟨h1,h2⟩,h3⟩:=h1
   have h1:=Nat.le_of_ble_eq_true h1
   have h2:=Nat.eq_of_beq_eq_true h2
   have h3:0<size:=Nat.le_of_ble_eq_true h3
   split at h
   ·rename_i cs hc
    split at h
    ·rename_i n s1 hn
     cases h
     obtain⟨zx,hzx,hzv⟩:=eK hz
     have hzc:=(hzv ρ).cells
     obtain⟨ds,hd,hvr⟩:=nf (fun i=>some (i*size,size)) hp (jl (n:=len) (hzv ρ) h2 h3) hc
     have hl:=hvr.length
     have e:=mg hn hr hf ds 0 (w':=w.alloc (.cells ds elem)) rfl rfl rfl rfl (by simp at hl;dsimp only;omega) (fun i v hv=>by
      obtain⟨y,hy,hq⟩:=hvr.get hv
      exact⟨y,by simpa using hy,hq⟩) (fun sz h=>by cases h)
     refine⟨aS hn,_,rfl,_,_,.slice (some ⟨w.heap.size,0,none⟩) len len,?_,e,?_⟩
     ·simp only[Instr.buildSlice,Sem.run_bind,run_underlying (dL he),Result.andThen_ok,bN hsz,Sem.run_ite]
      rw[if_neg (by omega)]
      by_cases h0:len*size=0
      ·have hl0:len=0:=by
        rcases Nat.mul_eq_zero.1 h0 with h|h
        ·exact h
        ·omega
       subst hl0
       have r0:∀f:Nat→Value,(Array.range 0).map f=#[]:=fun _=>by rw[Array.range_zero'];simp
       rw[Nat.zero_mul,r0] at hd
       simp[r0,hd,newRow]
      ·rw[if_neg h0]
       simp only[Sem.run_bind,hzx,Result.andThen_ok,Sem.run_pure,hd]
       simp[newRow]
     ·have:=VR.known (ρ:=ρ.upd n ⟨w.heap.size,0,0⟩) (n:=n) (off:=0) (len:=len) (c:=len) (p:=⟨w.heap.size,0,0⟩) (by simp[Ren.upd])
      simpa using this
    ·cases h
   ·cases h
  ·cases h
 ·cases h
theorem wrap_small{c:Int}(h0:0≤c)(h1:c≤1000000):IntKind.i64.wrap c=c:=by
 unfold IntKind.wrap
 have:IntKind.i64.bits=64:=rfl
 simp only[this,IntKind.signed]
 have e:c%(2^64:Int)=c:=Int.emod_eq_of_lt h0 (by omega)
 rw[e]
 simp
 omega
theorem pf{G:Nat→Prop}{s s':St}{t:TypeId}{u v:LV}{x y:Value}{r:R}(h:eA P t u v s=some (r,s'))(hx:VR ρ u x)(hy:VR ρ v y)(hr:aI G ρ s.heap w)(hf:aK ρ s s'):
  ar s s'∧∃z,r=.val z∧iu P G s s' ρ w z (Instr.makeSlice t x y):=by
 unfold eA at h
 split at h
 ·rename_i elem kl l kc c he
  cases hx
  cases hy
  split at h
  ·rename_i size bytes z hsz hby hz
   obtain⟨h1,h⟩:=an h
   simp only[Bool.and_eq_true,decide_eq_true_eq] at h1
   obtain⟨⟨⟨⟨⟨h1,h2⟩,h3⟩,h4⟩,h5⟩,h6⟩:=h1
   have h4:=Nat.le_of_ble_eq_true h4
   have h5:=Nat.eq_of_beq_eq_true h5
   have h6:0<size:=Nat.le_of_ble_eq_true h6
   split at h
   ·rename_i n s1 hn
    cases h
    obtain⟨zx,hzx,hzv⟩:=eK hz
    obtain⟨i,hi,hib⟩:=kq hby
    have hvr:=jl (n:=c.toNat) (hzv ρ) h5 h6
    have hl:=hvr.length
    have e:=mg hn hr hf ((Array.range (c.toNat*size)).map (zx.cells[· % zx.cells.size]!)) 0 (w':=w.alloc (.cells ((Array.range (c.toNat*size)).map (zx.cells[· % zx.cells.size]!)) elem)) rfl rfl rfl rfl (by simp at hl;simp;omega) (fun i v hv=>by
     obtain⟨y,hy,hq⟩:=hvr.get hv
     exact⟨y,by rw[←Array.getElem?_toList];exact hy,hq⟩) (fun sz h=>by cases h)
    refine⟨aS hn,_,rfl,_,_,.slice (some ⟨w.heap.size,0,none⟩) l.toNat c.toNat,?_,e,?_⟩
    ·have hl':IntKind.i64.wrap l=l:=wrap_small h1 (by omega)
     have hc':IntKind.i64.wrap c=c:=wrap_small (by omega) h3
     have hb:¬(2^48:Int)<(bytes:Int)*c:=by
      have:(bytes:Int)*c≤1000*1000000:=Int.mul_le_mul (by omega) h3 (by omega) (by omega)
      omega
     have hbl:¬c.toNat*bytes>roomBytes:=by
      have:c.toNat*bytes≤1000000*1000:=Nat.mul_le_mul (by omega) h4
      simp only[roomBytes]
      omega
     have hcl:¬c<0:=by omega
     have hll:¬l<0:=by omega
     have hlc:¬c<l:=by omega
     simp only[Instr.makeSlice,Sem.run_bind,run_underlying (dL he),Result.andThen_ok,asInt,asIntOf,Sem.run_pure,fZ hi,hib,hl',hc',gt_iff_lt,decide_eq_false hb,decide_eq_false hcl,decide_eq_false hll,decide_eq_false hlc,Bool.or_false,Bool.false_eq_true,if_false,Sem.run_ite,askRoom]
     rw[if_neg hbl]
     simp only[Result.andThen_ok,bN hsz]
     by_cases h0:c.toNat*size=0
     ·rw[if_pos h0]
      have r0:∀f:Nat→Value,(Array.range 0).map f=#[]:=fun _=>by rw[Array.range_zero'];simp
      simp[newRow,h0,r0]
     ·rw[if_neg h0]
      simp only[hzx,Result.andThen_ok]
      simp[newRow]
    ·have:=VR.known (ρ:=ρ.upd n ⟨w.heap.size,0,0⟩) (n:=n) (off:=0) (len:=l.toNat) (c:=c.toNat) (p:=⟨w.heap.size,0,0⟩) (by simp[Ren.upd])
     simpa using this
   ·cases h
  ·cases h
 ·cases h
def c6(P:Program)(ρ:Ren)(w:World)(v:LV)(sem:Sem Value):Prop:=∃x,sem.run P w=.ok x w∧VR ρ v x
theorem BH{op:UnOp}{u v:LV}{x:Value}(h:wD op u=some v)(hx:VR ρ u x):c6 P ρ w v (Op.unary op x):=by
 unfold wD at h
 split at h<;>cases h<;>cases hx
 ·exact⟨_,rfl,.int _ _⟩
 ·exact⟨_,rfl,.int _ _⟩
 ·exact⟨_,rfl,.bool _⟩
theorem rU{src dst:TypeId}{u v:LV}{x:Value}(h:iW P src dst u=some v)(hx:VR ρ u x):c6 P ρ w v (convert src dst x):=by
 unfold iW at h
 split at h
 ·rename_i d k q n hs hd
  cases h;cases hx
  refine⟨_,?_,.int _ _⟩
  simp only[convert,Sem.run_bind,run_underlying hs,run_underlying hd,Result.andThen_ok]
  cases d<;>rfl
 ·rename_i d b hs hd
  cases h;cases hx
  refine⟨_,?_,.str _⟩
  simp only[convert,Sem.run_bind,run_underlying hs,run_underlying hd,Result.andThen_ok]
  cases d<;>rfl
 ·cases h
theorem pe{t:TypeId}{u v:LV}{x:Value}(h:gj P t u=some v)(hx:VR ρ u x):c6 P ρ w v (Instr.makeInterface t x):=by
 unfold gj at h
 split at h
 ·cases h
 ·rename_i d hd hu
  cases h
  refine⟨_,?_,.iface hx⟩
  simp only[Instr.makeInterface,Sem.run_bind,run_underlying hu,Result.andThen_ok]
  rfl
 ·cases h
theorem o_{t:TypeId}{f:Nat}{u v:LV}{x:Value}(h:f_ P t u f=some v)(hx:VR ρ u x):c6 P ρ w v (Instr.fieldAt t x f):=by
 unfold f_ at h
 split at h
 ·rename_i fields n off hu
  split at h
  ·rename_i fd hfd
   split at h
   ·rename_i k hk
    cases hx
    rename_i p hp
    cases hb:k.beq 0 with
    |true=>rw[hb] at h;cases h
    |false=>
     rw[hb] at h
     cases h
     have hk0:k≠0:=fun e=>by subst e;cases hb
     have hfd':fields[f]?=some fd:=by simpa using hfd
     refine⟨.pointer (some ⟨p.blk,p.base+(off+fd.offset),none⟩),?_,.ptr hp⟩
     simp[Instr.fieldAt,run_underlying hu,hfd',Instr.sureAddr,fieldPlace,bN hk,hk0,Addr.add_lit,Nat.add_assoc]
   ·cases h
  ·cases h
 ·cases h
theorem sM{t:TypeId}{cs:List LV}{off:Nat}{v:LV}{xs:List Value}(h:rm P t cs off=some v)(hx:VRs ρ cs xs):c6 P ρ w v (part t xs.toArray off):=by
 unfold rm at h
 split at h
 ·rename_i ha
  split at h
  ·rename_i k hk
   cases hr:cC cs off k with
   |none=>rw[hr] at h;cases h
   |some out=>
    rw[hr] at h
    cases h
    obtain⟨h1,rfl⟩:=fx hr
    refine⟨.agg ((xs.drop off).take k).toArray,?_,.agg ((hx.drop off).take k)⟩
    simp[part,mC ha,bN hk]
  ·cases h
 ·rename_i ha
  obtain⟨y,hy,hvr⟩:=hx.get h
  refine⟨y,?_,hvr⟩
  simp[part,mC ha,hy]
 ·cases h
theorem wu{t:TypeId}{f:Nat}{u v:LV}{x:Value}(h:l9 P t u f=some v)(hx:VR ρ u x):c6 P ρ w v (Instr.field t x f):=by
 unfold l9 at h
 split at h
 ·rename_i fields cs hu
  split at h
  ·rename_i fd hfd
   cases hx
   rename_i xs hxs
   obtain⟨y,h1,h2⟩:=sM (P:=P) (w:=w) h hxs
   have hfd':fields[f]?=some fd:=by simpa using hfd
   refine⟨y,?_,h2⟩
   simp[Instr.field,run_underlying hu,hfd',asAgg,h1]
  ·cases h
 ·cases h
theorem pc{t:TypeId}{u i v:LV}{x y:Value}(h:gi P t u i=some v)(hx:VR ρ u x)(hy:VR ρ i y):c6 P ρ w v (Instr.indexAt t x y):=by
 unfold gi at h
 split at h
 ·rename_i elem n off len c k i hu
  split at h
  ·rename_i size hsz
   obtain⟨h1,h⟩:=an h
   simp only[Bool.and_eq_true,decide_eq_true_eq] at h1
   have h2:i.toNat<len:=Nat.le_of_ble_eq_true h1.2
   have h3:i<(len:Int):=by omega
   cases h;cases hy
   cases hx <;>
   ·rename_i p hp
    refine⟨.pointer (some ⟨p.blk,p.base+(off+i.toNat*size),none⟩),?_,.ptr hp⟩
    simp[Instr.indexAt,asIntOf,run_underlying hu,h1.1,h3,bN hsz,Addr.add_lit,Nat.add_assoc]
  ·cases h
 ·rename_i len elem n off k i hu
  split at h
  ·rename_i size hsz
   obtain⟨h1,h⟩:=an h
   simp only[Bool.and_eq_true,decide_eq_true_eq] at h1
   have h2:i.toNat<len:=Nat.le_of_ble_eq_true h1.2
   have h3:i<(len:Int):=by omega
   cases h;cases hy
   cases hx
   rename_i p hp
   refine⟨.pointer (some ⟨p.blk,p.base+(off+i.toNat*size),none⟩),?_,.ptr hp⟩
   simp[Instr.indexAt,Instr.sureAddr,asIntOf,run_underlying hu,h1.1,h3,bN hsz,Addr.add_lit,Nat.add_assoc]
  ·cases h
 ·cases h
theorem wy{t:TypeId}{u i v:LV}{x y:Value}(h:l_ P t u i=some v)(hx:VR ρ u x)(hy:VR ρ i y):c6 P ρ w v (Instr.index t x y):=by
 unfold l_ at h
 split at h
 ·rename_i len elem cs k i hu
  split at h
  ·rename_i size hsz
   obtain⟨h1,h⟩:=an h
   simp only[Bool.and_eq_true,decide_eq_true_eq] at h1
   have h2:i.toNat<len:=Nat.le_of_ble_eq_true h1.2
   have h3:i<(len:Int):=by omega
   cases hy
   cases hx
   rename_i xs hxs
   obtain⟨y,h4,h5⟩:=sM (P:=P) (w:=w) h hxs
   refine⟨y,?_,h5⟩
   simp[Instr.index,asIntOf,run_underlying hu,h1.1,h3,bN hsz,h4]
  ·cases h
 ·rename_i b k i hu
  obtain⟨h1,h⟩:=an h
  simp only[decide_eq_true_eq] at h1
  split at h
  ·rename_i c hc
   cases h;cases hy;cases hx
   refine⟨_,?_,.int _ _⟩
   have hc':b[i.toNat]?=some c:=by
    have hlt:i.toNat<b.size:=by
     have:=(List.getElem?_eq_some_iff.1 hc).1
     rwa [Array.length_toList] at this
    rw[getElem?_pos b i.toNat hlt]
    have h2:=(List.getElem?_eq_some_iff.1 hc).2
    rw[←h2]
    rfl
   simp[Instr.index,asIntOf,run_underlying hu,h1,hc']
  ·cases h
 ·cases h
theorem tZ{t xT:TypeId}{u v:LV}{ok:Bool}{x:Value}(h:doAssert P u t ok=some v)(hx:VR ρ u x):c6 P ρ w v (Instr.typeAssert x xT t ok):=by
 unfold doAssert at h
 split at h
 ·cases h
 ·rename_i d tt vv hd hu
  obtain⟨h1,h⟩:=an h
  have h1:=Nat.eq_of_beq_eq_true h1
  cases h
  cases hx
  rename_i y hy
  subst h1
  cases ok with
  |true=>
   refine⟨.tuple #[y,.bool true],?_,.tuple (.cons hy (.cons (.bool _) .nil))⟩
   simp only[Instr.typeAssert,Sem.run_bind,run_underlying hu,Result.andThen_ok]
   cases d<;>first|(exfalso;exact hd _ rfl)|(simp only[if_true];rfl)|(simp;done)
  |false=>
   refine⟨y,?_,hy⟩
   simp only[Instr.typeAssert,Sem.run_bind,run_underlying hu,Result.andThen_ok]
   cases d<;>first|(exfalso;exact hd _ rfl)|(simp only[if_true];rfl)|(simp;done)
 ·cases h
theorem rV{u v:LV}{i:Nat}{x:Value}(h:iX u i=some v)(hx:VR ρ u x):c6 P ρ w v (Instr.extract x i):=by
 unfold iX at h
 split at h
 ·cases hx
  rename_i xs hxs
  obtain⟨y,hy,hvr⟩:=hxs.get h
  refine⟨y,?_,hvr⟩
  simp[Instr.extract,hy]
 ·cases h
theorem qP{s s':St}{o:Oper}{a:Act}{q:Operand}{u:LV}{r:R}(ho:o.op=.nilCheck q)(h:ff u s=some (r,s'))(hx:VR ρ u (a.eval q)):s'=s∧∃v,r=.val v∧∃y,(execOp a.eval o).run P w=.ok (.value y) w∧VR ρ v y:=by
 have e:execOp a.eval o=execOp a.eval {o with op:=.nilCheck q}:=by cases o;dsimp only at ho;subst ho;rfl
 rw[e]
 unfold ff at h
 simp only[execOp]
 generalize a.eval q=x at hx ⊢
 split at h
 ·cases h;cases hx;exact⟨rfl,_,rfl,_,rfl,by constructor;assumption⟩
 ·cases h;cases hx<;>exact⟨rfl,_,rfl,_,rfl,by constructor;assumption⟩
 ·cases h;cases hx;exact⟨rfl,_,rfl,_,rfl,by constructor<;>assumption⟩
 ·cases h;cases hx;exact⟨rfl,_,rfl,_,rfl,by constructor;assumption⟩
 ·cases h
theorem zd{t:TypeId}{q1 q2:Operand}{u v:LV}{x y:Value}{b:Bool}(hb:iL P t u v=some b)(hx:VR ρ u x)(hy:VR ρ v y):(Op.equal t x y).run P w=.ok b w∧(∀op,(eqGuard op t q1 q2 x y).run P w=.ok () w)∧(binOp .eql t x y=do pure (.bool (←Op.equal t x y)))∧(binOp .neq t x y=do pure (.bool (!(←Op.equal t x y)))):=by
 have key:(∀d,(Op.equalIn (d+1) t x y).run P w=.ok b w)∧(∀op,(eqGuard op t q1 q2 x y).run P w=.ok () w)∧(binOp .eql t x y=do pure (.bool (←Op.equal t x y)))∧(binOp .neq t x y=do pure (.bool (!(←Op.equal t x y)))):=by
  unfold iL at hb
  split at hb<;>cases hb<;>rename_i hu<;>cases hx<;>cases hy<;>refine⟨fun d=>?_,fun op=>?_,rfl,rfl⟩
  all_goals first
   |(simp only[Op.equalIn,Sem.run_bind,run_underlying hu,Result.andThen_ok];rfl)
   |(cases op<;>rfl)
   |(cases op<;>first
     |rfl
     |(have hg0:∀d,(Op.eqGuardIn (d+1) t .nilIface .nilIface).run P w=.ok false w:=fun d=>by
        simp only[Op.eqGuardIn,Sem.run_bind,run_underlying hu,Result.andThen_ok]
        rfl
       have hg:(Op.eqGuardIn Op.maxDepth t .nilIface .nilIface).run P w=.ok false w:=hg0 9999
       unfold eqGuard
       cases q1<;>cases q2<;>simp[Sem.run_bind,hg]))
 exact⟨key.1 9999,key.2⟩
theorem zR{op:BinOp}{t:TypeId}{q1 q2:Operand}{u v z:LV}{x y:Value}(h:nZ P op t u v=some z)(hx:VR ρ u x)(hy:VR ρ v y):c6 P ρ w z (do eqGuard op t q1 q2 x y;binOp op t x y):=by
 unfold nZ at h
 split at h
 ·rename_i k a k' b
  cases hx;cases hy
  have hg:(eqGuard op t q1 q2 (.int k a) (.int k' b)).run P w=.ok () w:=by
   cases op<;>simp[eqGuard]
  simp only[c6,Sem.run_bind,hg,Result.andThen_ok]
  cases hsh:pE op with
  |true=>
   rw[hsh] at h
   simp only[cond_true] at h
   unfold xq at h
   cases hb:decide (b<0) with
   |true=>rw[hb] at h;cases h
   |false=>
    rw[hb] at h
    have hb':¬b<0:=of_decide_eq_false hb
    simp only[cond_false] at h
    cases op<;>first|(exact absurd hsh (by decide))|(simp only[Option.some.injEq] at h;subst h;refine⟨_,?_,.int _ _⟩;simp[binOp,Op.shift,hb'];done)
  |false=>
   rw[hsh] at h
   simp only[cond_false] at h
   obtain⟨hk,h2⟩:=an h
   clear h
   have hk2:k=k':=by simpa using hk
   clear hk
   subst hk2
   have h:=h2
   clear h2
   cases op<;>simp only[nT,xQ,Option.map_some] at h<;>first
    |(exact absurd hsh (by decide))
    |(cases h;first
     |exact⟨_,by simp[binOp,Op.intArith,Op.intBits,Op.intCmp];rfl,.int _ _⟩
     |exact⟨_,by simp[binOp,Op.intArith,Op.intBits,Op.intCmp],.int _ _⟩
     |exact⟨_,by simp[binOp,Op.intCmp];rfl,.bool _⟩
     |exact⟨_,by simp[binOp,Op.intCmp],.bool _⟩)
    |(cases hb:b==0 with
     |true=>rw[hb] at h;cases h
     |false=>
      rw[hb] at h
      cases h
      have hb':¬b=0:=by simpa using hb
      exact⟨_,by simp[binOp,Op.intDiv,hb'],.int _ _⟩)
 ·rename_i a b
  cases hx;cases hy
  unfold Bu at h
  split at h
  ·obtain⟨h1,h⟩:=an h
   cases h
   have h1:a.size+b.size<1000000:=Nat.le_of_ble_eq_true h1
   refine⟨_,?_,.str _⟩
   simp[eqGuard,binOp,Op.stringOp]
   omega
  ·cases h
   exact⟨_,by simp[eqGuard,binOp,Op.stringOp],.bool _⟩
  ·cases h
   exact⟨_,by simp[eqGuard,binOp,Op.stringOp],.bool _⟩
  ·cases h
 ·have main:=fun b (hb:iL P t u v=some b)=>zd (w:=w) (q1:=q1) (q2:=q2) hb hx hy
  split at h
  ·cases hs:iL P t u v with
   |none=>rw[hs] at h;cases h
   |some b=>
    rw[hs] at h
    cases h
    obtain⟨h1,h2,h3,_⟩:=main b hs
    exact⟨.bool b,by rw[h3];simp[h1,h2],.bool _⟩
  ·cases hs:iL P t u v with
   |none=>rw[hs] at h;cases h
   |some b=>
    rw[hs] at h
    cases h
    obtain⟨h1,h2,_,h3⟩:=main b hs
    exact⟨.bool !b,by rw[h3];simp[h1,h2],.bool _⟩
  ·cases h
end
end Go.Proofs.YtfnkomoickanfaaGreatDoor.Ev
