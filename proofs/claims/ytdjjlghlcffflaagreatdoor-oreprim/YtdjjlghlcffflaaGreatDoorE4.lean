/- Own. -/
import Derived.Test.YtdjjlghlcffflaaGreatDoorE2
import Derived.Laws.Entries
import Derived.Laws.NewFold
import Derived.Laws.Cells
import Derived.Laws.Build
import Derived.Laws.Cover3
set_option linter.unusedVariables false
set_option linter.unusedSimpArgs false
set_option maxHeartbeats 8000000
set_option maxRecDepth 100000
namespace Go.Proofs.YtdjjlghlcffflaaGreatDoor.Ev
open Go.RowKit
theorem ay{α:Type}{b:Bool}{x:Option α}{y:α}(h:cond b x none=some y):b=true/\x=some y:=by
 cases b
 ·cases h
 ·exact⟨rfl,h⟩
structure bH(ρ:Ren)(fr:Fr)(a:Act):Prop where
 size:a.tmps.size=fr.nt
 val:∀t,VR ρ (fr.get t) (a.tmps.getD t undef)
 room:fr.nt<1000000000
 dfs:DfR ρ fr.marks a.defers
theorem bH.mono{ρ σ:Ren}{fr:Fr}{a:Act}(h:bH ρ fr a)(hle:ρ.le σ):bH σ fr a:=⟨h.size,fun t=>(h.val t).mono hle,h.room,h.dfs.mono hle⟩
theorem pV{ρ:Ren}:VR ρ .un undef:=.tuple .nil
theorem c_{fr fr':Fr}{dst:Option Tmp}{v:LV}(h:fr.put dst v=some fr'):fr'.marks=fr.marks/\fr'.rnd=fr.rnd:=by
 unfold Fr.put at h
 cases dst with
 |none=>cases h;exact⟨rfl,rfl⟩
 |some d=>obtain⟨_,h⟩:=ay h;cases h;exact⟨rfl,rfl⟩
theorem kx{fr fr':Fr}{dst:Option Tmp}{v:LV}(h:fr.put dst v=some fr'):fr'.nt=fr.nt:=by
 unfold Fr.put at h
 cases dst with
 |none=>cases h;rfl
 |some d=>obtain⟨_,h⟩:=ay h;cases h;rfl
theorem bH.put{ρ:Ren}{fr fr':Fr}{a:Act}{dst:Option Tmp}{v:LV}{x:Value}(h:bH ρ fr a)(hp:fr.put dst v=some fr')(hv:VR ρ v x):bH ρ fr' (a.put dst x):=by
 unfold Fr.put at hp
 cases dst with
 |none=>cases hp;exact h
 |some d=>
  obtain⟨hd,hp⟩:=ay hp
  cases hp
  have hd':Nat.succ d<=fr.nt:=Nat.le_of_ble_eq_true hd;have hr:=h.room;refine⟨by simp[Act.put,h.size],fun t=>?_,h.room,h.dfs⟩
  have hg:(Fr.mk (fr.tm.put 40 d (some v)) fr.nt fr.marks fr.rnd).get t=if t=d then v else fr.get t:=by
   unfold Fr.get;dsimp only;rw[Tr.l6 40 _ _ _ _ (by omega)]
   split<;>simp
  rw[hg];simp only[Act.put,Array.getD_eq_getD_getElem?];by_cases e:t=d
  ·subst e
   rw[if_pos rfl,Array.getElem?_setIfInBounds_self_of_lt (by rw[h.size];exact hd')]
   exact hv
  ·rw[if_neg e,Array.getElem?_setIfInBounds_ne (by omega)]
   have:=h.val t;rwa [Array.getD_eq_getD_getElem?] at this
theorem aU{ρ:Ren}{fr:Fr}{a:Act}(h:bH ρ fr a){x:Operand}{v:LV}(he:fr.eval x=some v):VR ρ v (a.eval x):=by
 cases x with
 |tmp t=>simp only[Fr.eval,Option.some.injEq] at he;subst he;exact h.val t
 |const c=>exact Cm he
 |global g=>cases he
 |func f=>simp only[Fr.eval,Option.some.injEq] at he;subst he;exact .func .nil .nil
theorem kT{ρ:Ren}{fr:Fr}{a:Act}(h:bH ρ fr a):∀{xs:List Operand} {vs:List LV},fr.fG xs=some vs->VRs ρ vs (xs.map a.eval)
 | [],vs,he=>by cases he;exact .nil
 |x::xs,vs,he=>by
  simp only[Fr.fG] at he
  split at he
  ·rename_i v us h1 h2
   cases he
   exact .cons (aU h h1) (kT h h2)
  ·cases he
inductive PRs (ρ:Ren):List (Nat×LV)->List (Nat×Value)->Prop where
 |nil:PRs ρ [] []
 |cons {i:Nat} {v:LV} {x:Value} {vs:List (Nat×LV)} {xs:List (Nat×Value)}:VR ρ v x->PRs ρ vs xs->PRs ρ ((i,v)::vs) ((i,x)::xs)
theorem oF{ρ:Ren}{fr:Fr}{a:Act}(h:bH ρ fr a):∀{xs:List (Nat×Operand)} {vs:List (Nat×LV)},fr.parts xs=some vs->PRs ρ vs (xs.map fun p=>(p.1,a.eval p.2))
 | [],vs,he=>by cases he;exact .nil
 |(i,x)::xs,vs,he=>by
  simp only[Fr.parts] at he
  split at he
  ·rename_i v us h1 h2
   cases he
   exact .cons (aU h h1) (oF h h2)
  ·cases he
section
variable {P:Program}
theorem ja{t:TypeId}{i:TypeInfo}(h:P.info? t=some i)(w:World):(typeInfo t).run P w=.ok i w:=by simp[typeInfo,h]
theorem ct{t:TypeId}{k:Nat}(h:cB P t=some k)(w:World):(sizeOf t).run P w=.ok k w:=by
 unfold cB at h
 cases hi:P.info? t with
 |none=>rw[hi] at h;cases h
 |some i=>rw[hi] at h;cases h;simp[sizeOf,ja hi]
theorem mR{t:TypeId}{k:Nat}(h:iK P t=some k):∃i,P.info? t=some i/\i.bytes=k:=by
 unfold iK at h
 cases hi:P.info? t with
 |none=>rw[hi] at h;cases h
 |some i=>rw[hi] at h;cases h;exact⟨i,rfl,rfl⟩
theorem pR{t:TypeId}{b:Bool}(h:pF P t=some b)(w:World):(isAgg t).run P w=.ok b w:=by
 unfold pF at h
 split at h<;>cases h<;>rename_i hu<;>simp[isAgg,run_underlying hu]
theorem gG{t:TypeId}{z:LV}(h:zeroAt P t=some z):∃x,(∀w,(zeroValue t).run P w=.ok x w)/\∀ρ,VR ρ z x:=by
 unfold zeroAt at h
 split at h
 ·rename_i i hi
  split at h
  ·rename_i x hx
   exact⟨x,fun w=>by simp[zeroValue,ja hi,hx],fun ρ=>Cm h⟩
  ·cases h
 ·cases h
theorem fi{t e:TypeId}(h:elemAt P t=some e):P.underlying t=some (.slice e):=by
 unfold elemAt at h
 split at h
 ·rename_i hu;cases h;exact hu
 ·cases h
def ke(P:Program)(G:Nat->Prop)(s s':St)(ρ:Ren)(w:World)(v:LV)(sem:Sem Value):Prop:=
 ∃ρ' w' x,sem.run P w=.ok x w'/\Ext G s s' ρ ρ' w w'/\VR ρ' v x
theorem fo{s s':St}{b:Blk}{r:R}(h:s.sA b=some (r,s')):∃n,s.new b=some (n,s')/\r=.val (.ptr n 0):=by
 unfold St.sA at h
 split at h
 ·rename_i n s1 hn
  cases h
  exact⟨n,hn,rfl⟩
 ·cases h
theorem qt{G:Nat->Prop}{s s':St}{ρ:Ren}{w:World}{elem:TypeId}{v:LV}{x:Value}{n:Nat}(hr:aV G ρ s.heap w)(hf:bg ρ s s')(hx:VR ρ v x)(hn:s.new ⟨v.cells,elem,none,none⟩=some (n,s')):
  ke P G s s' ρ w (.ptr n 0) (do pure (.pointer (some (<-newVar elem x)))):=by
 have hc:=hx.cells;have he:=pt hn hr hf x.cells 0 (w':=w.alloc (.cells x.cells elem)) rfl rfl rfl rfl (by have:=hc.length;simp at this;dsimp only;omega) (fun i v hv=>by
  obtain⟨y,hy,hvr⟩:=hc.get hv;exact⟨y,by simpa using hy,hvr⟩) (fun sz h=>by cases h)
 refine⟨_,_,_,?_,he,.ptr (p:=⟨w.heap.size,0,0⟩) (by simp[Ren.upd])⟩
 simp[newVar,newRow]
theorem Ae{G:Nat->Prop}{s s':St}{ρ:Ren}{w:World}{elem:TypeId}{v:LV}(h:iO P elem s=some (.val v,s'))(hr:aV G ρ s.heap w)(hf:bg ρ s s'):
  ke P G s s' ρ w v (Instr.alloc elem true (.tuple #[])):=by
 unfold iO at h
 split at h
 ·rename_i z hz
  obtain⟨n,hn,hv⟩:=fo h
  cases hv
  obtain⟨x,hx,hvx⟩:=gG hz;obtain⟨ρ',w',y,h1,h2,h3⟩:=qt (P:=P) hr hf (hvx ρ) hn;refine⟨ρ',w',y,?_,h2,h3⟩;simp only[Instr.alloc,Sem.run_bind,hx,Result.andThen_ok];exact h1
 ·cases h
theorem Dy{G:Nat->Prop}{s s':St}{ρ:Ren}{w:World}{elem:TypeId}{v u:LV}{x:Value}(h:Af elem u s=some (.val v,s'))(hx:VR ρ u x)(hr:aV G ρ s.heap w)(hf:bg ρ s s'):
  ke P G s s' ρ w v (Instr.box elem x):=by
 obtain⟨n,hn,hv⟩:=fo h
 cases hv
 exact qt hr hf hx hn
theorem iD{cs out:List LV}{off k:Nat}(h:dq cs off k=some out):off+k<=cs.length/\out=(cs.drop off).take k:=by
 unfold dq at h
 obtain⟨h1,h2⟩:=ay h
 cases h2
 exact⟨Nat.le_of_ble_eq_true h1,rfl⟩
theorem gi{cs vs out:List LV}{off:Nat}(h:fO cs off vs=some out):off+vs.length<=cs.length/\out=cs.take off++(vs++cs.drop (off+vs.length)):=by
 unfold fO at h
 obtain⟨h1,h2⟩:=ay h
 cases h2
 exact⟨Nat.le_of_ble_eq_true h1,rfl⟩
theorem mC{cs vs out:List LV}{off:Nat}(h:fO cs off vs=some out)(i:Nat):out[i]?=if off<=i/\i<off+vs.length then vs[i-off]? else cs[i]?:=by
 obtain⟨h1,rfl⟩:=gi h;by_cases h2:i<off
 ·rw[if_neg (by omega),List.getElem?_append_left (by simp;omega)]
  simp[h2]
 ·by_cases h3:i<off+vs.length
  ·rw[if_pos (by omega),List.getElem?_append_right (by simp;omega),List.getElem?_append_left (by simp;omega)]
   simp;congr 1;omega
  ·rw[if_neg (by omega),List.getElem?_append_right (by simp;omega),List.getElem?_append_right (by simp;omega)]
   simp;congr 1;omega
theorem mD{cs vs out:List LV}{off:Nat}(h:fO cs off vs=some out):out.length=cs.length:=by
 obtain⟨h1,rfl⟩:=gi h;simp;omega
theorem iy{ρ:Ren}{w:World}{n:Nat}{b:Blk}{p:Pl}{cs:Array Value}(h:lE ρ w n b p cs){off k:Nat}{out:List LV}(hr:dq b.cells off k=some out):
  ∃xs:List Value,(loadCells ⟨p.blk,p.base+off,none⟩ k).run P w=.ok xs.toArray w/\VRs ρ out xs/\xs.length=k:=by
 obtain⟨h1,rfl⟩:=iD hr;have hf:=h.fit;refine⟨(cs.toList.drop (p.base+off)).take k,?_,?_,by simp;omega⟩
 ·have hl:((cs.toList.drop (p.base+off)).take k).length=k:=by simp;omega
  have:=run_loadCells_list (P:=P) w ⟨p.blk,p.base+off,none⟩ ((cs.toList.drop (p.base+off)).take k) (fun j v hj=>by
   rw[Addr.add_lit];rw[List.getElem?_take] at hj
   split at hj
   ·rw[List.getElem?_drop] at hj
    simp[World.cell?,h.heap];simpa using hj
   ·cases hj)
  rwa [hl] at this
 ·refine VRs.oC (by simp;omega) fun i v x hv hx=>?_
  rw[List.getElem?_take] at hv hx
  split at hv
  ·rw[List.getElem?_drop] at hv hx
   obtain⟨y,hy,hvr⟩:=h.val _ v hv
   rename_i hik
   rw[if_pos hik] at hx
   have:cs.toList[p.base+off+i]?=some y:=by simpa [Nat.add_assoc] using hy
   rw[this] at hx
   cases hx
   exact hvr
  ·cases hv
theorem Ea{ρ:Ren}{w:World}{n:Nat}{b:Blk}{p:Pl}{cs:Array Value}(h:lE ρ w n b p cs){off:Nat}{v:LV}(hv:b.cells[off]?=some v):
  ∃x,(load ⟨p.blk,p.base+off,none⟩).run P w=.ok x w/\VR ρ v x:=by
 obtain⟨x,hx,hvr⟩:=h.val off v hv;exact⟨x,by simp[World.cell?,h.heap,hx],hvr⟩
theorem n_{G:Nat->Prop}{s s':St}{ρ:Ren}{w:World}{t:TypeId}{u:LV}{x:Value}{r:R}(h:fR P t u s=some (r,s'))(hx:VR ρ u x)(hw:WF s)(hG:Gok G s')(hr:aV G ρ s.heap w):
  ∃v,r=.val v/\aA s s'/\∃y,(Instr.loadAt t x).run P w=.ok y w/\Ext G s s' ρ ρ w w/\VR ρ v y:=by
 unfold fR at h
 cases hx with
 |ptr hp=>
  rename_i n off p
  dsimp only at h;split at h
  ·rename_i b s1 hl ha
   obtain⟨hb,rfl,hlp⟩:=look_eq hl;split at h
   ·rename_i k hk
    split at h
    ·rename_i cs hc
     cases h
     have hGn:=gR hw (by unfold Live;rw[hb];simp) hG
     obtain⟨q,ds,hrep⟩:=(hr.rep n b hGn hb).cells hlp;have:=hrep.at_;rw[hp] at this;cases this
     obtain⟨xs,h1,h2,_⟩:=iy (P:=P) hrep hc;refine⟨_,rfl,cA s n,.agg xs.toArray,?_,gO n hr,.agg h2⟩;simp[Instr.loadAt,Instr.sureAddr,loadVar,pR ha,ct hk,h1]
    ·cases h
   ·cases h
  ·rename_i b s1 hl ha
   obtain⟨hb,rfl,hlp⟩:=look_eq hl;split at h
   ·rename_i v hv
    cases h
    have hGn:=gR hw (by unfold Live;rw[hb];simp) hG
    obtain⟨q,ds,hrep⟩:=(hr.rep n b hGn hb).cells hlp;have:=hrep.at_;rw[hp] at this;cases this
    obtain⟨y,h1,h2⟩:=Ea (P:=P) hrep hv;refine⟨_,rfl,cA s n,y,?_,gO n hr,h2⟩;simp only[Instr.loadAt,Instr.sureAddr,loadVar,Sem.run_bind,Sem.run_pure,Result.andThen_ok,pR ha,Bool.false_eq_true,if_false,Sem.run_ite];exact h1
   ·cases h
  ·cases h
 |_=>cases h
theorem fZ{G:Nat->Prop}{s s':St}{ρ:Ren}{w:World}{n off:Nat}{vs:List LV}{xs:List Value}{p:Pl}(h:eG n off vs s=some s')(hp:ρ n=some p)(hx:VRs ρ vs xs)(hw:WF s)(hG:Gok G s')(hr:aV G ρ s.heap w):
  aA s s'/\∃w',(storeCells ⟨p.blk,p.base+off,none⟩ xs).run P w=.ok () w'/\Ext G s s' ρ ρ w w':=by
 unfold eG at h
 split at h
 ·rename_i b hbc
  obtain⟨hb,hlp⟩:=pB hbc;obtain⟨h1,h⟩:=ay h;split at h
  ·rename_i cs hc
   cases h
   have hl:Live s.heap n:=by unfold Live;rw[hb];simp
   have hlt:=cL hw hl;have h9:n<1000000000:=Nat.lt_of_lt_of_le hlt hw.lt;have hGn:=l7 hw hl hG;obtain⟨q,ds,hrep⟩:=(hr.rep n b hGn hb).cells hlp;have:=hrep.at_;rw[hp] at this;cases this
   have hlen:=hx.length;obtain⟨hfit,_⟩:=gi hc;have hf:=hrep.fit;have hone:∀x∈xs,Value.oneCell' x=true:=by
    intro x hxm;obtain⟨i,hi⟩:=List.mem_iff_getElem?.1 hxm;have hil:i<xs.length:=(List.getElem?_eq_some_iff.1 hi).1;have hv:vs[i]?=some (vs[i]'(by omega)):=List.getElem?_eq_getElem _
    obtain⟨y,hy,hvr⟩:=hx.get hv;rw[hi] at hy
    cases hy
    have h2:=List.all_eq_true.1 h1 _ (List.getElem_mem (show i<vs.length by omega))
    have h3:=hvr.one;rw[h2] at h3
    cases x<;>first|rfl|cases h3
   have hst:=run_storeCells_at P p.blk (p.base+off) b.elem xs 0 ds w hrep.heap (by omega) hone
   refine⟨fm _ h9 hl hlt,_,hst,?_⟩;have hh:=setRow_heap w p.blk ds (ds.toList.take (p.base+off+0)++xs++ds.toList.drop (p.base+off+0+xs.length)).toArray b.elem (0,0) hrep.heap;refine Gc (p:=p) (cs:=(ds.toList.take (p.base+off+0)++xs++ds.toList.drop (p.base+off+0+xs.length)).toArray) h9 hlt hl hGn hr ⟨hp,hh,?_,?_,?_⟩ ?_ ?_ rfl rfl rfl
   ·intro i v hi
    dsimp only at hi;rw[mC hc] at hi
    split at hi
    ·rename_i hio
     obtain⟨y,hy,hvr⟩:=hx.get hi;refine⟨y,?_,hvr⟩;rw[List.getElem?_toArray,List.append_assoc,List.getElem?_append_right (by simp;omega),List.getElem?_append_left (by simp;omega)]
     rw[<-hy];congr 1;simp;omega
    ·rename_i hio
     obtain⟨y,hy,hvr⟩:=hrep.val i v hi;have hil:i<b.cells.length:=(List.getElem?_eq_some_iff.1 hi).1;refine⟨y,?_,hvr⟩;have hy':ds.toList[p.base+i]?=some y:=by simpa using hy
     rw[List.getElem?_toArray,List.append_assoc];by_cases h5:i<off
     ·rw[List.getElem?_append_left (by simp;omega),List.getElem?_take,if_pos (by omega)]
      exact hy'
     ·rw[List.getElem?_append_right (by simp;omega),List.getElem?_append_right (by simp;omega),List.getElem?_drop,<-hy']
      congr 1;simp;omega
   ·dsimp only
    rw[mD hc];simp;omega
   ·intro sz hz
    have:=hrep.more sz hz;rw[<-this];simp;omega
   ·intro k hk
    simp only[World.setRow,Array.getElem?_modify];rw[if_neg (by omega)]
   ·simp[World.setRow]
  ·cases h
 ·cases h
theorem Ap{G:Nat->Prop}{s s':St}{ρ:Ren}{w:World}{t:TypeId}{u v:LV}{x y:Value}{r:R}(h:lV P t u v s=some (r,s'))(hx:VR ρ u x)(hy:VR ρ v y)(hw:WF s)(hG:Gok G s')(hr:aV G ρ s.heap w):
  r=.skip/\aA s s'/\∃w',(Instr.storeAt t x y).run P w=.ok () w'/\Ext G s s' ρ ρ w w':=by
 unfold lV at h
 cases hx with
 |ptr hp=>
  rename_i n off p
  split at h
  ·rename_i k e1 hk
   cases e1
   obtain⟨h1,h⟩:=ay h;split at h
   ·rename_i s1 hs
    cases h
    have hc:=hy.cells;obtain⟨hm,w',h2,h3⟩:=fZ (P:=P) hs hp hc hw hG hr;refine⟨rfl,hm,w',?_,h3⟩;have hlen:y.cells.size=k:=by
     have e1:=hc.length;have e2:=Nat.eq_of_beq_eq_true h1;simp at e1
     omega
    simp[Instr.storeAt,Instr.sureAddr,storeVar,ct hk,hlen,h2]
   ·cases h
  ·cases h
 |_=>split at h<;>first|cases h|contradiction
end
section
variable {P:Program} {ρ:Ren} {w:World}
theorem qR(place:Nat->Option (Nat×Nat)):∀{parts:List (Nat×LV)} {xs:List (Nat×Value)} {cells out:List LV} {cs:Array Value},PRs ρ parts xs->VRs ρ cells cs.toList->si place cells parts=some out->∃ds:Array Value,Instr.fill place cs xs=some ds/\VRs ρ out ds.toList
 |_,_,cells,out,cs,.nil,hc,h=>by cases h;exact⟨cs,rfl,hc⟩
 |_,_,cells,out,cs,.cons (i:=i) (v:=v) (x:=x) (vs:=vs) (xs:=xs) hv hvs,hc,h=>by
  simp only[si] at h
  split at h
  ·cases h
  ·rename_i off size hp
   obtain⟨h1,h⟩:=ay h;split at h
   ·rename_i cs1 hw
    have hx:=hv.cells;have hxl:=hx.length;have hcl:=hc.length;have hsz:=Nat.eq_of_beq_eq_true h1;obtain⟨hfit,_⟩:=gi hw;have hfold:∃ds:Array Value,(x.cells.zipIdx.foldl (fun cs (c,j)=>cs.setIfInBounds (off+j) c) cs)=ds/\ds.size=cs.size/\∀j,ds[j]?=if off<=j/\j<off+x.cells.size then x.cells[j-off]? else cs[j]?:=by
     refine⟨_,rfl,?_⟩;have gen:∀(l:List Value) (k:Nat) (ds:Array Value),k+l.length+off<=ds.size->((l.zipIdx k).foldl (fun cs (c,j)=>cs.setIfInBounds (off+j) c) ds).size=ds.size/\∀j,((l.zipIdx k).foldl (fun cs (c,j)=>cs.setIfInBounds (off+j) c) ds)[j]?=if off+k<=j/\j<off+k+l.length then l[j-off-k]? else ds[j]?:=by
      intro l;induction l with
      |nil=>intro k ds _;simp;intro j h1 h2;omega
      |cons c l ih=>
       intro k ds hk;simp only[List.length_cons] at hk
       simp only[List.zipIdx_cons,List.foldl_cons];obtain⟨e1,e2⟩:=ih (k+1) (ds.setIfInBounds (off+k) c) (by simp;omega)
       refine⟨by rw[e1];simp,fun j=>?_⟩
       rw[e2];by_cases hj:j=off+k
       ·subst hj
        rw[if_neg (by omega),if_pos (by simp)]
        rw[Array.getElem?_setIfInBounds_self_of_lt (by omega)]
        simp
       ·by_cases hj2:off+(k+1)<=j/\j<off+(k+1)+l.length
        ·rw[if_pos hj2,if_pos (by simp;omega)]
         have:j-off-k=(j-off-(k+1))+1:=by omega
         rw[this];simp
        ·rw[if_neg hj2,if_neg (by simp;omega),Array.getElem?_setIfInBounds_ne (by omega)]
     have:=gen x.cells.toList 0 cs (by simp at hxl hcl ⊢;omega)
     have e:x.cells.zipIdx=(x.cells.toList.zipIdx 0).toArray:=by apply Array.ext';simp[Array.toList_zipIdx]
     rw[e,List.foldl_toArray']
     ·refine⟨this.1,fun j=>?_⟩
      rw[this.2 j];simp
     ·simp
    obtain⟨ds,hds,hdsz,hdget⟩:=hfold;have hcs1:VRs ρ cs1 ds.toList:=by
     refine VRs.oC (by rw[mD hw];simp at hcl ⊢;omega) fun j u y hu hy=>?_
     rw[mC hw] at hu
     have hy':ds[j]?=some y:=by simpa using hy
     rw[hdget] at hy'
     simp at hxl
     by_cases hj:off<=j/\j<off+v.cells.length
     ·rw[if_pos hj] at hu
      rw[if_pos (by omega)] at hy'
      obtain⟨z,hz,hvr⟩:=hx.get hu;have:x.cells[j-off]?=some z:=by simpa using hz
      rw[this] at hy'
      cases hy'
      exact hvr
     ·rw[if_neg hj] at hu
      rw[if_neg (by omega)] at hy'
      obtain⟨z,hz,hvr⟩:=hc.get hu;have:cs[j]?=some z:=by simpa using hz
      rw[this] at hy'
      cases hy'
      exact hvr
    obtain⟨es,he,hvr⟩:=qR place hvs hcs1 h;refine⟨es,?_,hvr⟩;simp only[Instr.fill,hp];rw[if_neg (by simp at hxl hcl ⊢;omega),hds]
    exact he
   ·cases h
theorem qw:∀{fs:List Field} {pl:List (Nat×Nat)},placesOf P fs=some pl->((fs.mapM fun f=>Prod.mk f.offset <$> sizeOf f.type):Sem (List (Nat×Nat))).run P w=.ok pl w
 | [],pl,h=>by cases h;simp
 |f::fs,pl,h=>by
  simp only[placesOf] at h
  split at h
  ·rename_i k r hk hr
   cases h
   simp[List.mapM_cons,ct hk,qw hr]
  ·cases h
theorem Ag{s s':St}{t:TypeId}{ps:List (Nat×LV)}{xs:Array (Nat×Value)}{r:R}(h:lS P t ps s=some (r,s'))(hp:PRs ρ ps xs.toList):
  s'=s/\∃v,r=.val v/\∃x,(Instr.build t xs).run P w=.ok x w/\VR ρ v x:=by
 unfold lS at h
 split at h
 ·rename_i z fields hz hu
  split at h
  ·rename_i pl hpl
   split at h
   ·rename_i cs hf
    cases h
    obtain⟨zx,hzx,hzv⟩:=gG hz;obtain⟨ds,hd,hvr⟩:=qR (fun i=>pl[i]?) hp (hzv ρ).cells hf
    refine⟨rfl,_,rfl,.agg ds,?_,by have:=VR.agg hvr;simpa using this⟩
    have hmap:((fields.mapM fun f=>do pure (f.offset,<-sizeOf f.type)):Sem (Array (Nat×Nat))).run P w=.ok pl.toArray w:=by
     rw[Array.mapM_eq_mapM_toList];simp[qw hpl]
    simp only[Instr.build,Sem.run_bind,hzx,Result.andThen_ok,run_underlying hu,hmap];have hd':Instr.fill (fun i=>pl.toArray[i]?) zx.cells xs.toList=some ds:=by
     rw[<-hd];congr 1;funext i;simp
    rw[hd'];simp
   ·cases h
  ·cases h
 ·cases h
end
section
variable {P:Program} {ρ:Ren} {w:World}
theorem rH(zs:List LV):∀n,(kC zs n).length=n*zs.length
 |0=>by simp[kC]
 |n+1=>by simp[kC,rH zs n,Nat.add_mul];omega
theorem xK(zs:List LV)(hz:0<zs.length):∀n i,i<n*zs.length->(kC zs n)[i]?=zs[i%zs.length]?
 |0,i,h=>by simp at h
 |n+1,i,h=>by
  simp only[kC];by_cases hi:i<zs.length
  ·rw[List.getElem?_append_left hi,Nat.mod_eq_of_lt hi]
  ·rw[List.getElem?_append_right (by omega),xK zs hz n _ (by rw[Nat.add_mul] at h;omega),<-Nat.mod_eq_sub_mod (by omega)]
theorem lD{z:LV}{x:Value}{size n:Nat}(hv:VR ρ z x)(hs:z.cells.length=size)(h0:0<size):
  VRs ρ (kC z.cells n) (((Array.range (n*size)).map (x.cells[· % x.cells.size]!)).toList):=by
 have hc:=hv.cells;have hl:=hc.length;simp at hl
 refine VRs.oC (by simp[rH];rw[hs]) fun i v y hi hy=>?_
 have hlt:i<n*z.cells.length:=by
  have:=(List.getElem?_eq_some_iff.1 hi).1;rwa [rH] at this
 rw[xK _ (by omega) _ _ hlt] at hi
 obtain⟨u,hu,hvr⟩:=hc.get hi;have hlt2:i<n*size:=by rwa [hs] at hlt
 have hm:i%z.cells.length<x.cells.size:=by rw[hl];exact Nat.mod_lt _ (by omega)
 simp[hlt2] at hy
 have hu2:x.cells[i%z.cells.length]?=some u:=by simpa using hu
 rw[<-hl] at hu2 hm
 rw[Array.getElem?_eq_getElem hm] at hu2
 cases hu2
 rw[getElem!_pos x.cells _ hm] at hy
 rw[<-hy];exact hvr
theorem r8{G:Nat->Prop}{s s':St}{t:TypeId}{len:Nat}{ps:List (Nat×LV)}{xs:Array (Nat×Value)}{r:R}(h:fh P t len ps s=some (r,s'))(hp:PRs ρ ps xs.toList)(hr:aV G ρ s.heap w)(hf:bg ρ s s'):
  aA s s'/\∃v,r=.val v/\ke P G s s' ρ w v (Instr.buildSlice t len xs):=by
 unfold fh at h
 split at h
 ·rename_i elem he
  split at h
  ·rename_i size z hsz hz
   obtain⟨h1,h⟩:=ay h;simp only[Bool.and_eq_true] at h1
   obtain⟨⟨h1,h2⟩,h3⟩:=h1;have h1:=Nat.le_of_ble_eq_true h1;have h2:=Nat.eq_of_beq_eq_true h2;have h3:0<size:=Nat.le_of_ble_eq_true h3;split at h
   ·rename_i cs hc
    split at h
    ·rename_i n s1 hn
     cases h
     obtain⟨zx,hzx,hzv⟩:=gG hz;have hzc:=(hzv ρ).cells;obtain⟨ds,hd,hvr⟩:=qR (fun i=>some (i*size,size)) hp (lD (n:=len) (hzv ρ) h2 h3) hc
     have hl:=hvr.length;have e:=pt hn hr hf ds 0 (w':=w.alloc (.cells ds elem)) rfl rfl rfl rfl (by simp at hl;dsimp only;omega) (fun i v hv=>by
      obtain⟨y,hy,hq⟩:=hvr.get hv;exact⟨y,by simpa using hy,hq⟩) (fun sz h=>by cases h)
     refine⟨bG hn,_,rfl,_,_,.slice (some ⟨w.heap.size,0,none⟩) len len,?_,e,?_⟩
     ·simp only[Instr.buildSlice,Sem.run_bind,run_underlying (fi he),Result.andThen_ok,ct hsz,Sem.run_ite]
      rw[if_neg (by omega)]
      by_cases h0:len*size=0
      ·have hl0:len=0:=by
        rcases Nat.mul_eq_zero.1 h0 with h|h
        ·exact h
        ·omega
       subst hl0;have r0:∀f:Nat->Value,(Array.range 0).map f=#[]:=fun _=>by rw[Array.range_zero'];simp
       rw[Nat.zero_mul,r0] at hd
       simp[r0,hd,newRow]
      ·rw[if_neg h0]
       simp only[Sem.run_bind,hzx,Result.andThen_ok,Sem.run_pure,hd];simp[newRow]
     ·have:=VR.known (ρ:=ρ.upd n ⟨w.heap.size,0,0⟩) (n:=n) (off:=0) (len:=len) (c:=len) (p:=⟨w.heap.size,0,0⟩) (by simp[Ren.upd])
      simpa using this
    ·cases h
   ·cases h
  ·cases h
 ·cases h
theorem wrap_small{c:Int}(h0:0<=c)(h1:c<=1000000):IntKind.i64.wrap c=c:=by
 unfold IntKind.wrap;have:IntKind.i64.bits=64:=rfl;simp only[this,IntKind.signed];have e:c%(2^64:Int)=c:=Int.emod_eq_of_lt h0 (by omega)
 rw[e];simp;omega
theorem tK{G:Nat->Prop}{s s':St}{t:TypeId}{u v:LV}{x y:Value}{r:R}(h:fS P t u v s=some (r,s'))(hx:VR ρ u x)(hy:VR ρ v y)(hr:aV G ρ s.heap w)(hf:bg ρ s s'):
  aA s s'/\∃z,r=.val z/\ke P G s s' ρ w z (Instr.makeSlice t x y):=by
 unfold fS at h
 split at h
 ·rename_i elem kl l kc c he
  cases hx
  cases hy
  split at h
  ·rename_i size bytes z hsz hby hz
   obtain⟨h1,h⟩:=ay h;simp only[Bool.and_eq_true,decide_eq_true_eq] at h1
   obtain⟨⟨⟨⟨⟨h1,h2⟩,h3⟩,h4⟩,h5⟩,h6⟩:=h1;have h4:=Nat.le_of_ble_eq_true h4;have h5:=Nat.eq_of_beq_eq_true h5;have h6:0<size:=Nat.le_of_ble_eq_true h6;split at h
   ·rename_i n s1 hn
    cases h
    obtain⟨zx,hzx,hzv⟩:=gG hz;obtain⟨i,hi,hib⟩:=mR hby;have hvr:=lD (n:=c.toNat) (hzv ρ) h5 h6;have hl:=hvr.length;have e:=pt hn hr hf ((Array.range (c.toNat*size)).map (zx.cells[· % zx.cells.size]!)) 0 (w':=w.alloc (.cells ((Array.range (c.toNat*size)).map (zx.cells[· % zx.cells.size]!)) elem)) rfl rfl rfl rfl (by simp at hl;simp;omega) (fun i v hv=>by
     obtain⟨y,hy,hq⟩:=hvr.get hv;exact⟨y,by rw[<-Array.getElem?_toList];exact hy,hq⟩) (fun sz h=>by cases h)
    refine⟨bG hn,_,rfl,_,_,.slice (some ⟨w.heap.size,0,none⟩) l.toNat c.toNat,?_,e,?_⟩
    ·have hl':IntKind.i64.wrap l=l:=wrap_small h1 (by omega)
     have hc':IntKind.i64.wrap c=c:=wrap_small (by omega) h3
     have hb:¬(2^48:Int)<(bytes:Int)*c:=by
      have:(bytes:Int)*c<=1000*1000000:=Int.mul_le_mul (by omega) h3 (by omega) (by omega)
      omega
     have hbl:¬c.toNat*bytes>roomBytes:=by
      have:c.toNat*bytes<=1000000*1000:=Nat.mul_le_mul (by omega) h4
      simp only[roomBytes];omega
     have hcl:¬c<0:=by omega
     have hll:¬l<0:=by omega
     have hlc:¬c<l:=by omega
     simp only[Instr.makeSlice,Sem.run_bind,run_underlying (fi he),Result.andThen_ok,asInt,asIntOf,Sem.run_pure,ja hi,hib,hl',hc',gt_iff_lt,decide_eq_false hb,decide_eq_false hcl,decide_eq_false hll,decide_eq_false hlc,Bool.or_false,Bool.false_eq_true,if_false,Sem.run_ite,askRoom];rw[if_neg hbl];simp only[Result.andThen_ok,ct hsz];by_cases h0:c.toNat*size=0
     ·rw[if_pos h0]
      have r0:∀f:Nat->Value,(Array.range 0).map f=#[]:=fun _=>by rw[Array.range_zero'];simp
      simp[newRow,h0,r0]
     ·rw[if_neg h0]
      simp only[hzx,Result.andThen_ok];simp[newRow]
    ·have:=VR.known (ρ:=ρ.upd n ⟨w.heap.size,0,0⟩) (n:=n) (off:=0) (len:=l.toNat) (c:=c.toNat) (p:=⟨w.heap.size,0,0⟩) (by simp[Ren.upd])
     simpa using this
   ·cases h
  ·cases h
 ·cases h
def eh(P:Program)(ρ:Ren)(w:World)(v:LV)(sem:Sem Value):Prop:=∃x,sem.run P w=.ok x w/\VR ρ v x
theorem F_{op:UnOp}{u v:LV}{x:Value}(h:Aq op u=some v)(hx:VR ρ u x):eh P ρ w v (Op.unary op x):=by
 unfold Aq at h
 split at h<;>cases h<;>cases hx
 ·exact⟨_,rfl,.int _ _⟩
 ·exact⟨_,rfl,.int _ _⟩
 ·exact⟨_,rfl,.bool _⟩
theorem wm{src dst:TypeId}{u v:LV}{x:Value}(h:kQ P src dst u=some v)(hx:VR ρ u x):eh P ρ w v (convert src dst x):=by
 unfold kQ at h
 split at h
 ·rename_i d k q n hs hd
  cases h;cases hx
  refine⟨_,?_,.int _ _⟩;simp only[convert,Sem.run_bind,run_underlying hs,run_underlying hd,Result.andThen_ok]
  cases d<;>rfl
 ·rename_i d b hs hd
  cases h;cases hx
  refine⟨_,?_,.str _⟩;simp only[convert,Sem.run_bind,run_underlying hs,run_underlying hd,Result.andThen_ok]
  cases d<;>rfl
 ·cases h
theorem tJ{t:TypeId}{u v:LV}{x:Value}(h:jl P t u=some v)(hx:VR ρ u x):eh P ρ w v (Instr.makeInterface t x):=by
 unfold jl at h
 split at h
 ·cases h
 ·rename_i d hd hu
  cases h
  refine⟨_,?_,.iface hx⟩;simp only[Instr.makeInterface,Sem.run_bind,run_underlying hu,Result.andThen_ok];rfl
 ·cases h
theorem tG{t:TypeId}{f:Nat}{u v:LV}{x:Value}(h:jj P t u f=some v)(hx:VR ρ u x):eh P ρ w v (Instr.fieldAt t x f):=by
 unfold jj at h
 split at h
 ·rename_i fields n off hu
  split at h
  ·rename_i fd hfd
   split at h
   ·rename_i k hk
    cases hx
    rename_i p hp
    cases hb:k.beq 0 with
    |true=>rw[hb] at h;cases h
    |false=>
     rw[hb] at h
     cases h
     have hk0:k≠0:=fun e=>by subst e;cases hb
     have hfd':fields[f]?=some fd:=by simpa using hfd
     refine⟨.pointer (some ⟨p.blk,p.base+(off+fd.offset),none⟩),?_,.ptr hp⟩;simp[Instr.fieldAt,run_underlying hu,hfd',Instr.sureAddr,fieldPlace,ct hk,hk0,Addr.add_lit,Nat.add_assoc]
   ·cases h
  ·cases h
 ·cases h
theorem xg{t:TypeId}{cs:List LV}{off:Nat}{v:LV}{xs:List Value}(h:vH P t cs off=some v)(hx:VRs ρ cs xs):eh P ρ w v (part t xs.toArray off):=by
 unfold vH at h
 split at h
 ·rename_i ha
  split at h
  ·rename_i k hk
   cases hr:dq cs off k with
   |none=>rw[hr] at h;cases h
   |some out=>
    rw[hr] at h
    cases h
    obtain⟨h1,rfl⟩:=iD hr;refine⟨.agg ((xs.drop off).take k).toArray,?_,.agg ((hx.drop off).take k)⟩;simp[part,pR ha,ct hk]
  ·cases h
 ·rename_i ha
  obtain⟨y,hy,hvr⟩:=hx.get h;refine⟨y,?_,hvr⟩;simp[part,pR ha,hy]
 ·cases h
theorem Aj{t:TypeId}{f:Nat}{u v:LV}{x:Value}(h:pe P t u f=some v)(hx:VR ρ u x):eh P ρ w v (Instr.field t x f):=by
 unfold pe at h
 split at h
 ·rename_i fields cs hu
  split at h
  ·rename_i fd hfd
   cases hx
   rename_i xs hxs
   obtain⟨y,h1,h2⟩:=xg (P:=P) (w:=w) h hxs;have hfd':fields[f]?=some fd:=by simpa using hfd
   refine⟨y,?_,h2⟩;simp[Instr.field,run_underlying hu,hfd',asAgg,h1]
  ·cases h
 ·cases h
theorem tI{t:TypeId}{u i v:LV}{x y:Value}(h:jk P t u i=some v)(hx:VR ρ u x)(hy:VR ρ i y):eh P ρ w v (Instr.indexAt t x y):=by
 unfold jk at h
 split at h
 ·rename_i elem n off len c k i hu
  split at h
  ·rename_i size hsz
   obtain⟨h1,h⟩:=ay h;simp only[Bool.and_eq_true,decide_eq_true_eq] at h1
   have h2:i.toNat<len:=Nat.le_of_ble_eq_true h1.2;have h3:i<(len:Int):=by omega
   cases h;cases hy
   cases hx <;>
   ·rename_i p hp
    refine⟨.pointer (some ⟨p.blk,p.base+(off+i.toNat*size),none⟩),?_,.ptr hp⟩;simp[Instr.indexAt,asIntOf,run_underlying hu,h1.1,h3,ct hsz,Addr.add_lit,Nat.add_assoc]
  ·cases h
 ·rename_i len elem n off k i hu
  split at h
  ·rename_i size hsz
   obtain⟨h1,h⟩:=ay h;simp only[Bool.and_eq_true,decide_eq_true_eq] at h1
   have h2:i.toNat<len:=Nat.le_of_ble_eq_true h1.2;have h3:i<(len:Int):=by omega
   cases h;cases hy
   cases hx
   rename_i p hp
   refine⟨.pointer (some ⟨p.blk,p.base+(off+i.toNat*size),none⟩),?_,.ptr hp⟩;simp[Instr.indexAt,Instr.sureAddr,asIntOf,run_underlying hu,h1.1,h3,ct hsz,Addr.add_lit,Nat.add_assoc]
  ·cases h
 ·cases h
theorem Ak{t:TypeId}{u i v:LV}{x y:Value}(h:pf P t u i=some v)(hx:VR ρ u x)(hy:VR ρ i y):eh P ρ w v (Instr.index t x y):=by
 unfold pf at h
 split at h
 ·rename_i len elem cs k i hu
  split at h
  ·rename_i size hsz
   obtain⟨h1,h⟩:=ay h;simp only[Bool.and_eq_true,decide_eq_true_eq] at h1
   have h2:i.toNat<len:=Nat.le_of_ble_eq_true h1.2;have h3:i<(len:Int):=by omega
   cases hy
   cases hx
   rename_i xs hxs
   obtain⟨y,h4,h5⟩:=xg (P:=P) (w:=w) h hxs;refine⟨y,?_,h5⟩;simp[Instr.index,asIntOf,run_underlying hu,h1.1,h3,ct hsz,h4]
  ·cases h
 ·rename_i b k i hu
  obtain⟨h1,h⟩:=ay h;simp only[decide_eq_true_eq] at h1
  split at h
  ·rename_i c hc
   cases h;cases hy;cases hx
   refine⟨_,?_,.int _ _⟩;have hc':b[i.toNat]?=some c:=by
    have hlt:i.toNat<b.size:=by
     have:=(List.getElem?_eq_some_iff.1 hc).1;rwa [Array.length_toList] at this
    rw[getElem?_pos b i.toNat hlt];have h2:=(List.getElem?_eq_some_iff.1 hc).2;rw[<-h2];rfl
   simp[Instr.index,asIntOf,run_underlying hu,h1,hc']
  ·cases h
 ·cases h
theorem yq{t xT:TypeId}{u v:LV}{ok:Bool}{x:Value}(h:doAssert P u t ok=some v)(hx:VR ρ u x):eh P ρ w v (Instr.typeAssert x xT t ok):=by
 unfold doAssert at h
 split at h
 ·cases h
 ·rename_i d tt vv hd hu
  obtain⟨h1,h⟩:=ay h;have h1:=Nat.eq_of_beq_eq_true h1
  cases h
  cases hx
  rename_i y hy
  subst h1
  cases ok with
  |true=>
   refine⟨.tuple #[y,.bool true],?_,.tuple (.cons hy (.cons (.bool _) .nil))⟩;simp only[Instr.typeAssert,Sem.run_bind,run_underlying hu,Result.andThen_ok]
   cases d<;>first|(exfalso;exact hd _ rfl)|(simp only[if_true];rfl)|(simp;done)
  |false=>
   refine⟨y,?_,hy⟩;simp only[Instr.typeAssert,Sem.run_bind,run_underlying hu,Result.andThen_ok]
   cases d<;>first|(exfalso;exact hd _ rfl)|(simp only[if_true];rfl)|(simp;done)
 ·cases h
theorem wo{u v:LV}{i:Nat}{x:Value}(h:kR u i=some v)(hx:VR ρ u x):eh P ρ w v (Instr.extract x i):=by
 unfold kR at h
 split at h
 ·cases hx
  rename_i xs hxs
  obtain⟨y,hy,hvr⟩:=hxs.get h;refine⟨y,?_,hvr⟩;simp[Instr.extract,hy]
 ·cases h
theorem vw{s s':St}{o:Oper}{a:Act}{q:Operand}{u:LV}{r:R}(ho:o.op=.nilCheck q)(h:il u s=some (r,s'))(hx:VR ρ u (a.eval q)):s'=s/\∃v,r=.val v/\∃y,(execOp a.eval o).run P w=.ok (.value y) w/\VR ρ v y:=by
 have e:execOp a.eval o=execOp a.eval {o with op:=.nilCheck q}:=by cases o;dsimp only at ho;subst ho;rfl
 rw[e];unfold il at h
 simp only[execOp];generalize a.eval q=x at hx ⊢
 split at h
 ·cases h;cases hx;exact⟨rfl,_,rfl,_,rfl,by constructor;assumption⟩
 ·cases h;cases hx<;>exact⟨rfl,_,rfl,_,rfl,by constructor;assumption⟩
 ·cases h;cases hx;exact⟨rfl,_,rfl,_,rfl,by constructor<;>assumption⟩
 ·cases h;cases hx;exact⟨rfl,_,rfl,_,rfl,by constructor;assumption⟩
 ·cases h
theorem CU{t:TypeId}{q1 q2:Operand}{u v:LV}{x y:Value}{b:Bool}(hb:kE P t u v=some b)(hx:VR ρ u x)(hy:VR ρ v y):(Op.equal t x y).run P w=.ok b w/\(∀op,(eqGuard op t q1 q2 x y).run P w=.ok () w)/\(binOp .eql t x y=do pure (.bool (<-Op.equal t x y)))/\(binOp .neq t x y=do pure (.bool (!(<-Op.equal t x y)))):=by
 have key:(∀d,(Op.equalIn (d+1) t x y).run P w=.ok b w)/\(∀op,(eqGuard op t q1 q2 x y).run P w=.ok () w)/\(binOp .eql t x y=do pure (.bool (<-Op.equal t x y)))/\(binOp .neq t x y=do pure (.bool (!(<-Op.equal t x y)))):=by
  unfold kE at hb
  split at hb<;>cases hb<;>rename_i hu<;>cases hx<;>cases hy<;>refine⟨fun d=>?_,fun op=>?_,rfl,rfl⟩
  all_goals first
   |(simp only[Op.equalIn,Sem.run_bind,run_underlying hu,Result.andThen_ok];rfl)
   |(cases op<;>rfl)
   |(cases op<;>first
     |rfl
     |(have hg0:∀d,(Op.eqGuardIn (d+1) t .nilIface .nilIface).run P w=.ok false w:=fun d=>by
        simp only[Op.eqGuardIn,Sem.run_bind,run_underlying hu,Result.andThen_ok];rfl
       have hg:(Op.eqGuardIn Op.maxDepth t .nilIface .nilIface).run P w=.ok false w:=hg0 9999;unfold eqGuard
       cases q1<;>cases q2<;>simp[Sem.run_bind,hg]))
 exact⟨key.1 9999,key.2⟩
theorem Dx{op:BinOp}{t:TypeId}{q1 q2:Operand}{u v z:LV}{x y:Value}(h:rZ P op t u v=some z)(hx:VR ρ u x)(hy:VR ρ v y):eh P ρ w z (do eqGuard op t q1 q2 x y;binOp op t x y):=by
 unfold rZ at h
 split at h
 ·rename_i k a k' b
  cases hx;cases hy
  have hg:(eqGuard op t q1 q2 (.int k a) (.int k' b)).run P w=.ok () w:=by
   cases op<;>simp[eqGuard]
  simp only[eh,Sem.run_bind,hg,Result.andThen_ok]
  cases hsh:tT op with
  |true=>
   rw[hsh] at h
   simp only[cond_true] at h
   unfold A1 at h
   cases hb:decide (b<0) with
   |true=>rw[hb] at h;cases h
   |false=>
    rw[hb] at h
    have hb':¬b<0:=of_decide_eq_false hb;simp only[cond_false] at h
    cases op<;>first|(exact absurd hsh (by decide))|(simp only[Option.some.injEq] at h;subst h;refine⟨_,?_,.int _ _⟩;simp[binOp,Op.shift,hb'];done)
  |false=>
   rw[hsh] at h
   simp only[cond_false] at h
   obtain⟨hk,h2⟩:=ay h;clear h;have hk2:k=k':=by simpa using hk
   clear hk;subst hk2;have h:=h2;clear h2
   cases op<;>simp only[rT,Bz,Option.map_some] at h<;>first
    |(exact absurd hsh (by decide))
    |(cases h;first
     |exact⟨_,by simp[binOp,Op.intArith,Op.intBits,Op.intCmp];rfl,.int _ _⟩
     |exact⟨_,by simp[binOp,Op.intArith,Op.intBits,Op.intCmp],.int _ _⟩
     |exact⟨_,by simp[binOp,Op.intCmp];rfl,.bool _⟩
     |exact⟨_,by simp[binOp,Op.intCmp],.bool _⟩)
    |(cases hb:b==0 with
     |true=>rw[hb] at h;cases h
     |false=>
      rw[hb] at h
      cases h
      have hb':¬b=0:=by simpa using hb
      exact⟨_,by simp[binOp,Op.intDiv,hb'],.int _ _⟩)
 ·rename_i a b
  cases hx;cases hy
  unfold FI at h
  split at h
  ·obtain⟨h1,h⟩:=ay h
   cases h
   have h1:a.size+b.size<1000000:=Nat.le_of_ble_eq_true h1;refine⟨_,?_,.str _⟩;simp[eqGuard,binOp,Op.stringOp];omega
  ·cases h
   exact⟨_,by simp[eqGuard,binOp,Op.stringOp],.bool _⟩
  ·cases h
   exact⟨_,by simp[eqGuard,binOp,Op.stringOp],.bool _⟩
  ·cases h
 ·have main:=fun b (hb:kE P t u v=some b)=>CU (w:=w) (q1:=q1) (q2:=q2) hb hx hy
  split at h
  ·cases hs:kE P t u v with
   |none=>rw[hs] at h;cases h
   |some b=>
    rw[hs] at h
    cases h
    obtain⟨h1,h2,h3,_⟩:=main b hs;exact⟨.bool b,by rw[h3];simp[h1,h2],.bool _⟩
  ·cases hs:kE P t u v with
   |none=>rw[hs] at h;cases h
   |some b=>
    rw[hs] at h
    cases h
    obtain⟨h1,h2,_,h3⟩:=main b hs;exact⟨.bool !b,by rw[h3];simp[h1,h2],.bool _⟩
  ·cases h
end
end Go.Proofs.YtdjjlghlcffflaaGreatDoor.Ev
