/- Own. -/
import Derived.Test.YtfnkomoickanfaaGreatDoorE2
import Derived.Laws.Entries
import Derived.Laws.NewFold
import Derived.Laws.Cells
import Derived.Laws.Build
import Derived.Laws.Cover3
set_option linter.unusedVariables false
set_option linter.unusedSimpArgs false
set_option maxHeartbeats 8000000
set_option maxRecDepth 100000
namespace Go.Proofs.YtfnkomoickanfaaGreatDoor.Ev
open Go.RowKit
theorem an{α:Type}{b:Bool}{x:Option α}{y:α}(h:cond b x none=some y):b=true∧x=some y:=by
 cases b
 ·cases h
 ·exact⟨rfl,h⟩
structure aV(ρ:Ren)(fr:Fr)(a:Act):Prop where
 size:a.tmps.size=fr.nt
 val:∀t,VR ρ (fr.get t) (a.tmps.getD t undef)
 room:fr.nt<1000000000
 dfs:DfR ρ fr.marks a.defers
theorem aV.mono{ρ σ:Ren}{fr:Fr}{a:Act}(h:aV ρ fr a)(hle:ρ.le σ):aV σ fr a:=⟨h.size,fun t=>(h.val t).mono hle,h.room,h.dfs.mono hle⟩
theorem mG{ρ:Ren}:VR ρ .un undef:=.tuple .nil
theorem cl{fr fr':Fr}{dst:Option Tmp}{v:LV}(h:fr.put dst v=some fr'):fr'.marks=fr.marks∧fr'.rnd=fr.rnd:=by
 unfold Fr.put at h
 cases dst with
 |none=>cases h;exact⟨rfl,rfl⟩
 |some d=>obtain⟨_,h⟩:=an h;cases h;exact⟨rfl,rfl⟩
theorem iE{fr fr':Fr}{dst:Option Tmp}{v:LV}(h:fr.put dst v=some fr'):fr'.nt=fr.nt:=by
 unfold Fr.put at h
 cases dst with
 |none=>cases h;rfl
 |some d=>obtain⟨_,h⟩:=an h;cases h;rfl
theorem aV.put{ρ:Ren}{fr fr':Fr}{a:Act}{dst:Option Tmp}{v:LV}{x:Value}(h:aV ρ fr a)(hp:fr.put dst v=some fr')(hv:VR ρ v x):aV ρ fr' (a.put dst x):=by
 unfold Fr.put at hp
 cases dst with
 |none=>cases hp;exact h
 |some d=>
  obtain⟨hd,hp⟩:=an hp
  cases hp
  have hd':Nat.succ d≤fr.nt:=Nat.le_of_ble_eq_true hd
  have hr:=h.room
  refine⟨by simp[Act.put,h.size],fun t=>?_,h.room,h.dfs⟩
  have hg:(Fr.mk (fr.tm.put 40 d (some v)) fr.nt fr.marks fr.rnd).get t=if t=d then v else fr.get t:=by
   unfold Fr.get
   dsimp only
   rw[Tr.dC 40 _ _ _ _ (by omega)]
   split<;>simp
  rw[hg]
  simp only[Act.put,Array.getD_eq_getD_getElem?]
  by_cases e:t=d
  ·subst e
   rw[if_pos rfl,Array.getElem?_setIfInBounds_self_of_lt (by rw[h.size];exact hd')]
   exact hv
  ·rw[if_neg e,Array.getElem?_setIfInBounds_ne (by omega)]
   have:=h.val t
   rwa [Array.getD_eq_getD_getElem?] at this
theorem aH{ρ:Ren}{fr:Fr}{a:Act}(h:aV ρ fr a){x:Operand}{v:LV}(he:fr.eval x=some v):VR ρ v (a.eval x):=by
 cases x with
 |tmp t=>simp only[Fr.eval,Option.some.injEq] at he;subst he;exact h.val t
 |const c=>exact yI he
 |global g=>cases he
 |func f=>simp only[Fr.eval,Option.some.injEq] at he;subst he;exact .func .nil .nil
theorem iY{ρ:Ren}{fr:Fr}{a:Act}(h:aV ρ fr a):∀{xs:List Operand} {vs:List LV},fr.dY xs=some vs→VRs ρ vs (xs.map a.eval)
 | [],vs,he=>by cases he;exact .nil
 |x::xs,vs,he=>by
  simp only[Fr.dY] at he
  split at he
  ·rename_i v us h1 h2
   cases he
   exact .cons (aH h h1) (iY h h2)
  ·cases he
inductive PRs (ρ:Ren):List (Nat×LV)→List (Nat×Value)→Prop where
 |nil:PRs ρ [] []
 |cons {i:Nat} {v:LV} {x:Value} {vs:List (Nat×LV)} {xs:List (Nat×Value)}:VR ρ v x→PRs ρ vs xs→PRs ρ ((i,v)::vs) ((i,x)::xs)
theorem lK{ρ:Ren}{fr:Fr}{a:Act}(h:aV ρ fr a):∀{xs:List (Nat×Operand)} {vs:List (Nat×LV)},fr.parts xs=some vs→PRs ρ vs (xs.map fun p=>(p.1,a.eval p.2))
 | [],vs,he=>by cases he;exact .nil
 |(i,x)::xs,vs,he=>by
  simp only[Fr.parts] at he
  split at he
  ·rename_i v us h1 h2
   cases he
   exact .cons (aH h h1) (lK h h2)
  ·cases he
section
variable {P:Program}
theorem fZ{t:TypeId}{i:TypeInfo}(h:P.info? t=some i)(w:World):(typeInfo t).run P w=.ok i w:=by simp[typeInfo,h]
theorem bN{t:TypeId}{k:Nat}(h:bT P t=some k)(w:World):(sizeOf t).run P w=.ok k w:=by
 unfold bT at h
 cases hi:P.info? t with
 |none=>rw[hi] at h;cases h
 |some i=>rw[hi] at h;cases h;simp[sizeOf,fZ hi]
theorem kq{t:TypeId}{k:Nat}(h:fE P t=some k):∃i,P.info? t=some i∧i.bytes=k:=by
 unfold fE at h
 cases hi:P.info? t with
 |none=>rw[hi] at h;cases h
 |some i=>rw[hi] at h;cases h;exact⟨i,rfl,rfl⟩
theorem mC{t:TypeId}{b:Bool}(h:mr P t=some b)(w:World):(isAgg t).run P w=.ok b w:=by
 unfold mr at h
 split at h<;>cases h<;>rename_i hu<;>simp[isAgg,run_underlying hu]
theorem eK{t:TypeId}{z:LV}(h:zeroAt P t=some z):∃x,(∀w,(zeroValue t).run P w=.ok x w)∧∀ρ,VR ρ z x:=by
 unfold zeroAt at h
 split at h
 ·rename_i i hi
  split at h
  ·rename_i x hx
   exact⟨x,fun w=>by simp[zeroValue,fZ hi,hx],fun ρ=>yI h⟩
  ·cases h
 ·cases h
theorem dL{t e:TypeId}(h:elemAt P t=some e):P.underlying t=some (.slice e):=by
 unfold elemAt at h
 split at h
 ·rename_i hu;cases h;exact hu
 ·cases h
def iu(P:Program)(G:Nat→Prop)(s s':St)(ρ:Ren)(w:World)(v:LV)(sem:Sem Value):Prop:=
 ∃ρ' w' x,sem.run P w=.ok x w'∧Ext G s s' ρ ρ' w w'∧VR ρ' v x
theorem dR{s s':St}{b:Blk}{r:R}(h:s.ou b=some (r,s')):∃n,s.new b=some (n,s')∧r=.val (.ptr n 0):=by
 unfold St.ou at h
 split at h
 ·rename_i n s1 hn
  cases h
  exact⟨n,hn,rfl⟩
 ·cases h
theorem mO{G:Nat→Prop}{s s':St}{ρ:Ren}{w:World}{elem:TypeId}{v:LV}{x:Value}{n:Nat}(hr:aI G ρ s.heap w)(hf:aK ρ s s')(hx:VR ρ v x)(hn:s.new ⟨v.cells,elem,none,none⟩=some (n,s')):
  iu P G s s' ρ w (.ptr n 0) (do pure (.pointer (some (←newVar elem x)))):=by
 have hc:=hx.cells
 have he:=mg hn hr hf x.cells 0 (w':=w.alloc (.cells x.cells elem)) rfl rfl rfl rfl (by have:=hc.length;simp at this;dsimp only;omega) (fun i v hv=>by
  obtain⟨y,hy,hvr⟩:=hc.get hv
  exact⟨y,by simpa using hy,hvr⟩) (fun sz h=>by cases h)
 refine⟨_,_,_,?_,he,.ptr (p:=⟨w.heap.size,0,0⟩) (by simp[Ren.upd])⟩
 simp[newVar,newRow]
theorem wh{G:Nat→Prop}{s s':St}{ρ:Ren}{w:World}{elem:TypeId}{v:LV}(h:fH P elem s=some (.val v,s'))(hr:aI G ρ s.heap w)(hf:aK ρ s s'):
  iu P G s s' ρ w v (Instr.alloc elem true (.tuple #[])):=by
 unfold fH at h
 split at h
 ·rename_i z hz
  obtain⟨n,hn,hv⟩:=dR h
  cases hv
  obtain⟨x,hx,hvx⟩:=eK hz
  obtain⟨ρ',w',y,h1,h2,h3⟩:=mO (P:=P) hr hf (hvx ρ) hn
  refine⟨ρ',w',y,?_,h2,h3⟩
  simp only[Instr.alloc,Sem.run_bind,hx,Result.andThen_ok]
  exact h1
 ·cases h
theorem zS{G:Nat→Prop}{s s':St}{ρ:Ren}{w:World}{elem:TypeId}{v u:LV}{x:Value}(h:wi elem u s=some (.val v,s'))(hx:VR ρ u x)(hr:aI G ρ s.heap w)(hf:aK ρ s s'):
  iu P G s s' ρ w v (Instr.box elem x):=by
 obtain⟨n,hn,hv⟩:=dR h
 cases hv
 exact mO hr hf hx hn
theorem fx{cs out:List LV}{off k:Nat}(h:cC cs off k=some out):off+k≤cs.length∧out=(cs.drop off).take k:=by
 unfold cC at h
 obtain⟨h1,h2⟩:=an h
 cases h2
 exact⟨Nat.le_of_ble_eq_true h1,rfl⟩
theorem eG{cs vs out:List LV}{off:Nat}(h:er cs off vs=some out):off+vs.length≤cs.length∧out=cs.take off++(vs++cs.drop (off+vs.length)):=by
 unfold er at h
 obtain⟨h1,h2⟩:=an h
 cases h2
 exact⟨Nat.le_of_ble_eq_true h1,rfl⟩
theorem j7{cs vs out:List LV}{off:Nat}(h:er cs off vs=some out)(i:Nat):out[i]?=if off≤i∧i<off+vs.length then vs[i-off]? else cs[i]?:=by
 obtain⟨h1,rfl⟩:=eG h
 by_cases h2:i<off
 ·rw[if_neg (by omega),List.getElem?_append_left (by simp;omega)]
  simp[h2]
 ·by_cases h3:i<off+vs.length
  ·rw[if_pos (by omega),List.getElem?_append_right (by simp;omega),List.getElem?_append_left (by simp;omega)]
   simp
   congr 1
   omega
  ·rw[if_neg (by omega),List.getElem?_append_right (by simp;omega),List.getElem?_append_right (by simp;omega)]
   simp
   congr 1
   omega
theorem j8{cs vs out:List LV}{off:Nat}(h:er cs off vs=some out):out.length=cs.length:=by
 obtain⟨h1,rfl⟩:=eG h
 simp
 omega
theorem fk{ρ:Ren}{w:World}{n:Nat}{b:Blk}{p:Pl}{cs:Array Value}(h:eu ρ w n b p cs){off k:Nat}{out:List LV}(hr:cC b.cells off k=some out):
  ∃xs:List Value,(loadCells ⟨p.blk,p.base+off,none⟩ k).run P w=.ok xs.toArray w∧VRs ρ out xs∧xs.length=k:=by
 obtain⟨h1,rfl⟩:=fx hr
 have hf:=h.fit
 refine⟨(cs.toList.drop (p.base+off)).take k,?_,?_,by simp;omega⟩
 ·have hl:((cs.toList.drop (p.base+off)).take k).length=k:=by simp;omega
  have:=run_loadCells_list (P:=P) w ⟨p.blk,p.base+off,none⟩ ((cs.toList.drop (p.base+off)).take k) (fun j v hj=>by
   rw[Addr.add_lit]
   rw[List.getElem?_take] at hj
   split at hj
   ·rw[List.getElem?_drop] at hj
    simp[World.cell?,h.heap]
    simpa using hj
   ·cases hj)
  rwa [hl] at this
 ·refine VRs.lI (by simp;omega) fun i v x hv hx=>?_
  rw[List.getElem?_take] at hv hx
  split at hv
  ·rw[List.getElem?_drop] at hv hx
   obtain⟨y,hy,hvr⟩:=h.val _ v hv
   rename_i hik
   rw[if_pos hik] at hx
   have:cs.toList[p.base+off+i]?=some y:=by simpa [Nat.add_assoc] using hy
   rw[this] at hx
   cases hx
   exact hvr
  ·cases hv
theorem Am{ρ:Ren}{w:World}{n:Nat}{b:Blk}{p:Pl}{cs:Array Value}(h:eu ρ w n b p cs){off:Nat}{v:LV}(hv:b.cells[off]?=some v):
  ∃x,(load ⟨p.blk,p.base+off,none⟩).run P w=.ok x w∧VR ρ v x:=by
 obtain⟨x,hx,hvr⟩:=h.val off v hv
 exact⟨x,by simp[World.cell?,h.heap,hx],hvr⟩
theorem lf{G:Nat→Prop}{s s':St}{ρ:Ren}{w:World}{t:TypeId}{u:LV}{x:Value}{r:R}(h:ey P t u s=some (r,s'))(hx:VR ρ u x)(hw:WF s)(hG:Gok G s')(hr:aI G ρ s.heap w):
  ∃v,r=.val v∧ar s s'∧∃y,(Instr.loadAt t x).run P w=.ok y w∧Ext G s s' ρ ρ w w∧VR ρ v y:=by
 unfold ey at h
 cases hx with
 |ptr hp=>
  rename_i n off p
  dsimp only at h
  split at h
  ·rename_i b s1 hl ha
   obtain⟨hb,rfl,hlp⟩:=look_eq hl
   split at h
   ·rename_i k hk
    split at h
    ·rename_i cs hc
     cases h
     have hGn:=eT hw (by unfold Live;rw[hb];simp) hG
     obtain⟨q,ds,hrep⟩:=(hr.rep n b hGn hb).cells hlp
     have:=hrep.at_;rw[hp] at this;cases this
     obtain⟨xs,h1,h2,_⟩:=fk (P:=P) hrep hc
     refine⟨_,rfl,bG s n,.agg xs.toArray,?_,eS n hr,.agg h2⟩
     simp[Instr.loadAt,Instr.sureAddr,loadVar,mC ha,bN hk,h1]
    ·cases h
   ·cases h
  ·rename_i b s1 hl ha
   obtain⟨hb,rfl,hlp⟩:=look_eq hl
   split at h
   ·rename_i v hv
    cases h
    have hGn:=eT hw (by unfold Live;rw[hb];simp) hG
    obtain⟨q,ds,hrep⟩:=(hr.rep n b hGn hb).cells hlp
    have:=hrep.at_;rw[hp] at this;cases this
    obtain⟨y,h1,h2⟩:=Am (P:=P) hrep hv
    refine⟨_,rfl,bG s n,y,?_,eS n hr,h2⟩
    simp only[Instr.loadAt,Instr.sureAddr,loadVar,Sem.run_bind,Sem.run_pure,Result.andThen_ok,mC ha,Bool.false_eq_true,if_false,Sem.run_ite]
    exact h1
   ·cases h
  ·cases h
 |_=>cases h
theorem eD{G:Nat→Prop}{s s':St}{ρ:Ren}{w:World}{n off:Nat}{vs:List LV}{xs:List Value}{p:Pl}(h:df n off vs s=some s')(hp:ρ n=some p)(hx:VRs ρ vs xs)(hw:WF s)(hG:Gok G s')(hr:aI G ρ s.heap w):
  ar s s'∧∃w',(storeCells ⟨p.blk,p.base+off,none⟩ xs).run P w=.ok () w'∧Ext G s s' ρ ρ w w':=by
 unfold df at h
 split at h
 ·rename_i b hbc
  obtain⟨hb,hlp⟩:=ml hbc
  obtain⟨h1,h⟩:=an h
  split at h
  ·rename_i cs hc
   cases h
   have hl:Live s.heap n:=by unfold Live;rw[hb];simp
   have hlt:=bR hw hl
   have h9:n<1000000000:=Nat.lt_of_lt_of_le hlt hw.lt
   have hGn:=jI hw hl hG
   obtain⟨q,ds,hrep⟩:=(hr.rep n b hGn hb).cells hlp
   have:=hrep.at_;rw[hp] at this;cases this
   have hlen:=hx.length
   obtain⟨hfit,_⟩:=eG hc
   have hf:=hrep.fit
   have hone:∀x∈xs,Value.oneCell' x=true:=by
    intro x hxm
    obtain⟨i,hi⟩:=List.mem_iff_getElem?.1 hxm
    have hil:i<xs.length:=(List.getElem?_eq_some_iff.1 hi).1
    have hv:vs[i]?=some (vs[i]'(by omega)):=List.getElem?_eq_getElem _
    obtain⟨y,hy,hvr⟩:=hx.get hv
    rw[hi] at hy
    cases hy
    have h2:=List.all_eq_true.1 h1 _ (List.getElem_mem (show i<vs.length by omega))
    have h3:=hvr.one
    rw[h2] at h3
    cases x<;>first|rfl|cases h3
   have hst:=run_storeCells_at P p.blk (p.base+off) b.elem xs 0 ds w hrep.heap (by omega) hone
   refine⟨dQ _ h9 hl hlt,_,hst,?_⟩
   have hh:=setRow_heap w p.blk ds (ds.toList.take (p.base+off+0)++xs++ds.toList.drop (p.base+off+0+xs.length)).toArray b.elem (0,0) hrep.heap
   refine BJ (p:=p) (cs:=(ds.toList.take (p.base+off+0)++xs++ds.toList.drop (p.base+off+0+xs.length)).toArray) h9 hlt hl hGn hr ⟨hp,hh,?_,?_,?_⟩ ?_ ?_ rfl rfl rfl
   ·intro i v hi
    dsimp only at hi
    rw[j7 hc] at hi
    split at hi
    ·rename_i hio
     obtain⟨y,hy,hvr⟩:=hx.get hi
     refine⟨y,?_,hvr⟩
     rw[List.getElem?_toArray,List.append_assoc,List.getElem?_append_right (by simp;omega),List.getElem?_append_left (by simp;omega)]
     rw[←hy]
     congr 1
     simp
     omega
    ·rename_i hio
     obtain⟨y,hy,hvr⟩:=hrep.val i v hi
     have hil:i<b.cells.length:=(List.getElem?_eq_some_iff.1 hi).1
     refine⟨y,?_,hvr⟩
     have hy':ds.toList[p.base+i]?=some y:=by simpa using hy
     rw[List.getElem?_toArray,List.append_assoc]
     by_cases h5:i<off
     ·rw[List.getElem?_append_left (by simp;omega),List.getElem?_take,if_pos (by omega)]
      exact hy'
     ·rw[List.getElem?_append_right (by simp;omega),List.getElem?_append_right (by simp;omega),List.getElem?_drop,←hy']
      congr 1
      simp
      omega
   ·dsimp only
    rw[j8 hc]
    simp
    omega
   ·intro sz hz
    have:=hrep.more sz hz
    rw[←this]
    simp
    omega
   ·intro k hk
    simp only[World.setRow,Array.getElem?_modify]
    rw[if_neg (by omega)]
   ·simp[World.setRow]
  ·cases h
 ·cases h
theorem wC{G:Nat→Prop}{s s':St}{ρ:Ren}{w:World}{t:TypeId}{u v:LV}{x y:Value}{r:R}(h:jE P t u v s=some (r,s'))(hx:VR ρ u x)(hy:VR ρ v y)(hw:WF s)(hG:Gok G s')(hr:aI G ρ s.heap w):
  r=.skip∧ar s s'∧∃w',(Instr.storeAt t x y).run P w=.ok () w'∧Ext G s s' ρ ρ w w':=by
 unfold jE at h
 cases hx with
 |ptr hp=>
  rename_i n off p
  split at h
  ·rename_i k e1 hk
   cases e1
   obtain⟨h1,h⟩:=an h
   split at h
   ·rename_i s1 hs
    cases h
    have hc:=hy.cells
    obtain⟨hm,w',h2,h3⟩:=eD (P:=P) hs hp hc hw hG hr
    refine⟨rfl,hm,w',?_,h3⟩
    have hlen:y.cells.size=k:=by
     have e1:=hc.length
     have e2:=Nat.eq_of_beq_eq_true h1
     simp at e1
     omega
    simp[Instr.storeAt,Instr.sureAddr,storeVar,bN hk,hlen,h2]
   ·cases h
  ·cases h
 |_=>split at h<;>first|cases h|contradiction
end
section
variable {P:Program} {ρ:Ren} {w:World}
theorem nf(place:Nat→Option (Nat×Nat)):∀{parts:List (Nat×LV)} {xs:List (Nat×Value)} {cells out:List LV} {cs:Array Value},PRs ρ parts xs→VRs ρ cells cs.toList→oc place cells parts=some out→∃ds:Array Value,Instr.fill place cs xs=some ds∧VRs ρ out ds.toList
 |_,_,cells,out,cs,.nil,hc,h=>by cases h;exact⟨cs,rfl,hc⟩
 |_,_,cells,out,cs,.cons (i:=i) (v:=v) (x:=x) (vs:=vs) (xs:=xs) hv hvs,hc,h=>by
  simp only[oc] at h
  split at h
  ·cases h
  ·rename_i off size hp
   obtain⟨h1,h⟩:=an h
   split at h
   ·rename_i cs1 hw
    have hx:=hv.cells
    have hxl:=hx.length
    have hcl:=hc.length
    have hsz:=Nat.eq_of_beq_eq_true h1
    obtain⟨hfit,_⟩:=eG hw
    have hfold:∃ds:Array Value,(x.cells.zipIdx.foldl (fun cs (c,j)=>cs.setIfInBounds (off+j) c) cs)=ds∧ds.size=cs.size∧∀j,ds[j]?=if off≤j∧j<off+x.cells.size then x.cells[j-off]? else cs[j]?:=by
     refine⟨_,rfl,?_⟩
     have gen:∀(l:List Value) (k:Nat) (ds:Array Value),k+l.length+off≤ds.size→((l.zipIdx k).foldl (fun cs (c,j)=>cs.setIfInBounds (off+j) c) ds).size=ds.size∧∀j,((l.zipIdx k).foldl (fun cs (c,j)=>cs.setIfInBounds (off+j) c) ds)[j]?=if off+k≤j∧j<off+k+l.length then l[j-off-k]? else ds[j]?:=by
      intro l
      induction l with
      |nil=>intro k ds _;simp;intro j h1 h2;omega
      |cons c l ih=>
       intro k ds hk
       simp only[List.length_cons] at hk
       simp only[List.zipIdx_cons,List.foldl_cons]
       obtain⟨e1,e2⟩:=ih (k+1) (ds.setIfInBounds (off+k) c) (by simp;omega)
       refine⟨by rw[e1];simp,fun j=>?_⟩
       rw[e2]
       by_cases hj:j=off+k
       ·subst hj
        rw[if_neg (by omega),if_pos (by simp)]
        rw[Array.getElem?_setIfInBounds_self_of_lt (by omega)]
        simp
       ·by_cases hj2:off+(k+1)≤j∧j<off+(k+1)+l.length
        ·rw[if_pos hj2,if_pos (by simp;omega)]
         have:j-off-k=(j-off-(k+1))+1:=by omega
         rw[this]
         simp
        ·rw[if_neg hj2,if_neg (by simp;omega),Array.getElem?_setIfInBounds_ne (by omega)]
     have:=gen x.cells.toList 0 cs (by simp at hxl hcl ⊢;omega)
     have e:x.cells.zipIdx=(x.cells.toList.zipIdx 0).toArray:=by apply Array.ext';simp[Array.toList_zipIdx]
     rw[e,List.foldl_toArray']
     ·refine⟨this.1,fun j=>?_⟩
      rw[this.2 j]
      simp
     ·simp
    obtain⟨ds,hds,hdsz,hdget⟩:=hfold
    have hcs1:VRs ρ cs1 ds.toList:=by
     refine VRs.lI (by rw[j8 hw];simp at hcl ⊢;omega) fun j u y hu hy=>?_
     rw[j7 hw] at hu
     have hy':ds[j]?=some y:=by simpa using hy
     rw[hdget] at hy'
     simp at hxl
     by_cases hj:off≤j∧j<off+v.cells.length
     ·rw[if_pos hj] at hu
      rw[if_pos (by omega)] at hy'
      obtain⟨z,hz,hvr⟩:=hx.get hu
      have:x.cells[j-off]?=some z:=by simpa using hz
      rw[this] at hy'
      cases hy'
      exact hvr
     ·rw[if_neg hj] at hu
      rw[if_neg (by omega)] at hy'
      obtain⟨z,hz,hvr⟩:=hc.get hu
      have:cs[j]?=some z:=by simpa using hz
      rw[this] at hy'
      cases hy'
      exact hvr
    obtain⟨es,he,hvr⟩:=nf place hvs hcs1 h
    refine⟨es,?_,hvr⟩
    simp only[Instr.fill,hp]
    rw[if_neg (by simp at hxl hcl ⊢;omega),hds]
    exact he
   ·cases h
theorem mP:∀{fs:List Field} {pl:List (Nat×Nat)},placesOf P fs=some pl→((fs.mapM fun f=>Prod.mk f.offset <$> sizeOf f.type):Sem (List (Nat×Nat))).run P w=.ok pl w
 | [],pl,h=>by cases h;simp
 |f::fs,pl,h=>by
  simp only[placesOf] at h
  split at h
  ·rename_i k r hk hr
   cases h
   simp[List.mapM_cons,bN hk,mP hr]
  ·cases h
theorem wj{s s':St}{t:TypeId}{ps:List (Nat×LV)}{xs:Array (Nat×Value)}{r:R}(h:jB P t ps s=some (r,s'))(hp:PRs ρ ps xs.toList):
  s'=s∧∃v,r=.val v∧∃x,(Instr.build t xs).run P w=.ok x w∧VR ρ v x:=by
 unfold jB at h
 split at h
 ·rename_i z fields hz hu
  split at h
  ·rename_i pl hpl
   split at h
   ·rename_i cs hf
    cases h
    obtain⟨zx,hzx,hzv⟩:=eK hz
    obtain⟨ds,hd,hvr⟩:=nf (fun i=>pl[i]?) hp (hzv ρ).cells hf
    refine⟨rfl,_,rfl,.agg ds,?_,by have:=VR.agg hvr;simpa using this⟩
    have hmap:((fields.mapM fun f=>do pure (f.offset,←sizeOf f.type)):Sem (Array (Nat×Nat))).run P w=.ok pl.toArray w:=by
     rw[Array.mapM_eq_mapM_toList]
     simp[mP hpl]
    simp only[Instr.build,Sem.run_bind,hzx,Result.andThen_ok,run_underlying hu,hmap]
    have hd':Instr.fill (fun i=>pl.toArray[i]?) zx.cells xs.toList=some ds:=by
     rw[←hd]
     congr 1
     funext i
     simp
    rw[hd']
    simp
   ·cases h
  ·cases h
 ·cases h
end
end Go.Proofs.YtfnkomoickanfaaGreatDoor.Ev
