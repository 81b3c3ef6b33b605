/- Own. -/
import Derived.Test.YtdjjlghlcffflaaGreatDoorWd
set_option linter.unusedVariables false
set_option linter.unusedSimpArgs false
set_option maxHeartbeats 8000000
set_option maxRecDepth 100000
namespace Go.Proofs.YtdjjlghlcffflaaGreatDoor
open Go.RowKit
structure Ent where
 s:Bool
 p:Option Addr
 n:Nat
 c:Nat
def ez:Ent:=⟨false,none,0,0⟩
def ge(es:List Ent)(i:Nat):Ent:=(es[i]?).getD ez
theorem e_(es:List Ent)(n i:Nat)(h:i<n):ge (es.take n) i=ge es i:=by simp[ge,List.getElem?_take,h]
theorem cR(es:List Ent)(i:Nat)(e:Ent)(h:i<es.length):ge (es.set i e) i=e:=by simp[ge,h]
theorem cG(es:List Ent)(i j:Nat)(e:Ent)(h:j≠i):ge (es.set i e) j=ge es j:=by simp[ge,List.getElem?_set,Ne.symm h]
theorem cy(a b:List Ent)(i:Nat)(h:i<a.length):ge (a++b) i=ge a i:=by simp[ge,List.getElem?_append,h]
theorem fH(a:List Ent)(e:Ent):ge (a++[e]) a.length=e:=by simp[ge]
def PL(w:World)(p:Option Addr)(es:List Ent):Prop:=
 0<es.length->∃b o,p=some ⟨b,o,none⟩/\∀j,j<es.length->w.cell? ⟨b,o+j*2,none⟩=some (.bool (ge es j).s)/\w.cell? ⟨b,o+j*2+1,none⟩=some (.slice (ge es j).p (ge es j).n (ge es j).c)
def ca2(es:List Ent):Array Value:=(es.flatMap fun e=>[.bool e.s,.slice e.p e.n e.c]).toArray
def bA(w:World)(g:Nat)(t:TypeId)(es:List Ent):Prop:=w.heap[g]?=some (.cells (ca2 es) t (0,0))
theorem gn(es:List Ent):∀j,j<es.length->(es.flatMap fun e=>[Value.bool e.s,.slice e.p e.n e.c])[j*2]?=some (.bool (ge es j).s)/\(es.flatMap fun e=>[Value.bool e.s,.slice e.p e.n e.c])[j*2+1]?=some (.slice (ge es j).p (ge es j).n (ge es j).c):=by
 induction es with
 |nil=>intro j hj;simp at hj
 |cons e r ih=>
  intro j hj
  cases j with
  |zero=>exact⟨rfl,rfl⟩
  |succ j=>
   have h:=ih j (by simpa using hj)
   have e1:(j+1)*2=j*2+1+1:=by omega
   have e2:(j+1)*2+1=j*2+1+1+1:=by omega
   have e3:ge (e::r) (j+1)=ge r j:=by simp[ge]
   rw[e1,e3];simp only[List.flatMap_cons,List.cons_append,List.nil_append,List.getElem?_cons_succ];exact h
theorem fU(es:List Ent):(es.flatMap fun e=>[Value.bool e.s,.slice e.p e.n e.c]).length=es.length*2:=by
 induction es with
 |nil=>rfl
 |cons e r ih=>simp only[List.flatMap_cons,List.length_append,ih,List.length_cons,List.length_nil];omega
theorem wF(es:List Ent):∀j e,j<es.length->((es.flatMap fun e=>[Value.bool e.s,.slice e.p e.n e.c]).set (j*2) (.bool e.s)).set (j*2+1) (.slice e.p e.n e.c)=(es.set j e).flatMap fun e=>[Value.bool e.s,.slice e.p e.n e.c]:=by
 induction es with
 |nil=>intro j e hj;simp at hj
 |cons a r ih=>
  intro j e hj
  cases j with
  |zero=>rfl
  |succ j=>
   have h:=ih j e (by simpa using hj)
   have e1:(j+1)*2=j*2+1+1:=by omega
   rw[e1];simp only[List.flatMap_cons,List.cons_append,List.nil_append,List.set_cons_succ];rw[h]
theorem rK(es:List Ent):(ca2 es).size=es.length*2:=by rw[ca2,List.size_toArray,fU]
section
variable {w w':World} {g:Nat} {t:TypeId} {es:List Ent} {p:Option Addr}
theorem bA.lt(h:bA w g t es):g<w.heap.size:=(Array.getElem?_eq_some_iff.1 h).1
theorem bA.cell(h:bA w g t es)(j:Nat)(hj:j<es.length):w.cell? ⟨g,j*2,none⟩=some (.bool (ge es j).s)/\w.cell? ⟨g,j*2+1,none⟩=some (.slice (ge es j).p (ge es j).n (ge es j).c):=by
 obtain⟨h1,h2⟩:=gn es j hj;rw[cell_of_row w g (j*2) _ t (0,0) h,cell_of_row w g (j*2+1) _ t (0,0) h];simp only[ca2,List.getElem?_toArray];exact⟨h1,h2⟩
theorem bA.frozen(h:bA w g t es)(j:Nat):w.frozen? ⟨g,j,none⟩=false:=frozen_of_row w g j _ t h
theorem bA.set(h:bA w g t es)(j:Nat)(e:Ent)(hj:j<es.length):bA ((w.setCell ⟨g,j*2,none⟩ (.bool e.s)).setCell ⟨g,j*2+1,none⟩ (.slice e.p e.n e.c)) g t (es.set j e):=by
 unfold bA;have h1:=heap_setCell_same w g (j*2) _ t (.bool e.s) h;rw[heap_setCell_same _ g (j*2+1) _ t (.slice e.p e.n e.c) h1];simp only[ca2,List.setIfInBounds_toArray];rw[wF es j e hj]
theorem bA.below{B:Nat}(h:bA w g t es)(hb:Below B w w')(hg:g<B):bA w' g t es:=(hb.block g hg).trans h
theorem bA.alloc(h:bA w g t es)(o:Obj):bA (w.alloc o) g t es:=(Below.heap_alloc w o g h.lt).trans h
theorem bA.new(w:World)(t:TypeId)(es:List Ent):bA (w.alloc (.cells (ca2 es) t)) w.heap.size t es:=heap_alloc_new w _
theorem bA.ah(h:bA w g t es)(a:Addr)(v:Value)(hne:g≠a.block):bA (w.setCell a v) g t es:=(heap_setCell_other w a g v hne).trans h
theorem bA.pl(h:bA w g t es):PL w (some ⟨g,0,none⟩) es:=fun _=>⟨g,0,rfl,fun j hj=>by
 simp only[Nat.zero_add];exact h.cell j hj⟩
theorem PL.nil:PL w p []:=fun h=>by simp at h
theorem PL.lt(h:PL w p es)(hx:0<es.length):∃b o,p=some ⟨b,o,none⟩/\b<w.heap.size:=by
 obtain⟨b,o,hp,hc⟩:=h hx;exact⟨b,o,hp,block_lt_of_cell (hc 0 hx).1⟩
theorem PL.same(h:PL w p es)(hs:∀a,p=some a->a.block<w.heap.size->w'.heap[a.block]?=w.heap[a.block]?):PL w' p es:=fun hx=>by
 obtain⟨b,o,hp,hc⟩:=h hx;refine⟨b,o,hp,fun j hj=>?_⟩
 have hlt:b<w.heap.size:=block_lt_of_cell (hc 0 hx).1;have hb:=hs ⟨b,o,none⟩ hp hlt;exact⟨(World.cell?_of_block (a:=⟨b,o+j*2,none⟩) hb).trans (hc j hj).1,(World.cell?_of_block (a:=⟨b,o+j*2+1,none⟩) hb).trans (hc j hj).2⟩
theorem PL.below(h:PL w p es)(hb:Below w.heap.size w w'):PL w' p es:=h.same fun a _ hlt=>hb.block a.block hlt
theorem PL.off(h:PL w p es)(hg:w.heap.size<=g)(hx:0<es.length):Off g p:=fun a ha e=>by
 obtain⟨b,o,hp,hlt⟩:=h.lt hx;rw[hp] at ha
 cases ha
 simp at e;omega
theorem PL.drew(h:PL w p es):PL w.drew p es:=h
theorem PL.ah(h:PL w p es)(a:Addr)(v:Value)(hne:Off a.block p):PL (w.setCell a v) p es:=h.same fun b hb _=>heap_setCell_other w a b.block v (hne b hb)
theorem PL.take(h:PL w p es)(n:Nat):PL w p (es.take n):=fun hx=>by
 obtain⟨b,o,hp,hc⟩:=h (by simp at hx;omega)
 refine⟨b,o,hp,fun j hj=>?_⟩
 have:j<n/\j<es.length:=by simp at hj;omega
 rw[e_ _ _ _ this.1];exact hc j this.2
end
def EV(w:World)(K:Nat)(z:Int)(e:Ent):Prop:=∃xs,AI w e.p e.n e.c xs/\aq e.s xs=z/\e.n<=K
structure PA(w:World)(K:Nat)(p:Option Addr)(n nc:Nat)(es:List Ent)(zs:List Int):Prop where
 el:es.length=n
 zl:zs.length=n
 cap:n<=nc
 bnd:nc<=maxLen
 pn:p=none->nc=0
 pl:PL w p es
 ev:∀j,j<n->EV w K (gx zs j) (ge es j)
section
variable {w w':World} {K:Nat} {z:Int} {e:Ent} {p:Option Addr} {n nc:Nat} {es:List Ent} {zs:List Int}
theorem EV.below(h:EV w K z e)(hb:Below w.heap.size w w'):EV w' K z e:=by
 obtain⟨xs,h1,h2⟩:=h;exact⟨xs,h1.below hb,h2⟩
theorem EV.drew(h:EV w K z e):EV w.drew K z e:=by
 obtain⟨xs,h1,h2⟩:=h;exact⟨xs,h1.drew,h2⟩
theorem PA.below(h:PA w K p n nc es zs)(hb:Below w.heap.size w w'):PA w' K p n nc es zs:=⟨h.el,h.zl,h.cap,h.bnd,h.pn,h.pl.below hb,fun j hj=>(h.ev j hj).below hb⟩
theorem PA.drew(h:PA w K p n nc es zs):PA w.drew K p n nc es zs:=⟨h.el,h.zl,h.cap,h.bnd,h.pn,h.pl.drew,fun j hj=>(h.ev j hj).drew⟩
theorem PA.take(h:PA w K p n nc es zs)(m:Nat)(hm:m<=n):PA w K p m nc (es.take m) (zs.take m):=
 ⟨by have:=h.el;simp;omega,by have:=h.zl;simp;omega,by have:=h.cap;omega,h.bnd,h.pn,h.pl.take m,fun j hj=>by rw[bm _ _ _ hj,e_ _ _ _ hj];exact h.ev j (by omega)⟩
theorem PA.clip(h:PA w K p n nc es zs):(p=none->n=0)->PA w K p n n es zs:=fun hp=>⟨h.el,h.zl,Jr _,by have:=h.cap;have:=h.bnd;omega,hp,h.pl,h.ev⟩
end
structure o5(E:World->Int->Ent->Prop):Prop where
 grown:∀{w w':World} {z:Int} {e:Ent} {row:Option Nat},E w z e->w.grownBy w' row->(0<e.n->∀a,e.p=some a->some a.block≠row)->E w' z e
 lt:∀{w:World} {z:Int} {e:Ent},E w z e->0<e.n->∀a,e.p=some a->a.block<w.heap.size
variable {w w':World} {z:Int} {e:Ent}
theorem o5.below{E:World->Int->Ent->Prop}(L:o5 E)(h:E w z e)(hb:Below w.heap.size w w'):E w' z e:=L.grown h (c7 hb none) (fun _ _ _ e=>by cases e)
variable {p:Option Addr} {xs:List Int}
theorem EE{k:IntKind}{row:Option Nat}(h:Rd w p k xs)(hg:w.grownBy w' row)(hne:0<xs.length->∀a,p=some a->some a.block≠row):Rd w' p k xs:=fun hx=>h.kept hg (hne hx) hx
theorem Jl{k:IntKind}(h:Rd w p k xs)(hx:0<xs.length):∀a,p=some a->a.block<w.heap.size:=fun a ha=>by
 obtain⟨b,off,hp,hlt⟩:=h.lt hx;rw[hp] at ha
 cases ha
 exact hlt
theorem gA(K:Nat):o5 (fun w z e=>EV w K z e):=⟨fun h hg hne=>by
  obtain⟨xs,h1,h2⟩:=h;exact⟨xs,⟨h1.len,h1.cap,h1.bnd,h1.sml,EE h1.rd hg (by rw[h1.len];exact hne),h1.u⟩,h2⟩,fun h hn=>by
  obtain⟨xs,h1,h2⟩:=h;exact Jl h1.rd (by rw[h1.len];exact hn)⟩
def fl(es:List Ent):List Value:=es.flatMap fun e=>[.bool e.s,.slice e.p e.n e.c]
theorem y_(es:List Ent)(e:Ent):fl (es++[e])=fl es++[.bool e.s,.slice e.p e.n e.c]:=by simp[fl]
structure LG(base:Nat)(t:TypeId)(E:World->Int->Ent->Prop)(w:World)(v:Value)(es:List Ent)(zs:List Int):Prop where
 own:w.ownsRow base t 2 v es.length (fl es)
 zl:zs.length=es.length
 ev:∀j,j<es.length->E w (gx zs j) (ge es j)
 off:∀j,j<es.length->0<(ge es j).n->∀a,(ge es j).p=some a->some a.block≠v.ownBlock
theorem LG.nil(base:Nat)(t:TypeId)(E:World->Int->Ent->Prop)(w:World):LG base t E w (.slice none 0 0) [] []:=⟨World.ownsRow_nil _ _ _ _,rfl,fun j hj=>by simp at hj,fun j hj=>by simp at hj⟩
variable {base n:Nat} {t:TypeId} {v:Value}
theorem cD{sz:Nat}{xs:List Value}(h:w.ownsRow base t sz v n xs)(hb:Below w.heap.size w w'):w'.ownsRow base t sz v n xs:=
 h.kept (c7 hb none) (Classical.em _)
variable {wr w1 w3:World} {es:List Ent} {zs:List Int} {g cap k:Nat}
theorem LG.app{E:World->Int->Ent->Prop}(L:o5 E){o:Obj}(hk:es.length=k)(h:LG base t E wr v es zs)(hb1:Below wr.heap.size wr w1)(hE:E w1 z e)(hF:0<e.n->∀a,e.p=some a->a.block<base\/wr.heap.size<=a.block)
  (hown:w3.ownsRow base t 2 (.slice (some ⟨g,0,none⟩) (k+1) cap) (k+1) (fl es++[.bool e.s,.slice e.p e.n e.c])) (hgrow:(w1.alloc o).grownBy w3 v.ownBlock) (hat:v.ownBlock=some g\/g=(w1.alloc o).heap.size):
  LG base t E w3 (.slice (some ⟨g,0,none⟩) (k+1) cap) (es++[e]) (zs++[z]):=by
 subst hk;have hal:Below w1.heap.size w1 (w1.alloc o):=(Jt _ _).alloc (Jr _) o;have hs1:=hb1.size;have hs2:=hal.size;have old:∀j,j<es.length->E (w1.alloc o) (gx zs j) (ge es j):=fun j hj=>L.below (L.below (h.ev j hj) hb1) hal
 have new:E (w1.alloc o) z e:=L.below hE hal;have noff:0<e.n->∀a,e.p=some a->some a.block≠v.ownBlock:=fun hn a ha hq=>by
  have h1:=(h.own.lt a.block hq.symm);have h2:=hF hn a ha;omega
 refine⟨by rw[List.length_append,y_];exact hown,by simp[h.zl],fun j hj=>?_,fun j hj hn a ha hq=>?_⟩
 ·rcases Ju j es.length with hlt|hge
  ·rw[cy _ _ _ hlt,cz _ _ _ (by rw[h.zl];exact hlt)]
   exact L.grown (old j hlt) hgrow (h.off j hlt)
  ·have:j=es.length:=by simp at hj;omega
   subst this;have e1:gx (zs++[z]) es.length=z:=by rw[<-h.zl,cf _ _ _ (Jr _),Nat.sub_self];rfl
   rw[fH,e1];exact L.grown new hgrow noff
 ·have hq':a.block=g:=Option.some.inj hq
  rcases Ju j es.length with hlt|hge
  ·rw[cy _ _ _ hlt] at hn ha
   rcases hat with h1|h1
   ·exact h.off j hlt hn a ha (by rw[h1,hq'])
   ·have:=L.lt (old j hlt) hn a ha
    omega
  ·have:j=es.length:=by simp at hj;omega
   subst this;rw[fH] at hn ha
   rcases hat with h1|h1
   ·exact noff hn a ha (by rw[h1,hq'])
   ·have:=L.lt new hn a ha
    omega
variable {B:Nat}
theorem sE{xs:List Value}(h:w.ownsRow B t 2 v n xs):∃q cap,v=.slice q n cap/\n<=cap/\cap<=maxLen/\aJ B q/\(q=none->cap=0):=by
 rcases h.2 with ⟨h1,h2⟩|⟨g,cap,cur,h1,h2,h3,h4,h5,_⟩
 ·exact⟨none,0,by rw[h1,h2],by omega,Jz _,nofun,fun _=>rfl⟩
 ·exact⟨_,cap,h1,h4,h5,fun a ha=>(by cases ha;exact h2),nofun⟩
variable {q:Option Addr}
theorem xe(h:w.ownsRow B t 2 (.slice q es.length cap) es.length (fl es)):PL w q es:=fun hx=>by
 obtain⟨g,cap',h1,h2,_⟩:=h.form hx
 cases h1
 refine⟨g,0,rfl,fun j hj=>?_⟩
 obtain⟨f0,f1⟩:=gn es j hj;have e0:=h.cells (g:=g) rfl (j*2) _ f0;have e1:=h.cells (g:=g) rfl (j*2+1) _ f1;rw[Addr.add_mid] at e0 e1
 exact⟨e0,e1⟩
theorem LG.pl{E:World->Int->Ent->Prop}(h:LG base t E w v es zs):∃q cap,v=.slice q es.length cap/\es.length<=cap/\cap<=maxLen/\PL w q es/\aJ base q/\(q=none->cap=0):=by
 obtain⟨q,cap,h1,h2,h3,h4,h5⟩:=sE h.own;have ho:=h.own;rw[h1] at ho
 exact⟨q,cap,h1,h2,h3,xe ho,h4,h5⟩
theorem eU(xs:List Int)(k:Nat)(h:k<xs.length):xs.take (k+1)=xs.take k++[gx xs k]:=by
 rw[bZ xs k h,List.take_succ_eq_append_getElem h]
variable {s:Bool}
theorem wS{E:World->Int->Ent->Prop}(L:o5 E){c:Nat}{o:Obj}(hk:es.length=k)(h:LG base t E wr v es zs)(hb1:Below wr.heap.size wr w1)(hE:E w1 z ⟨s,p,n,c⟩)(hF:aJ wr.heap.size p)
  (hown:w3.ownsRow base t 2 (.slice (some ⟨g,0,none⟩) (k+1) cap) (k+1) (fl es++[.bool s,.slice p n c])) (hgrow:(w1.alloc o).grownBy w3 v.ownBlock) (hat:v.ownBlock=some g\/g=(w1.alloc o).heap.size):
  LG base t E w3 (.slice (some ⟨g,0,none⟩) (k+1) cap) (es++[⟨s,p,n,c⟩]) (zs++[z]):=
 LG.app L hk h hb1 hE (fun _ a ha=>.inr (hF a ha)) hown hgrow hat
structure Hdr where
 p:Option Addr
 n:Nat
 c:Nat
instance:Inhabited Hdr:=⟨⟨none,0,0⟩⟩
def Hdr.val(h:Hdr):Value:=.slice h.p h.n h.c
def dY:Value->Hdr
 | .slice p n c=>⟨p,n,c⟩
 |_=>default
def gh(hs:List Hdr)(j:Nat):Hdr:=hs.getD j default
def HL(w:World)(p:Option Addr)(hs:List Hdr):Prop:=0<hs.length->∃b o,p=some ⟨b,o,none⟩/\∀j,j<hs.length->w.cell? ⟨b,o+j,none⟩=some (gh hs j).val
variable {hs:List Hdr}
theorem HL.below(h:HL w p hs)(hb:Below w.heap.size w w'):HL w' p hs:=fun hp=>by
 obtain⟨b,o,e,hc⟩:=h hp;refine⟨b,o,e,fun j hj=>?_⟩
 have h1:=hc j hj;rw[hb.cell (by
  rcases Ju b w.heap.size with h2|h2
  ·exact h2
  ·simp[World.cell?,Array.getElem?_eq_none h2] at h1)]
 exact h1
theorem tR(a b:List Hdr)(i:Nat)(h:i<a.length):gh (a++b) i=gh a i:=by simp[gh,List.getElem?_append,h]
theorem Gf(a:List Hdr)(e:Hdr):gh (a++[e]) a.length=e:=by simp[gh]
def gt{α:Type}[Inhabited α](ts:List α)(j:Nat):α:=ts.getD j default
theorem tS{α:Type}[Inhabited α](a b:List α)(i:Nat)(h:i<a.length):gt (a++b) i=gt a i:=by simp[gt,List.getElem?_append,h]
theorem Gh{α:Type}[Inhabited α](a:List α)(e:α):gt (a++[e]) a.length=e:=by simp[gt]
structure js{α:Type}(E:World->Nat->Nat->α->Hdr->Prop):Prop where
 grown:∀{w w':World} {B T:Nat} {z:α} {h:Hdr} {row:Option Nat},E w B T z h->T<=w.heap.size->w.grownBy w' row->(∀r,row=some r->r<B\/T<=r)->E w' B T z h
 wide:∀{w:World} {B T B' T':Nat} {z:α} {h:Hdr},E w B T z h->B'<=B->T<=T'->E w B' T' z h
variable {T:Nat} {h:Hdr}
theorem js.below{α:Type}{E:World->Nat->Nat->α->Hdr->Prop}(L:js E){z:α}(he:E w B T z h)(hT:T<=w.heap.size)(hb:Below w.heap.size w w'):E w' B T z h:=
 L.grown he hT (c7 hb none) nofun
structure ew{α:Type}[Inhabited α](D:Nat)(E:World->Nat->Nat->α->Hdr->Prop)(w:World)(B T:Nat)(ts:List α)(h:Hdr)(hs:List Hdr):Prop where
 el:hs.length=h.n
 tl:ts.length=h.n
 cap:h.n<=h.c
 bnd:h.c<=maxLen
 pn:h.p=none->h.c=0
 few:h.n<=D
 hl:HL w h.p hs
 at_:∀a,h.p=some a->0<h.n->B<=a.block/\a.block<T
 ev:∀j,j<h.n->E w B T (gt ts j) (gh hs j)
def HR{α:Type}[Inhabited α](D:Nat)(E:World->Nat->Nat->α->Hdr->Prop)(w:World)(B T:Nat)(ts:List α)(h:Hdr):Prop:=∃hs,ew D E w B T ts h hs
theorem HL.same(h:HL w p hs)(hk:∀a,p=some a->0<hs.length->a.block<w.heap.size->w'.heap[a.block]?=w.heap[a.block]?):HL w' p hs:=fun hp=>by
 obtain⟨b,o,e,hc⟩:=h hp;have hlt:b<w.heap.size:=block_lt_of_cell (hc 0 hp);exact⟨b,o,e,fun j hj=>(World.cell?_of_block (a:=⟨b,o+j,none⟩) (hk ⟨b,o,none⟩ e hp hlt)).trans (hc j hj)⟩
variable {D:Nat}
theorem cT{α:Type}[Inhabited α]{E:World->Nat->Nat->α->Hdr->Prop}(L:js E):js (HR D E):=⟨fun {w w' B T z h row} he hT hg hr=>by
  obtain⟨hs,k⟩:=he;refine⟨hs,k.el,k.tl,k.cap,k.bnd,k.pn,k.few,k.hl.same fun a ha hn hlt=>hg.block a.block hlt fun e=>?_,k.at_,fun j hj=>L.grown (k.ev j hj) hT hg hr⟩
  have h1:=k.at_ a ha (by rw[<-k.el];exact hn)
  have h2:=hr a.block e.symm;omega,fun {w B T B' T' z h} he hB hT=>by
  obtain⟨hs,k⟩:=he;exact⟨hs,k.el,k.tl,k.cap,k.bnd,k.pn,k.few,k.hl,fun a ha hn=>by have:=k.at_ a ha hn;omega,fun j hj=>L.wide (k.ev j hj) hB hT⟩⟩
structure LH{α:Type}[Inhabited α](base:Nat)(t:TypeId)(E:World->Nat->Nat->α->Hdr->Prop)(w:World)(v:Value)(hs:List Hdr)(ts:List α):Prop where
 own:w.ownsRow base t 1 v hs.length (hs.map Hdr.val)
 tl:ts.length=hs.length
 ev:∀j,j<hs.length->∃B T,base<=B/\T<=w.heap.size/\E w B T (gt ts j) (gh hs j)/\∀r,v.ownBlock=some r->r<B\/T<=r
section
variable {α:Type} [Inhabited α] {base:Nat} {t:TypeId} {E:World->Nat->Nat->α->Hdr->Prop}
theorem LH.nil(base:Nat)(t:TypeId)(E:World->Nat->Nat->α->Hdr->Prop)(w:World):LH base t E w (.slice none 0 0) [] []:=⟨World.ownsRow_nil _ _ _ _,rfl,fun j hj=>by simp at hj⟩
theorem LH.app(L:js E){wr w1 w3:World}{v:Value}{hs:List Hdr}{ts:List α}{z:α}{h:Hdr}{o:Obj}{g cap k B T:Nat}(hk:hs.length=k)(H:LH base t E wr v hs ts)(hb1:Below wr.heap.size wr w1)(hE:E w1 B T z h)(hB:wr.heap.size<=B)(hT:T<=w1.heap.size)(hbase:base<=wr.heap.size)
  (hown:w3.ownsRow base t 1 (.slice (some ⟨g,0,none⟩) (k+1) cap) (k+1) (hs.map Hdr.val++[h.val])) (hgrow:(w1.alloc o).grownBy w3 v.ownBlock) (hat:v.ownBlock=some g\/g=(w1.alloc o).heap.size):
  LH base t E w3 (.slice (some ⟨g,0,none⟩) (k+1) cap) (hs++[h]) (ts++[z]):=by
 subst hk;have hal:Below w1.heap.size w1 (w1.alloc o):=(Jt _ _).alloc (Jr _) o;have hs1:=hb1.size;have hs2:=hal.size;have hs3:=hgrow.size;have ob:∀r,(Value.slice (some ⟨g,0,none⟩) (hs.length+1) cap).ownBlock=some r->r=g:=fun r hr=>(Option.some.inj hr).symm
 refine⟨by rw[List.length_append,List.map_append];exact hown,by simp[H.tl],fun j hj=>?_⟩
 rcases Ju j hs.length with hlt|hge
 ·rw[tR _ _ _ hlt,tS _ _ _ (by rw[H.tl];exact hlt)]
  obtain⟨B',T',h1,h2,h3,h4⟩:=H.ev j hlt;have h5:=L.below (L.below h3 h2 hb1) (JA h2 hs1) hal;refine⟨B',T',h1,by omega,L.grown h5 (by omega) hgrow h4,fun r hr=>?_⟩
  obtain rfl:=ob r hr;rcases hat with h6|h6
  ·exact h4 _ h6
  ·right;omega
 ·have:j=hs.length:=by simp at hj;omega
  subst this;have e1:gt (ts++[z]) hs.length=z:=by rw[<-H.tl];exact Gh ts z
  rw[Gf,e1];have old:∀r,v.ownBlock=some r->r<B\/T<=r:=fun r hr=>by
   have:=(H.own.lt r hr).2;left;omega
  refine⟨B,T,by omega,by omega,L.grown (L.below hE hT hal) (by omega) hgrow old,fun r hr=>?_⟩
  obtain rfl:=ob r hr;rcases hat with h6|h6
  ·exact old _ h6
  ·right;omega
theorem AG{w:World}{B n:Nat}{t:TypeId}{v:Value}{xs:List Value}(h:w.ownsRow B t 1 v n xs):∃q cap,v=.slice q n cap/\n<=cap/\cap<=maxLen/\(q=none->cap=0)/\∀a,q=some a->B<=a.block/\a.block<w.heap.size:=by
 rcases h.2 with ⟨h1,h2⟩|⟨g,cap,cur,h1,h2,h3,h4,h5,_⟩
 ·exact⟨none,0,by rw[h1,h2],by omega,Jz _,fun _=>rfl,nofun⟩
 ·exact⟨_,cap,h1,h4,h5,nofun,fun a ha=>by
   have h6:=h.lt g (by rw[h1];rfl)
   cases ha
   exact⟨h2,h6.2⟩⟩
theorem Eo{w:World}{B cap:Nat}{t:TypeId}{q:Option Addr}{hs:List Hdr}(h:w.ownsRow B t 1 (.slice q hs.length cap) hs.length (hs.map Hdr.val)):HL w q hs:=fun hx=>by
 obtain⟨g,cap',h1,h2,_⟩:=h.form hx
 cases h1
 refine⟨g,0,rfl,fun j hj=>?_⟩
 have e0:=h.cells (g:=g) rfl j (gh hs j).val (by simp[gh,hj])
 rw[Addr.add_mid] at e0
 exact e0
theorem LH.row(L:js E){w:World}{v:Value}{hs:List Hdr}{ts:List α}{D:Nat}(h:LH base t E w v hs ts)(hD:hs.length<=D):∃q cap,v=.slice q hs.length cap/\ew D E w base w.heap.size ts ⟨q,hs.length,cap⟩ hs:=by
 obtain⟨q,cap,h1,h2,h3,h4,h5⟩:=AG h.own;have ho:=h.own;rw[h1] at ho
 exact⟨q,cap,h1,rfl,h.tl,h2,h3,h4,hD,Eo ho,fun a ha _=>h5 a ha,fun j hj=>by
  obtain⟨B,T,k1,k2,k3,_⟩:=h.ev j hj;exact L.wide k3 k1 k2⟩
end
def EZ(K D:Nat)(w:World)(B T:Nat)(zs:List Int)(h:Hdr):Prop:=
 ∃fs,PA w K h.p h.n h.c fs zs/\h.n<=D/\(∀a,h.p=some a->0<h.n->B<=a.block/\a.block<T)/\∀j,j<h.n->0<(ge fs j).n->∀a,(ge fs j).p=some a->B<=a.block/\a.block<T
theorem df(K D:Nat):js (EZ K D):=⟨fun {w w' B T z h row} he hT hg hr=>by
  obtain⟨fs,k,h1,h2,h3⟩:=he;refine⟨fs,⟨k.el,k.zl,k.cap,k.bnd,k.pn,fun hx=>(k.pl.same fun a ha hlt=>hg.block a.block hlt fun e=>?_) hx,fun j hj=>(gA K).grown (k.ev j hj) hg fun hn a ha e=>?_⟩,h1,h2,h3⟩
  ·have h4:=h2 a ha (by rw[<-k.el];exact hx)
   have h5:=hr a.block e.symm;omega
  ·have h4:=h3 j hj hn a ha
   have h5:=hr a.block e.symm;omega,fun {w B T B' T' z h} he hB hT=>by
  obtain⟨fs,k,h1,h2,h3⟩:=he;exact⟨fs,k,h1,fun a ha hn=>by have:=h2 a ha hn;omega,fun j hj hn a ha=>by have:=h3 j hj hn a ha;omega⟩⟩
def bf(z:Int):Int:=if z=0 then 0 else if z<0 then -1 else 1
theorem tU(hU:U32 xs)(h:ad xs=0):bf (aq s xs)=0:=by
 have:=(bF hU).1 h
 cases s<;>simp[aq,bf,this]
theorem B6(hU:U32 xs)(h:ad xs≠0):bf (aq s xs)=if s then -1 else 1:=by
 have h1:val xs≠0:=fun e=>h ((bF hU).2 e)
 have h2:=ar hU
 cases s
 ·simp only[aq,bf,Bool.false_eq_true,if_false];rw[if_neg h1,if_neg (by omega)]
 ·simp only[aq,bf,if_true];rw[if_neg (by omega),if_pos (by omega)]
theorem qI(s:Bool)(p:Option Addr)(n nc:Nat)(xs:List Int)(w:World)(hA:AI w p n nc xs):
  Calls Tryz.prog 35 #[.agg #[.bool s,.slice p n nc]] w fun e w'=>e=.returned (.int .i64 (bf (aq s xs)))/\Below w.heap.size w w':=by
 have tx:=aj xs;by_cases h0:ad xs=0
 ·rw[tU hA.u h0]
  go_enter Tryz.func35,Tryz.ntmps35;go_wp2_with (go_at_call 78;refine(aS p n nc xs _ hA.len hA.cap hA.bnd (hA.rd.alloc _)).mono ?_;rintro e w' ⟨rfl,rfl⟩);go_ret;exact⟨rfl,(Jt _ _).alloc (Jr _) _⟩
 ·rw[B6 hA.u h0]
  have h1:(((ad xs:Nat):Int)==0)=false:=beq_eq_false_iff_ne.2 (by omega)
  cases s
  all_goals
   go_enter Tryz.func35,Tryz.ntmps35;go_wp2_with (go_at_call 78;refine(aS p n nc xs _ hA.len hA.cap hA.bnd (hA.rd.alloc _)).mono ?_;rintro e w' ⟨rfl,rfl⟩);go_ret;exact⟨rfl,(Jt _ _).alloc (Jr _) _⟩
theorem iw(z:Int):(z=0/\bf z=0)\/(z<0/\bf z = -1)\/(0<z/\bf z=1):=by
 rcases Int.lt_trichotomy z 0 with h|h|h
 ·exact .inr (.inl ⟨h,by rw[bf,if_neg (by omega),if_pos h]⟩)
 ·exact .inl ⟨h,by rw[bf,if_pos h]⟩
 ·exact .inr (.inr ⟨h,by rw[bf,if_neg (by omega),if_neg (by omega)]⟩)
theorem B3{a b:Int}(h:bf a≠bf b):bQ (bf a) (bf b)=bQ a b:=by
 rcases iw a with ⟨h1,h2⟩|⟨h1,h2⟩|⟨h1,h2⟩<;>rcases iw b with ⟨h3,h4⟩|⟨h3,h4⟩|⟨h3,h4⟩<;>rw[h2,h4] at h ⊢ <;>
  first
   |exact absurd rfl h
   |(rw[cK (by omega),cK (by omega)])
   |(rw[ee (by omega),ee (by omega)])
variable {ys:List Int}
theorem uI{t:Bool}(hX:U32 xs)(hY:U32 ys)(h:bf (aq s xs)=bf (aq t ys)):bf (aq s xs)*bQ (val xs) (val ys)=bQ (aq s xs) (aq t ys):=by
 have h1:=ar hX;have h2:=ar hY;rcases iw (aq s xs) with ⟨a1,a2⟩|⟨a1,a2⟩|⟨a1,a2⟩<;>rcases iw (aq t ys) with ⟨b1,b2⟩|⟨b1,b2⟩|⟨b1,b2⟩<;>rw[a2,b2] at h<;>(try (exact absurd h (by decide)))<;>rw[a2]
 ·rw[a1,b1,iR,Int.zero_mul]
 ·have e1:s=true:=by cases s<;>simp_all [aq]<;>omega
  have e2:t=true:=by cases t<;>simp_all [aq]<;>omega
  subst e1 e2;simp only[aq,if_true];rcases Int.lt_trichotomy (val xs) (val ys) with g|g|g
  ·rw[cK g,ee (by omega)];rfl
  ·rw[g,iR,iR];rfl
  ·rw[ee g,cK (by omega)];rfl
 ·have e1:s=false:=by cases s<;>simp_all [aq]<;>omega
  have e2:t=false:=by cases t<;>simp_all [aq]<;>omega
  subst e1 e2;simp only[aq,Bool.false_eq_true,if_false,Int.one_mul]
def mid(Z:List Int)(o:Nat)(R:List Int):List Int:=Z.take o++R++Z.drop (o+R.length)
theorem b6(Z R:List Int)(o:Nat)(h:o+R.length<=Z.length):(mid Z o R).length=Z.length:=sP Z R o h
theorem Ce(Z R:List Int)(o j:Nat)(h:o+R.length<=Z.length)(hj:j<R.length):gx (mid Z o R) (o+j)=gx R j:=AT Z R o j _ (by omega) hj
theorem eP(Z R:List Int)(o j:Nat)(v:Int)(h:o+R.length<=Z.length)(hj:j<R.length):(mid Z o R).set (o+j) v=mid Z o (R.set j v):=by
 have hl:(Z.take o).length=o:=by simp;omega
 unfold mid;rw[List.append_assoc,List.set_append_right _ _ (by omega),hl,Nat.add_sub_cancel_left,List.set_append_left _ _ hj,List.append_assoc,List.length_set]
theorem kq(Z:List Int)(o n:Nat)(h:o+n<=Z.length):mid Z o ((Z.drop o).take n)=Z:=by
 unfold mid;rw[dJ Z o n h,List.append_assoc];have:(Z.drop o).take n++Z.drop (o+n)=Z.drop o:=by
  rw[<-List.drop_drop];exact List.take_append_drop n (Z.drop o)
 rw[this,List.take_append_drop]
theorem wV(Z R:List Int)(h:R.length=Z.length):mid Z 0 R=R:=by simp[mid,h]
theorem h_(R:List Int)(j:Nat)(v:Int)(h:j<R.length):val (R.set j v)=val R+pw j*(v-gx R j):=by
 have e1:=tc R j h;have e2:=tc (R.set j v) j (by simpa using h)
 rw[List.take_set_of_le (Jr _),List.drop_set_of_lt (by omega),bK R j v h] at e2
 rw[e2,e1,Int.mul_sub];omega
variable {R:List Int}
theorem dy(h:U32 R)(j:Nat){v:Int}(hv:0<=v/\v<4294967296):U32 (R.set j v):=fun k=>by
 by_cases hk:j=k
 ·subst hk
  by_cases hl:j<R.length
  ·rw[bK R j v hl];exact hv
  ·rw[ak _ _ (Jr _) j (by simp;omega)];decide
 ·rw[cl R j k v hk];exact h k
variable {Z:List Int} {o:Nat}
theorem Row.gC{e:TypeId}{k:IntKind}(hr:Row w g e k (mid Z o R))(h:o+R.length<=Z.length)(j:Nat)(hj:j<R.length):w.cell? ⟨g,o+j,none⟩=some (.int k (gx R j)):=by
 have:=hr.cell (o+j) (by rw[b6 Z R o h];omega)
 rwa [Ce Z R o j h hj] at this
theorem Row.eP{e:TypeId}{k:IntKind}(hr:Row w g e k (mid Z o R))(h:o+R.length<=Z.length)(j:Nat)(hj:j<R.length)(v:Int):Row (w.setCell ⟨g,o+j,none⟩ (.int k v)) g e k (mid Z o (R.set j v)):=by
 have:=hr.set (o+j) v;rwa [Proofs.YtdjjlghlcffflaaGreatDoor.eP Z R o j v h hj] at this
variable {x:Int}
theorem wW{v:Int}(h1:0<=v/\v<4294967296)(h2:0<=x/\x<4294967296):0<=v*x/\v*x<=18446744065119617025:=by
 refine⟨JJ h1.1 h2.1,?_⟩;have a1:v*x<=v*4294967295:=Jx (by omega) h1.1
 omega
theorem jW(r x:Int)(h1:0<=r)(h2:r<4294967296)(h3:0<=x)(h4:x<4294967296):bits .or .u64 (r*4294967296) x=r*4294967296+x:=
 bits_join .u64 64 (by decide) (fun n a b=>by rw[IntKind.wrap_u64];omega) 32 (r*4294967296) x (by omega) (by omega) (by omega) h3 (by omega) (by omega)
theorem drop_cons(l:List Int)(j:Nat)(h:j<l.length):l.drop j=gx l j::l.drop (j+1):=by rw[bZ l j h];exact List.drop_eq_getElem_cons h
theorem tL(l:List Int)(n j:Nat)(v:Int)(hj:j<n)(h:n<=l.length):((l.set j v).take n).drop j=v::(l.take n).drop (j+1):=by
 rw[drop_cons _ j (by simp;omega),bm _ _ _ hj,bK l j v (by omega)]
 congr 1;rw[List.take_set,List.drop_set_of_lt (by omega)]
variable {d:Int}
theorem IL{r:Int}(h1:0<=r)(h2:r<d)(h3:0<=x)(h4:x<4294967296):0<=(r*4294967296+x)/d/\(r*4294967296+x)/d<4294967296:=by
 refine⟨Int.ediv_nonneg (by omega) (by omega),?_⟩
 apply Int.ediv_lt_of_lt_mul (by omega)
 omega
theorem Cq(a b:Int)(h1:0<=a)(h2:a<18446744073709551616)(h3:0<=b)(h4:b<18446744073709551616):bits .or .u64 a b=bits .or .u64 b a:=by
 obtain⟨x,rfl⟩:=Int.eq_ofNat_of_zero_le h1;obtain⟨y,rfl⟩:=Int.eq_ofNat_of_zero_le h3;have hk:∀n:Int,0<=n->n<2^64->IntKind.u64.wrap n=n:=fun n a b=>by rw[IntKind.wrap_u64];omega
 rw[(bits_nat .u64 64 (by decide) hk x y (by omega) (by omega)).2,(bits_nat .u64 64 (by decide) hk y x (by omega) (by omega)).2,Nat.or_comm]
theorem Em(r x:Int)(h1:0<=r)(h2:r<4294967296)(h3:0<=x)(h4:x<4294967296):bits .or .u64 x (r*4294967296)=r*4294967296+x:=by
 rw[Cq _ _ h3 (by omega) (by omega) (by omega),jW r x h1 h2 h3 h4]
end Go.Proofs.YtdjjlghlcffflaaGreatDoor
