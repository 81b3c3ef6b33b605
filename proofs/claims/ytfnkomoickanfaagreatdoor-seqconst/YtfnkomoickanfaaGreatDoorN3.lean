/- Own. -/
import Derived.Test.YtfnkomoickanfaaGreatDoorG9
set_option linter.unusedVariables false
set_option linter.unusedSimpArgs false
set_option maxHeartbeats 8000000
set_option maxRecDepth 100000
namespace Go.Proofs.YtfnkomoickanfaaGreatDoor.Tz
open Go.RowKit Go.Shelf Go.Proofs.YtfnkomoickanfaaGreatDoor
noncomputable def oC:Go.Shelf.Ren:=⟨fun|29=>258|n=>n,fun|0=>0|3=>3|4=>4|5=>5|22=>141|25=>163|54=>279|n=>n,fun|1=>(Tryz.prog.globals.findIdx? (·.name == "math/bits.deBruijn64tab")).getD 0|n=>n⟩
def TzT(w:World):Prop:=TabAt (oC.g 1) Lib.deBruijn64tab w
theorem xx{w:World}(h:TzT w):Ev.TZ w:=fun g hg=>by
 have h1:Ev.tzB=some (oC.g 1):=by kernel_rfl
 obtain rfl:=Option.some.inj (h1.symm.trans hg)
 exact h
theorem Ec{w:World}(h:Ev.TZ w):TzT w:=h _ (by kernel_rfl)
theorem TzB{w w1:World}(h:TzT w)(hb:Below w.heap.size w w1):TzT w1:=Ec ((xx h).dm fun g hg=>hb.block g ((xx h).lt hg))
end Go.Proofs.YtfnkomoickanfaaGreatDoor.Tz
namespace Go.Proofs.YtfnkomoickanfaaGreatDoor.Ev
open Go.RowKit
structure Ent where
 args:List LV
 bF:List Blk
 v:LV
 news:List Blk
noncomputable section
def wL(m:List Nat)(i n:Nat):Bool:=
 match m[i]? with
 |some k=>k.beq n
 |none=>false
def v_:Cap→Cap→Bool
 | .known a,.known b=>a.beq b
 | .more a,.more b=>a.beq b
 |_,_=>false
def kg(m:List Nat):LV→LV→Bool
 | .bool a=>fun y=>match y with
  | .bool b=>Bool.rec (Bool.not b) b a
  |_=>false
 | .int k a=>fun y=>match y with
  | .int k' b=>(k==k')&&eqF a b
  |_=>false
 | .ptr i o=>fun y=>match y with
  | .ptr n o'=>wL m i n&&o.beq o'
  |_=>false
 | .nil=>fun y=>match y with
  | .nil=>true
  |_=>false
 | .slice i o l c=>fun y=>match y with
  | .slice n o' l' c'=>wL m i n&&o.beq o'&&l.beq l'&&v_ c c'
  |_=>false
 | .nilSlice=>fun y=>match y with
  | .nilSlice=>true
  |_=>false
 | .nilFunc=>fun y=>match y with
  | .nilFunc=>true
  |_=>false
 | .nilIface=>fun y=>match y with
  | .nilIface=>true
  |_=>false
 |_=>fun _=>false
def dF(f:LV→LV→Bool)(as1:List LV):List LV→Bool:=
 List.rec (fun bs=>bs.isEmpty) (fun a _ ih bs=>match bs with
  | []=>false
  |b::bs=>f a b&&ih bs) as1
def r8(m:List Nat):LV→LV→Bool
 | .agg as1=>fun y=>match y with
  | .agg bs=>dF (kg m) as1 bs
  |_=>false
 | .func (.func f) as1 cs=>fun y=>match y with
  | .func (.func g) bs ds=>Nat.beq f g&&dF (kg m) as1 bs&&dF (kg m) cs ds
  |_=>false
 |a=>kg m a
def po(m:List Nat):LV→LV→Bool
 | .tuple as1=>fun y=>match y with
  | .tuple bs=>dF (r8 m) as1 bs
  |_=>false
 | .func (.func f) as1 cs=>fun y=>match y with
  | .func (.func g) bs ds=>Nat.beq f g&&dF (r8 m) as1 bs&&dF (r8 m) cs ds
  |_=>false
 |a=>r8 m a
def yC:Option Nat→Option Nat→Bool
 |none,none=>true
 |some a,some b=>a.beq b
 |_,_=>false
def eqB(m:List Nat)(a b:Blk):Bool:=
 a.lp.isNone&&b.lp.isNone&&Nat.beq a.elem b.elem&&yC a.more b.more&&dF (kg m) a.cells b.cells
def iG(g:Nat→Nat):LV→LV
 | .ptr i o=>.ptr (g i) o
 | .slice i o l c=>.slice (g i) o l c
 |v=>v
def kA(g:Nat→Nat):LV→LV
 | .agg cs=>.agg (cs.map (iG g))
 | .func f a b=>.func f (a.map (iG g)) (b.map (iG g))
 |v=>iG g v
def pP(g:Nat→Nat):LV→LV
 | .tuple cs=>.tuple (cs.map (kA g))
 | .func f a b=>.func f (a.map (kA g)) (b.map (kA g))
 |v=>kA g v
def tn(g:Nat→Nat)(b:Blk):Blk:=⟨b.cells.map (iG g),b.elem,b.more,none⟩
def Same(σ ρ:Ren)(a b:LV):Prop:=∀x,VR σ a x↔VR ρ b x
end
theorem uW{m:List Nat}{i n:Nat}(h:wL m i n=true):m[i]?=some n:=by
 unfold wL at h
 split at h
 ·rename_i k hk;rw[hk,Nat.eq_of_beq_eq_true h]
 ·cases h
theorem zN{a b:Cap}(h:v_ a b=true):a=b:=by
 cases a<;>cases b<;>simp only[v_] at h<;>first|cases h|(rw[Nat.eq_of_beq_eq_true h])
theorem bV{m:List Nat}{σ ρ:Ren}{g:Nat→Nat}(hσ:∀i n,m[i]?=some n→σ (g i)=ρ n){a b:LV}(h:kg m a b=true):Same σ ρ (iG g a) b:=by
 intro x
 cases a<;>cases b<;>simp only[kg] at h<;>try cases h
 case bool a b=>
  have:a=b:=by cases a<;>cases b<;>first|rfl|cases h
  subst this
  constructor<;>(intro hx;cases hx;exact .bool _)
 case int k a k' b=>
  simp only[Bool.and_eq_true] at h
  have e1:=eq_of_beq h.1
  have e2:=h.2
  rw[rZ] at e2
  have e2:=eq_of_beq e2
  subst e1 e2
  constructor<;>(intro hx;cases hx;exact .int _ _)
 case ptr i o n o'=>
  simp only[Bool.and_eq_true] at h
  have e1:=hσ _ _ (uW h.1)
  have e2:=Nat.eq_of_beq_eq_true h.2
  subst e2
  constructor
  ·intro hx;cases hx with|ptr hp=>exact .ptr (by rw[←e1];exact hp)
  ·intro hx;cases hx with|ptr hp=>exact .ptr (by rw[e1];exact hp)
 case nil=>constructor<;>(intro hx;cases hx;exact .nil)
 case slice i o l c n o' l' c'=>
  simp only[Bool.and_eq_true] at h
  obtain⟨⟨⟨h1,h2⟩,h3⟩,h4⟩:=h
  have e1:=hσ _ _ (uW h1)
  have e2:=Nat.eq_of_beq_eq_true h2
  have e3:=Nat.eq_of_beq_eq_true h3
  have e4:=zN h4
  subst e2 e3 e4
  constructor
  ·intro hx
   cases hx with
   |known hp=>exact .known (by rw[←e1];exact hp)
   |more hp=>exact .more (by rw[←e1];exact hp)
  ·intro hx
   cases hx with
   |known hp=>exact .known (by rw[e1];exact hp)
   |more hp=>exact .more (by rw[e1];exact hp)
 case nilSlice=>constructor<;>(intro hx;cases hx;exact .nilSlice)
 case nilFunc=>constructor<;>(intro hx;cases hx;exact .nilFunc)
 case nilIface=>constructor<;>(intro hx;cases hx;exact .nilIface)
theorem eR(f:LV→LV→Bool)(a b:LV)(as1 bs:List LV):dF f (a::as1) (b::bs)=(f a b&&dF f as1 bs):=rfl
theorem fK{f:LV→LV→Bool}{r:LV→LV}{σ ρ:Ren}(hf:∀a b,f a b=true→Same σ ρ (r a) b):∀{as1 bs:List LV},dF f as1 bs=true→∀xs,VRs σ (as1.map r) xs↔VRs ρ bs xs
 | [],[],_,xs=>by constructor<;>(intro hx;cases hx;exact .nil)
 | [],_::_,h,_=>by cases h
 |_::_,[],h,_=>by cases h
 |a::as1,b::bs,h,xs=>by
  rw[eR,Bool.and_eq_true] at h
  have ih:=fK hf h.2
  have h1:=hf a b h.1
  constructor
  ·intro hx;cases hx with|cons p q=>exact .cons ((h1 _).1 p) ((ih _).1 q)
  ·intro hx;cases hx with|cons p q=>exact .cons ((h1 _).2 p) ((ih _).2 q)
theorem kh{f:LV→LV→Bool}:∀{as1 bs:List LV},dF f as1 bs=true→as1.length=bs.length
 | [],[],_=>rfl
 | [],_::_,h=>by cases h
 |_::_,[],h=>by cases h
 |a::as1,b::bs,h=>by
  rw[eR,Bool.and_eq_true] at h
  simp[kh h.2]
theorem mX{f:LV→LV→Bool}:∀{as1 bs:List LV},dF f as1 bs=true→∀{i:Nat} {a:LV},as1[i]?=some a→∃b,bs[i]?=some b∧f a b=true
 | [],_,_,i,a,h=>by simp at h
 |_::_,[],h,_,_,_=>by cases h
 |a::as1,b::bs,h,0,c,hi=>by
  rw[eR,Bool.and_eq_true] at h
  simp only[List.getElem?_cons_zero,Option.some.injEq] at hi
  subst hi
  exact⟨b,rfl,h.1⟩
 |a::as1,b::bs,h,i+1,c,hi=>by
  rw[eR,Bool.and_eq_true] at h
  simp only[List.getElem?_cons_succ] at hi ⊢
  exact mX h.2 hi
theorem qj{f:LV→LV→Bool}:∀{as1 bs:List LV},dF f as1 bs=true→∀{i:Nat} {b:LV},bs[i]?=some b→∃a,as1[i]?=some a∧f a b=true
 |_,[],_,i,a,h=>by simp at h
 | [],_::_,h,_,_,_=>by cases h
 |a::as1,b::bs,h,0,c,hi=>by
  rw[eR,Bool.and_eq_true] at h
  simp only[List.getElem?_cons_zero,Option.some.injEq] at hi
  subst hi
  exact⟨a,rfl,h.1⟩
 |a::as1,b::bs,h,i+1,c,hi=>by
  rw[eR,Bool.and_eq_true] at h
  simp only[List.getElem?_cons_succ] at hi ⊢
  exact qj h.2 hi
theorem so{f:LV→LV→Bool}{r:LV→LV}{σ ρ:Ren}(hf:∀a b,f a b=true→Same σ ρ (r a) b){i j:Nat}{as1 cs bs ds:List LV}
  (h:(Nat.beq i j&&dF f as1 bs&&dF f cs ds)=true):Same σ ρ (.func (.func i) (as1.map r) (cs.map r)) (.func (.func j) bs ds):=by
 simp only[Bool.and_eq_true] at h
 have e:=Nat.eq_of_beq_eq_true h.1.1
 subst e
 have h1:=fK hf h.1.2
 have h2:=fK hf h.2
 intro x
 constructor
 ·intro hx;cases hx with|func p q=>exact .func ((h1 _).1 p) ((h2 _).1 q)
 ·intro hx;cases hx with|func p q=>exact .func ((h1 _).2 p) ((h2 _).2 q)
theorem b9{m:List Nat}{σ ρ:Ren}{g:Nat→Nat}(hσ:∀i n,m[i]?=some n→σ (g i)=ρ n){a b:LV}(h:r8 m a b=true):Same σ ρ (kA g a) b:=by
 cases a
 case bool c0=>exact bV (g:=g) (a:=.bool c0) hσ h
 case int c0 c1=>exact bV (g:=g) (a:=.int c0 c1) hσ h
 case str c0=>exact bV (g:=g) (a:=.str c0) hσ h
 case ptr c0 c1=>exact bV (g:=g) (a:=.ptr c0 c1) hσ h
 case nil=>exact bV (g:=g) (a:=.nil) hσ h
 case slice c0 c1 c2 c3=>exact bV (g:=g) (a:=.slice c0 c1 c2 c3) hσ h
 case nilSlice=>exact bV (g:=g) (a:=.nilSlice) hσ h
 case nilFunc=>exact bV (g:=g) (a:=.nilFunc) hσ h
 case iface c0 c1=>exact bV (g:=g) (a:=.iface c0 c1) hσ h
 case nilIface=>exact bV (g:=g) (a:=.nilIface) hσ h
 case tuple c0=>exact bV (g:=g) (a:=.tuple c0) hσ h
 case yield c0=>exact bV (g:=g) (a:=.yield c0) hσ h
 case agg as1=>
  cases b<;>try cases h
  case agg bs=>
   have h1:=fK (r:=iG g) (fun a b=>bV hσ) h
   intro x
   constructor
   ·intro hx;cases hx with|agg p=>exact .agg ((h1 _).1 p)
   ·intro hx;cases hx with|agg p=>exact .agg ((h1 _).2 p)
 case func fn u v=>
  cases fn<;>cases b<;>try cases h
  case func.func i fn bs ds=>
   cases fn<;>try cases h
   exact so (r:=iG g) (fun a b=>bV hσ) h
theorem r_{m:List Nat}{σ ρ:Ren}{g:Nat→Nat}(hσ:∀i n,m[i]?=some n→σ (g i)=ρ n){a b:LV}(h:po m a b=true):Same σ ρ (pP g a) b:=by
 cases a
 case bool c0=>exact b9 (g:=g) (a:=.bool c0) hσ h
 case int c0 c1=>exact b9 (g:=g) (a:=.int c0 c1) hσ h
 case str c0=>exact b9 (g:=g) (a:=.str c0) hσ h
 case ptr c0 c1=>exact b9 (g:=g) (a:=.ptr c0 c1) hσ h
 case nil=>exact b9 (g:=g) (a:=.nil) hσ h
 case slice c0 c1 c2 c3=>exact b9 (g:=g) (a:=.slice c0 c1 c2 c3) hσ h
 case nilSlice=>exact b9 (g:=g) (a:=.nilSlice) hσ h
 case nilFunc=>exact b9 (g:=g) (a:=.nilFunc) hσ h
 case iface c0 c1=>exact b9 (g:=g) (a:=.iface c0 c1) hσ h
 case nilIface=>exact b9 (g:=g) (a:=.nilIface) hσ h
 case agg c0=>exact b9 (g:=g) (a:=.agg c0) hσ h
 case yield c0=>exact b9 (g:=g) (a:=.yield c0) hσ h
 case tuple as1=>
  cases b<;>try cases h
  case tuple bs=>
   have h1:=fK (r:=kA g) (fun a b=>b9 hσ) h
   intro x
   constructor
   ·intro hx;cases hx with|tuple p=>exact .tuple ((h1 _).1 p)
   ·intro hx;cases hx with|tuple p=>exact .tuple ((h1 _).2 p)
 case func fn u v=>
  cases fn<;>cases b<;>try cases h
  case func.func i fn bs ds=>
   cases fn<;>try cases h
   exact so (r:=kA g) (fun a b=>b9 hσ) h
theorem vB(a:LV):iG id a=a:=by cases a<;>rfl
theorem uU{r:LV→LV}(h:∀a,r a=a)(l:List LV):l.map r=l:=by
 induction l with
 |nil=>rfl
 |cons a l ih=>rw[List.map_cons,ih,h]
theorem vC(a:LV):kA id a=a:=by
 cases a<;>first|rfl|(simp only[kA,uU vB];done)
theorem Cn(a:LV):pP id a=a:=by
 cases a<;>first|rfl|(simp only[pP,uU vC];done)|(simp only[pP];exact vC _)
theorem qi{m:List Nat}{σ ρ:Ren}(hσ:∀i n,m[i]?=some n→σ i=ρ n){a b:LV}(h:kg m a b=true):Same σ ρ a b:=by
 have:=bV (g:=id) hσ h;rwa [vB] at this
theorem x9{m:List Nat}{σ ρ:Ren}(hσ:∀i n,m[i]?=some n→σ i=ρ n){a b:LV}(h:po m a b=true):Same σ ρ a b:=by
 have:=r_ (g:=id) hσ h;rwa [Cn] at this
theorem x_{m:List Nat}{σ ρ:Ren}(hσ:∀i n,m[i]?=some n→σ i=ρ n){as1 bs:List LV}(h:dF (po m) as1 bs=true)(xs:List Value):VRs σ as1 xs↔VRs ρ bs xs:=by
 have:=fK (r:=id) (σ:=σ) (ρ:=ρ) (fun a b=>x9 hσ) h xs
 rwa [List.map_id] at this
noncomputable section
def og(bs:List Blk):Nat→Tr Blk→Tr Blk:=
 List.rec (fun _ t=>t) (fun b _ ih i t=>ih (Nat.succ i) (t.put 40 i (some b))) bs
def Ent.st(e:Ent):St:=⟨og e.bF 0 .e,e.bF.length,e.bF.length,[],[]⟩
def vZ(m:List Nat)(b:Blk):Option Blk→Bool
 |some c=>eqB m b c
 |none=>false
def ix(h:Tr Blk)(m:List Nat)(bs:List Blk):List Nat→Bool:=
 List.rec (fun ns=>ns.isEmpty) (fun b _ ih ns=>match ns with
  | []=>false
  |n::ns=>vZ m b (h.get n)&&ih ns) bs
def nw(a:Nat)(l:List Nat):Bool:=List.rec false (fun b _ ih=>Nat.beq a b||ih) l
def jz(l:List Nat):Bool:=List.rec true (fun a l ih=>Bool.not (nw a l)&&ih) l
def sJ:LV→List Nat
 | .ptr n _=>[n]
 | .slice n _ _ _=>[n]
 |_=>[]
def lH(f:LV→List Nat)(l:List LV):List Nat:=List.rec [] (fun a _ ih=>f a++ih) l
def wM:LV→List Nat
 | .agg cs=>lH sJ cs
 | .func _ a b=>lH sJ a++lH sJ b
 |v=>sJ v
def nms3:LV→List Nat
 | .tuple cs=>lH wM cs
 | .func _ a b=>lH wM a++lH wM b
 |v=>wM v
def reach(h:Tr Blk)(fuel:Nat):List Nat→List Nat→List Nat:=
 Nat.rec (fun _ seen=>seen) (fun _ ih todo seen=>match todo with
  | []=>seen
  |n::ts=>sel (nw n seen) (ih ts seen) (match h.get n with
   |some b=>ih (ts++lH sJ b.cells) (seen++[n])
   |none=>ih ts (seen++[n]))) fuel
def fB(m:List Nat):St→St:=List.rec (fun s=>s) (fun n _ ih s=>ih (s.aO n)) m
def vW(g:Nat→Nat)(b:Blk):St→St
 |⟨h,nx,th,fp,wr⟩=>⟨h.put 40 nx (some (tn g b)),Nat.succ nx,th,fp,wr⟩
def jm(g:Nat→Nat)(bs:List Blk):St→St:=List.rec (fun s=>s) (fun b _ ih s=>ih (vW g b s)) bs
def kJ(k nx:Nat)(m:List Nat)(i:Nat):Nat:=sel (Nat.ble (Nat.succ i) k) ((m[i]?).getD 0) (nx+(i-k))
def fits(e:Ent)(m:List Nat)(args:List LV)(s:St):Bool:=
 dF (po m) e.args args&&(ix s.heap m e.bF m&&(jz m&&Nat.ble (s.next+e.news.length) 1000000000))
def Ent.ans(e:Ent)(m:List Nat)(s:St):Ans×St:=
 (.call (pP (kJ e.bF.length s.next m) e.v),jm (kJ e.bF.length s.next m) e.news (fB m s))
def Af(m:List Nat)(args:List LV)(s:St)(es:List Ent):Option (Ans×St):=
 List.rec none (fun e _ ih=>sel (fits e m args s) (some (e.ans m s)) ih) es
def hit(es:List Ent)(args:List LV)(s:St):Option (Ans×St):=Af (reach s.heap 100000 (lH nms3 args) []) args s es
end
theorem tG{α:Type}(x y:α):sel true x y=x:=rfl
theorem zf{α:Type}(x y:α):sel false x y=y:=rfl
theorem jn(h:Tr Blk)(m:List Nat)(b:Blk)(bs:List Blk)(n:Nat)(ns:List Nat):ix h m (b::bs) (n::ns)=(vZ m b (h.get n)&&ix h m bs ns):=rfl
theorem kd{h:Tr Blk}{m:List Nat}:∀{bs:List Blk} {ns:List Nat},ix h m bs ns=true→bs.length=ns.length
 | [],[],_=>rfl
 | [],_::_,e=>by cases e
 |_::_,[],e=>by cases e
 |b::bs,n::ns,e=>by
  rw[jn,Bool.and_eq_true] at e
  simp[kd e.2]
theorem zK{m:List Nat}{b:Blk}{o:Option Blk}(h:vZ m b o=true):∃c,o=some c∧eqB m b c=true:=by
 cases o with
 |none=>cases h
 |some c=>exact⟨c,rfl,h⟩
theorem kb{h:Tr Blk}{m:List Nat}:∀{bs:List Blk} {ns:List Nat},ix h m bs ns=true→∀{i:Nat} {b:Blk},bs[i]?=some b→∃n c,ns[i]?=some n∧h.get n=some c∧eqB m b c=true
 | [],_,_,i,b,hi=>by simp at hi
 |_::_,[],e,_,_,_=>by cases e
 |b::bs,n::ns,e,0,c,hi=>by
  rw[jn,Bool.and_eq_true] at e
  simp only[List.getElem?_cons_zero,Option.some.injEq] at hi
  subst hi
  obtain⟨c,h1,h2⟩:=zK e.1
  exact⟨n,c,rfl,h1,h2⟩
 |b::bs,n::ns,e,i+1,c,hi=>by
  rw[jn,Bool.and_eq_true] at e
  simp only[List.getElem?_cons_succ] at hi ⊢
  exact kb e.2 hi
theorem gG{α:Type}{l:List α}{i:Nat}(h:i<l.length):∃a,l[i]?=some a:=⟨l[i],List.getElem?_eq_getElem h⟩
theorem ie{α:Type}{l:List α}{i:Nat}{a:α}(h:l[i]?=some a):i<l.length:=by
 rcases Nat.lt_or_ge i l.length with h1|h1
 ·exact h1
 ·rw[List.getElem?_eq_none h1] at h;cases h
theorem uV(a:Nat):∀(l:List Nat),nw a l=true↔a∈l
 | []=>by simp[nw]
 |b::l=>by
  have e:nw a (b::l)=(Nat.beq a b||nw a l):=rfl
  rw[e,Bool.or_eq_true,uV a l,List.mem_cons,Nat.beq_eq]
theorem ka:∀{l:List Nat},jz l=true→∀{i j a:Nat},l[i]?=some a→l[j]?=some a→i=j
 | [],_,i,j,a,h,_=>by simp at h
 |b::l,h,i,j,a,h1,h2=>by
  have e:jz (b::l)=(Bool.not (nw b l)&&jz l):=rfl
  rw[e,Bool.and_eq_true] at h
  have hb:b∉l:=by
   intro hm
   rw[(uV b l).2 hm] at h
   cases h.1
  cases i with
  |zero=>
   cases j with
   |zero=>rfl
   |succ j=>
    simp only[List.getElem?_cons_zero,Option.some.injEq,List.getElem?_cons_succ] at h1 h2
    subst h1
    exact absurd (List.mem_of_getElem? h2) hb
  |succ i=>
   cases j with
   |zero=>
    simp only[List.getElem?_cons_zero,Option.some.injEq,List.getElem?_cons_succ] at h1 h2
    subst h2
    exact absurd (List.mem_of_getElem? h1) hb
   |succ j=>
    simp only[List.getElem?_cons_succ] at h1 h2
    rw[ka h.2 h1 h2]
theorem oh:∀(bs:List Blk) (i:Nat) (t:Tr Blk) (n:Nat),i+bs.length≤1000000000→(og bs i t).get n=if i≤n∧n<i+bs.length then bs[n-i]? else t.get n
 | [],i,t,n,_=>by
  rw[if_neg (by simp)];rfl
 |b::bs,i,t,n,h=>by
  simp only[List.length_cons] at h ⊢
  show(og bs (i+1) (t.put 40 i (some b))).get n=_
  rw[oh bs (i+1) _ n (by omega)]
  by_cases h1:i=n
  ·subst h1
   rw[if_neg (by omega),if_pos (by omega),Tr.dC 40 _ _ _ _ (by omega),if_pos rfl]
   simp
  ·by_cases h2:i+1≤n∧n<i+1+bs.length
   ·rw[if_pos h2,if_pos (by omega),show n-i=(n-(i+1))+1 by omega,List.getElem?_cons_succ]
   ·rw[if_neg h2,if_neg (by omega),Tr.dC 40 _ _ _ _ (by omega),if_neg (by omega)]
theorem tI(e:Ent)(hk:e.bF.length≤1000000000)(n:Nat):e.st.heap.get n=e.bF[n]?:=by
 show(og e.bF 0 .e).get n=_
 rw[oh _ _ _ _ (by omega)]
 by_cases h:n<e.bF.length
 ·rw[if_pos (by omega)];simp
 ·rw[if_neg (by omega),Tr.fj,List.getElem?_eq_none (by omega)]
theorem Bt(e:Ent)(hk:e.bF.length≤1000000000):WF e.st:=
 ⟨fun n hn=>by rw[tI e hk];exact List.getElem?_eq_none hn,hk,Nat.le_refl _⟩
theorem jr:∀(m:List Nat) (s:St),ar s (fB m s)
 | [],s=>ar.refl s
 |n::m,s=>(bG s n).trans (jr m (s.aO n))
theorem mS:∀(m:List Nat) (s:St),(fB m s).heap=s.heap
 | [],_=>rfl
 |n::m,s=>(mS m (s.aO n)).trans (dx s n)
theorem ju:∀(m:List Nat) (s:St),(fB m s).next=s.next
 | [],_=>rfl
 |n::m,s=>(ju m (s.aO n)).trans (cf s n)
theorem kK:∀(m:List Nat) (s:St),(fB m s).thr=s.thr
 | [],_=>rfl
 |n::m,s=>(kK m (s.aO n)).trans (dc s n)
theorem qI:∀(m:List Nat) (s:St) (n:Nat),n∈m→n<s.thr→n∈(fB m s).fp
 | [],_,_,h,_=>by cases h
 |a::m,s,n,h,ht=>by
  rcases List.mem_cons.1 h with rfl|h
  ·exact(jr m (s.aO n)).fp n (kM s n ht)
  ·exact qI m (s.aO a) n h (by rw[dc];exact ht)
theorem uI(g:Nat→Nat)(b:Blk)(s:St):vW g b s={s with heap:=s.heap.put 40 s.next (some (tn g b)),next:=s.next+1}:=by cases s;rfl
theorem rI(g:Nat→Nat):∀(bs:List Blk) (s:St),s.next+bs.length≤1000000000→
  (jm g bs s).next=s.next+bs.length∧(jm g bs s).thr=s.thr∧(jm g bs s).fp=s.fp∧(jm g bs s).wr=s.wr∧
   ∀n,(jm g bs s).heap.get n=if s.next≤n∧n<s.next+bs.length then (bs[n-s.next]?).map (tn g) else s.heap.get n
 | [],s,_=>⟨rfl,rfl,rfl,rfl,fun n=>by rw[if_neg (by simp)];rfl⟩
 |b::bs,s,h=>by
  simp only[List.length_cons] at h
  have ih:=rI g bs (vW g b s) (by rw[uI];dsimp only;omega)
  have e:jm g (b::bs) s=jm g bs (vW g b s):=rfl
  rw[e]
  obtain⟨i1,i2,i3,i4,i5⟩:=ih
  rw[i1,i2,i3,i4]
  simp only[uI,List.length_cons] at i5 ⊢
  refine⟨by omega,trivial,trivial,trivial,fun n=>?_⟩
  rw[i5 n]
  by_cases h1:s.next=n
  ·subst h1
   rw[if_neg (by omega),if_pos (by omega),Tr.dC 40 _ _ _ _ (by omega),if_pos rfl]
   simp
  ·by_cases h2:s.next+1≤n∧n<s.next+1+bs.length
   ·rw[if_pos h2,if_pos (by omega),show n-s.next=(n-(s.next+1))+1 by omega,List.getElem?_cons_succ]
   ·rw[if_neg h2,if_neg (by omega),Tr.dC 40 _ _ _ _ (by omega),if_neg (by omega)]
theorem zh{k nx:Nat}{m:List Nat}{i n:Nat}(h:i<k)(hm:m[i]?=some n):kJ k nx m i=n:=by
 unfold kJ
 rw[Nat.ble_eq_true_of_le h,tG,hm];rfl
theorem zg{k nx:Nat}{m:List Nat}{i:Nat}(h:k≤i):kJ k nx m i=nx+(i-k):=by
 unfold kJ
 have:Nat.ble (Nat.succ i) k=false:=by
  cases hb:Nat.ble (Nat.succ i) k with
  |false=>rfl
  |true=>have:=Nat.le_of_ble_eq_true hb;omega
 rw[this]
def rj(P:Program)(f:FuncId)(e:Ent):Prop:=
 ∃v1 s1 names,ir P (.call f e.args) e.st (.call v1) s1∧e.bF.length≤1000000000∧s1.wr=[]∧po (List.range e.bF.length++names) e.v v1=true∧
  ix s1.heap (List.range e.bF.length++names) e.news names=true∧jz names=true∧∀n∈names,e.bF.length≤n
theorem uh{k:Nat}{names:List Nat}{i:Nat}(h:i<k):(List.range k++names)[i]?=some i:=by
 rw[List.getElem?_append_left (by simpa using h)]
 simp[h]
theorem ug{k:Nat}{names:List Nat}{i:Nat}(h:k≤i):(List.range k++names)[i]?=names[i-k]?:=by
 rw[List.getElem?_append_right (by simpa using h)]
 simp
theorem fJ{m:List Nat}{a b:Blk}(h:eqB m a b=true):a.lp=none∧b.lp=none∧a.elem=b.elem∧a.more=b.more∧dF (kg m) a.cells b.cells=true:=by
 unfold eqB at h
 simp only[Bool.and_eq_true] at h
 obtain⟨⟨⟨⟨h1,h2⟩,h3⟩,h4⟩,h5⟩:=h
 refine⟨by simpa using h1,by simpa using h2,Nat.eq_of_beq_eq_true h3,?_,h5⟩
 cases ha:a.more<;>cases hb:b.more<;>rw[ha,hb] at h4<;>simp only[yC] at h4<;>first|rfl|cases h4|rw[Nat.eq_of_beq_eq_true h4]
theorem Co{m:List Nat}{σ ρ:Ren}{w:World}{i n:Nat}{a b:Blk}{p:Pl}{cs:Array Value}(hσ:∀i n,m[i]?=some n→σ i=ρ n)(hi:σ i=ρ n)(h:eqB m a b=true)(hr:eu ρ w n b p cs):eu σ w i a p cs:=by
 obtain⟨_,_,h3,h4,h5⟩:=fJ h
 refine⟨hi.trans hr.at_,by rw[h3];exact hr.heap,fun j v hv=>?_,by rw[kh h5];exact hr.fit,fun sz hs=>hr.more sz (by rw[←h4];exact hs)⟩
 obtain⟨u,hu,he⟩:=mX h5 hv
 obtain⟨x,hx,hv'⟩:=hr.val j u hu
 exact⟨x,hx,(qi hσ he x).2 hv'⟩
theorem AT{m:List Nat}{σ ρ:Ren}{w:World}{i n:Nat}{a b:Blk}{p:Pl}{cs:Array Value}(hσ:∀i n,m[i]?=some n→σ i=ρ n)(hi:σ i=ρ n)(h:eqB m a b=true)(hr:eu σ w i a p cs):eu ρ w n b p cs:=by
 obtain⟨_,_,h3,h4,h5⟩:=fJ h
 refine⟨hi.symm.trans hr.at_,by rw[←h3];exact hr.heap,fun j v hv=>?_,by rw[←kh h5];exact hr.fit,fun sz hs=>hr.more sz (by rw[h4];exact hs)⟩
 obtain⟨u,hu,he⟩:=qj h5 hv
 obtain⟨x,hx,hv'⟩:=hr.val j u hu
 exact⟨x,hx,(qi hσ he x).1 hv'⟩
theorem AS{m:List Nat}{σ ρ:Ren}{g:Nat→Nat}{w:World}{i n:Nat}{a b:Blk}{p:Pl}{cs:Array Value}(hσ:∀i n,m[i]?=some n→σ (g i)=ρ n)(hi:σ i=ρ n)(h:eqB m a b=true)(hr:eu ρ w n b p cs):eu σ w i (tn g a) p cs:=by
 obtain⟨_,_,h3,h4,h5⟩:=fJ h
 refine⟨hi.trans hr.at_,by show _=some (Obj.cells cs a.elem (0,0));rw[h3];exact hr.heap,fun j v hv=>?_,by show p.base+(a.cells.map (iG g)).length≤_;rw[List.length_map,kh h5];exact hr.fit,fun sz hs=>hr.more sz (by rw[←h4];exact hs)⟩
 have hv:(a.cells.map (iG g))[j]?=some v:=hv
 rw[List.getElem?_map] at hv
 cases hc:a.cells[j]? with
 |none=>rw[hc] at hv;cases hv
 |some c=>
  rw[hc] at hv
  cases hv
  obtain⟨u,hu,he⟩:=mX h5 hc
  obtain⟨x,hx,hv'⟩:=hr.val j u hu
  exact⟨x,hx,(bV hσ he x).2 hv'⟩
section
variable {P:Program}
theorem C3{f:FuncId}{e:Ent}(he:rj P f e){m:List Nat}{args:List LV}{s:St}(hw:WF s)(h:fits e m args s=true):ir P (.call f args) s (e.ans m s).1 (e.ans m s).2:=by
 obtain⟨v1,s1,names,⟨hm1,hc1⟩,hk,hwr,hv,hnb,hna,hng⟩:=he
 unfold fits at h
 simp only[Bool.and_eq_true] at h
 obtain⟨ha,hb,hap,hnx⟩:=h
 have hnx:=Nat.le_of_ble_eq_true hnx
 have hkm:=kd hb
 have hnl:=kd hnb
 have hw1:WF s1:=hm1.wf (Bt e hk)
 have hblk:∀{i:Nat} {b:Blk},e.bF[i]?=some b→∃n c,m[i]?=some n∧s.heap.get n=some c∧eqB m b c=true:=fun hi=>kb hb hi
 have hmb:∀{i n:Nat},m[i]?=some n→∃b c,e.bF[i]?=some b∧s.heap.get n=some c∧eqB m b c=true:=by
  intro i n hi
  obtain⟨b,hbi⟩:=gG (l:=e.bF) (i:=i) (by rw[hkm];exact ie hi)
  obtain⟨n',c,h1,h2,h3⟩:=hblk hbi
  rw[hi] at h1;cases h1
  exact⟨b,c,hbi,h2,h3⟩
 have hml:∀{i n:Nat},m[i]?=some n→Live s.heap n:=by
  intro i n hi
  obtain⟨b,c,_,h2,_⟩:=hmb hi
  unfold Live;rw[h2];exact fun h=>by cases h
 have hmlt:∀{i n:Nat},m[i]?=some n→n<s.next:=fun hi=>bR hw (hml hi)
 generalize hg:kJ e.bF.length s.next m=g
 have hg1:∀{i n:Nat},m[i]?=some n→g i=n:=fun {i n} hi=>by rw[←hg];exact zh (by rw[hkm];exact ie hi) hi
 have hg2:∀{i:Nat},e.bF.length≤i→g i=s.next+(i-e.bF.length):=fun {i} hi=>by rw[←hg];exact zg hi
 have hans:e.ans m s=(.call (pP g e.v),jm g e.news (fB m s)):=by unfold Ent.ans;rw[hg]
 rw[hans]
 have hadd:=rI g e.news (fB m s) (by rw[ju];exact hnx)
 generalize jm g e.news (fB m s)=s' at hadd
 rw[ju,kK,mS] at hadd
 obtain⟨hn',ht',hf',hw',hh'⟩:=hadd
 have hold:∀n,n<s.next→s'.heap.get n=s.heap.get n:=fun n hn=>by rw[hh' n,if_neg (by omega)]
 have hout:∀n,s.next+e.news.length≤n→s'.heap.get n=none:=fun n hn=>by rw[hh' n,if_neg (by omega)];exact hw.none n (by omega)
 have hnew:∀j:Nat,j<e.news.length→s'.heap.get (s.next+j)=(e.news[j]?).map (tn g):=fun j hj=>by rw[hh' _,if_pos (by omega),Nat.add_sub_cancel_left]
 have hmt:=jr m s
 have hmono:ar s s':=by
  refine⟨ht',by omega,fun n hn=>by rw[hf'];exact hmt.fp n hn,fun n hn=>by rw[hw'];exact hmt.wr n hn,fun n h1 _ _=>hold n h1,fun n h1 h2=>by rw[hold n h1];exact h2,fun _=>⟨fun n hn=>hout n (by omega),by omega,by rw[ht'];have:=hw.thr;omega⟩,fun h1=>?_,fun h1=>?_⟩
  ·rw[hw',hf'];exact hmt.tQ h1
  ·rw[hf',ht',←kK m s];exact hmt.low h1
 refine⟨hmono,?_⟩
 intro G ρ w xs hG hr hfr hx
 have hGm:∀{i n:Nat},m[i]?=some n→G n:=by
  intro i n hi
  rcases Nat.lt_or_ge n s.thr with h1|h1
  ·exact hG.fp n (by rw[hf'];exact qI m s n (List.mem_of_getElem? hi) h1)
  ·exact hG.own n (by rw[ht'];exact h1) (by show n<s'.next;have:=hmlt hi;omega)
 let ρ1:Ren:=fun i=>(m[i]?).bind ρ
 have hρ1:∀i n:Nat,m[i]?=some n→ρ1 i=ρ n:=fun i n hi=>by show(m[i]?).bind ρ=_;rw[hi];rfl
 have hρ1n:∀i,e.bF.length≤i→ρ1 i=none:=fun i hi=>by show(m[i]?).bind ρ=_;rw[List.getElem?_eq_none (by omega)];rfl
 have hr1:aI (fun _=>True) ρ1 e.st.heap w:=by
  refine⟨fun i b _ hi=>?_,fun i j _ _ hi hj hij p q hp hq=>?_,hr.tz,fun i p _ hi hp=>?_⟩
  ·rw[tI e hk] at hi
   obtain⟨n,c,h1,h2,h3⟩:=hblk hi
   obtain⟨q1,q2,_⟩:=fJ h3
   obtain⟨p,cs,hB⟩:=(hr.rep n c (hGm h1) h2).cells q2
   exact dE.ofB q1 (Co hρ1 (hρ1 i n h1) h3 hB)
  ·cases hmi:m[i]? with
   |none=>
        have:ρ1 i=none:=by(show(m[i]?).bind ρ=_);rw[hmi];rfl
        rw[this] at hp;cases hp
   |some a=>
    cases hmj:m[j]? with
    |none=>
         have:ρ1 j=none:=by(show(m[j]?).bind ρ=_);rw[hmj];rfl
         rw[this] at hq;cases hq
    |some b=>
     rw[hρ1 i a hmi] at hp
     rw[hρ1 j b hmj] at hq
     exact hr.sep a b (hGm hmi) (hGm hmj) (hml hmi) (hml hmj) (fun hab=>hij (by subst hab;exact ka hap hmi hmj)) p q hp hq
  ·cases hmi:m[i]? with
   |none=>
        have:ρ1 i=none:=by(show(m[i]?).bind ρ=_);rw[hmi];rfl
        rw[this] at hp;cases hp
   |some a=>
    rw[hρ1 i a hmi] at hp
    exact hr.off a p (hGm hmi) (hml hmi) hp
 refine(hc1 (fun _=>True) ρ1 w xs ⟨fun _ _=>trivial,fun _ _ _=>trivial⟩ hr1 (fun n h1 _=>hρ1n n h1) ((x_ hρ1 ha _).2 hx)).mono ?_
 rintro e1 w' ⟨ρ1',x,rfl,hvx,hE⟩
 have hst:∀i:Nat,i<e.bF.length→s1.heap.get i=e.bF[i]?:=fun i hi=>by
  rw[hm1.same i hi hi (by rw[hwr];exact fun h=>by cases h),tI e hk]
 have hlive1:∀i,i<e.bF.length→Live s1.heap i:=fun i hi=>by
  obtain⟨b,hb⟩:=gG hi
  unfold Live;rw[hst i hi,hb];exact fun h=>by cases h
 have hρ1':∀i,i<e.bF.length→ρ1' i=ρ1 i:=fun i hi=>hE.out i (.inl hi)
 have hnm:∀{j n:Nat},names[j]?=some n→∃b c,e.news[j]?=some b∧s1.heap.get n=some c∧eqB (List.range e.bF.length++names) b c=true:=by
  intro j n hj
  obtain⟨b,hbj⟩:=gG (l:=e.news) (i:=j) (by rw[hnl];exact ie hj)
  obtain⟨n',c,h1,h2,h3⟩:=kb hnb hbj
  rw[hj] at h1;cases h1
  exact⟨b,c,hbj,h2,h3⟩
 have hnlive:∀{j n:Nat},names[j]?=some n→Live s1.heap n:=by
  intro j n hj
  obtain⟨b,c,_,h2,_⟩:=hnm hj
  unfold Live;rw[h2];exact fun h=>by cases h
 let ρ':Ren:=fun n=>if s.next≤n∧n<s'.next then (names[n-s.next]?).bind ρ1' else ρ n
 have hρo:∀n,(n<s.next∨s'.next≤n)→ρ' n=ρ n:=fun n hn=>if_neg (by omega)
 have hρn:∀j n:Nat,names[j]?=some n→ρ' (s.next+j)=ρ1' n:=fun j n hj=>by
  have hl:=ie hj
  show(if s.next≤s.next+j∧s.next+j<s'.next then (names[s.next+j-s.next]?).bind ρ1' else ρ (s.next+j))=_
  rw[if_pos (by omega),Nat.add_sub_cancel_left,hj];rfl
 have hle:ρ.le ρ':=by
  intro n p hp
  by_cases h:s.next≤n∧n<s'.next
  ·rw[hfr n h.1 h.2] at hp;cases hp
  ·rw[hρo n (by omega)];exact hp
 have hσ:∀i n:Nat,(List.range e.bF.length++names)[i]?=some n→ρ' (g i)=ρ1' n:=by
  intro i n hi
  rcases Nat.lt_or_ge i e.bF.length with h1|h1
  ·rw[uh h1] at hi
   cases hi
   obtain⟨b,hb⟩:=gG (l:=m) (i:=i) (by omega)
   rw[hg1 hb,hρo b (.inl (hmlt hb)),hρ1' i h1,hρ1 i b hb]
  ·rw[ug h1] at hi
   rw[hg2 h1]
   exact hρn _ _ hi
 have hfresh:∀{j n:Nat} {p:Pl},names[j]?=some n→ρ1' n=some p→w.heap.size≤p.blk:=by
  intro j n p hj hp
  have hge:e.bF.length≤n:=hng n (List.mem_of_getElem? hj)
  rcases hE.fresh n p hge (bR hw1 (hnlive hj)) (hnlive hj) hp with h1|⟨i,q,_,hi,_,hq,hqp⟩
  ·exact h1
  ·have hi:i<e.bF.length:=hi
   exact absurd hqp (hE.rep.sep i n trivial trivial (hlive1 i hi) (hnlive hj) (by omega) q p (by rw[hρ1' i hi];exact hq) hp)
 have hnewR:∀n b,s.next≤n→s'.heap.get n=some b→∃j n1:Nat,n=s.next+j∧names[j]?=some n1∧ρ' n=ρ1' n1∧dE ρ' w' n b:=by
  intro n b h1 h2
  have hlt:n<s.next+e.news.length:=by
   rcases Nat.lt_or_ge n (s.next+e.news.length) with h|h
   ·exact h
   ·rw[hout n h] at h2;cases h2
  obtain⟨j,rfl⟩:∃j,n=s.next+j:=⟨n-s.next,by omega⟩
  obtain⟨n1,hn1⟩:=gG (l:=names) (i:=j) (by omega)
  obtain⟨nb,c,q1,q2,q3⟩:=hnm hn1
  rw[hnew j (by omega),q1] at h2
  cases h2
  obtain⟨p,cs,hB⟩:=(hE.rep.rep n1 c trivial q2).cells (fJ q3).2.1
  exact⟨j,n1,rfl,hn1,hρn j n1 hn1,dE.ofB rfl (AS hσ (hρn j n1 hn1) q3 hB)⟩
 refine⟨ρ',x,rfl,(r_ hσ hv x).2 hvx,⟨hρo,⟨fun n b hGn hgn=>?_,fun n n' hGn hGn' hl hl' hne p q hp hq=>?_,hE.rep.tz,fun n p hGn hl hp e=>?_⟩,fun b hbl hb=>?_,hE.size,hE.os,hE.tape,hE.output,fun n p h1 h2 hl hp=>?_⟩⟩
 ·rcases Nat.lt_or_ge n s.next with h1|h1
  ·rw[hold n h1] at hgn
   have hR:=hr.rep n b hGn hgn
   by_cases hin:∃i:Nat,m[i]?=some n
   ·obtain⟨i,hi⟩:=hin
    obtain⟨eb,c,q1,q2,q3⟩:=hmb hi
    rw[hgn] at q2;cases q2
    have hik:=ie q1
    obtain⟨p,cs,hB⟩:=(hE.rep.rep i eb trivial (by rw[hst i hik];exact q1)).cells (fJ q3).1
    refine dE.ofB (fJ q3).2.1 (AT (σ:=ρ1') (fun i' n' hi'=>?_) ?_ q3 hB)
    ·rw[hρ1' i' (by rw[hkm];exact ie hi'),hρ1 i' n' hi',hρo n' (.inl (hmlt hi'))]
    ·rw[hρ1' i hik,hρ1 i n hi,hρo n (.inl h1)]
   ·refine hR.dm hle fun p hp=>hE.frame p.blk (hR.lt hp) fun i q _ _ hq=>?_
    cases hmi:m[i]? with
    |none=>
         have:ρ1 i=none:=by(show(m[i]?).bind ρ=_);rw[hmi];rfl
         rw[this] at hq;cases hq
    |some a=>
     rw[hρ1 i a hmi] at hq
     refine hr.sep a n (hGm hmi) hGn (hml hmi) ?_ (fun h=>hin ⟨i,by rw[hmi,h]⟩) q p hq hp
     unfold Live;rw[hgn];exact fun h=>by cases h
  ·obtain⟨j,n1,_,_,_,h⟩:=hnewR n b h1 hgn
   exact h
 ·obtain⟨b,hb⟩:=iA hl
  obtain⟨b',hb'⟩:=iA hl'
  have old_lt:∀{n:Nat} {b:Blk} {p:Pl},G n→n<s.next→s'.heap.get n=some b→ρ' n=some p→p.blk<w.heap.size:=by
   intro n b p hGn h1 h2 h3
   rw[hold n h1] at h2
   rw[hρo n (.inl h1)] at h3
   exact(hr.rep n b hGn h2).lt h3
  have new_ge:∀{n:Nat} {b:Blk} {p:Pl},s.next≤n→s'.heap.get n=some b→ρ' n=some p→w.heap.size≤p.blk:=by
   intro n b p h1 h2 h3
   obtain⟨j,n1,_,q2,q3,_⟩:=hnewR n b h1 h2
   rw[q3] at h3
   exact hfresh q2 h3
  rcases Nat.lt_or_ge n s.next with h1|h1<;>rcases Nat.lt_or_ge n' s.next with h2|h2
  ·refine hr.sep n n' hGn hGn' ?_ ?_ hne p q ?_ ?_
   ·unfold Live;rw[←hold n h1,hb];exact fun h=>by cases h
   ·unfold Live;rw[←hold n' h2,hb'];exact fun h=>by cases h
   ·rw[←hρo n (.inl h1)];exact hp
   ·rw[←hρo n' (.inl h2)];exact hq
  ·have:=old_lt hGn h1 hb hp
   have:=new_ge h2 hb' hq
   omega
  ·have:=old_lt hGn' h2 hb' hq
   have:=new_ge h1 hb hp
   omega
  ·obtain⟨j,n1,e1,q2,q3,_⟩:=hnewR n b h1 hb
   obtain⟨j',n1',e1',q2',q3',_⟩:=hnewR n' b' h2 hb'
   rw[q3] at hp
   rw[q3'] at hq
   refine hE.rep.sep n1 n1' trivial trivial (hnlive q2) (hnlive q2') (fun h=>hne ?_) p q hp hq
   subst h
   have:=ka hna q2 q2'
   omega
 ·obtain⟨b,hb⟩:=iA hl
  rcases Nat.lt_or_ge n s.next with h1|h1
  ·refine hr.off n p hGn ?_ (by rw[←hρo n (.inl h1)];exact hp) e
   unfold Live;rw[←hold n h1,hb];exact fun h=>by cases h
  ·obtain⟨j,n1,_,q2,q3,_⟩:=hnewR n b h1 hb
   rw[q3] at hp
   have h2:=hfresh q2 hp
   have h3:=hr.tz.lt e
   omega
 ·refine hE.frame b hbl fun i q _ _ hq=>?_
  cases hmi:m[i]? with
  |none=>
       have:ρ1 i=none:=by(show(m[i]?).bind ρ=_);rw[hmi];rfl
       rw[this] at hq;cases hq
  |some a=>
   rw[hρ1 i a hmi] at hq
   exact hb a q (hGm hmi) (hml hmi) hq
 ·obtain⟨b,hb⟩:=iA hl
  obtain⟨j,n1,_,q2,q3,_⟩:=hnewR n b h1 hb
  rw[q3] at hp
  exact .inl (hfresh q2 hp)
end
end Go.Proofs.YtfnkomoickanfaaGreatDoor.Ev
