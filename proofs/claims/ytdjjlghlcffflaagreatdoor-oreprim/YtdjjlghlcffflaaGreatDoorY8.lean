/- Own. -/
import Derived.Test.YtdjjlghlcffflaaGreatDoorZ7
set_option linter.unusedVariables false
set_option linter.unusedSimpArgs false
set_option maxHeartbeats 8000000
set_option maxRecDepth 100000
namespace Go.Proofs.YtdjjlghlcffflaaGreatDoor
open Go.RowKit
def Ax.nvz(K:Nat)(z:Int):Ax:=⟨fun _ v w=>∃u,v=.agg #[.bool (Ent.s u),.slice u.p u.n u.c]/\NV 0 w K z u,fun⟨u,a,h⟩ hb=>⟨u,a,h.below hb⟩,fun h _=>h,fun h _=>h⟩
variable {K:Nat} {z:Int}
theorem oA{f:Nat}{args:Array Value}{v:World}{X:Nat->Prop}(h:Calls Tryz.prog f args v fun r w'=>∃u:Ent,r=.returned (.agg #[.bool u.s,.slice u.p u.n u.c])/\NV v.heap.size w' K z u/\Below v.heap.size v w'):Calls Tryz.prog f args v fun e w'=>∃u,e=.returned u/\(Ax.nvz K z).is X u w'/\Below v.heap.size v w':=by
 refine h.mono ?_;rintro e w' ⟨u,rfl,h1,hb⟩;exact⟨_,rfl,⟨u,rfl,h1.mono (Jz _)⟩,hb⟩
theorem Hc{f:Nat}{args:Array Value}{v:World}{x:Value}{X:Nat->Prop}(h:Calls Tryz.prog f args v fun r w'=>r=.returned x/\v=w'):Calls Tryz.prog f args v fun e w'=>∃u,e=.returned u/\(Ax.val x).is X u w'/\Below v.heap.size v w':=by
 refine h.mono ?_;rintro e w' ⟨rfl,rfl⟩;exact⟨_,rfl,rfl,Jt _ _⟩
def chg(m:Nat)(M:Int)(e r:Nat->Int)(i:Nat):Bool:=(List.range i).any fun j=>decide (Cr.dE m M (e j) (r j)≠0)
theorem Dt(m:Nat)(M:Int)(e r:Nat->Int):chg m M e r 0=false:=rfl
theorem v_(m:Nat)(M:Int)(e r:Nat->Int)(i:Nat):chg m M e r (i+1)=(chg m M e r i||decide (Cr.dE m M (e i) (r i)≠0)):=by
 unfold chg;rw[List.range_succ,List.any_append];simp
def tkv(m:Nat)(M:Int)(e r:Nat->Int)(i j:Nat):Int:=if j<i then Cr.nxt m M (e j) (r j) else e j
structure TkI(lo:Nat)(w wr:World)(g gE gr n m:Nat)(u:Ent)(M:Int)(e r:Nat->Int)(rs:List Int)(i:Nat)(es:List Ent):Prop where
 im:eK wr g (some ⟨gE,0,none⟩) n u
 row:bA wr gE 50 es
 el:es.length=n
 mo:NV 0 wr 70 M u
 ev:∀j,j<n->NV 0 wr 70 (tkv m M e r i j) (ge es j)
 rr:Row wr gr 128 .u64 rs
 bw:Below lo w wr
variable {w:World} {g n:Nat} {p:Option Addr}
theorem eK.noc{u:Ent}(h:eK w g p n u)(o:Nat)(y:Int):w.cell? ⟨g,o,none⟩≠some (.int .u32 y):=fun hc=>by
 rw[cell_of_row w g o _ 140 (0,0) h] at hc
 rcases o with _|_|_|o
 ·cases hc
 ·cases hc
 ·cases hc
 ·simp at hc
variable {t:TypeId} {es:List Ent}
theorem bA.noc(h:bA w g t es)(o:Nat)(y:Int):w.cell? ⟨g,o,none⟩≠some (.int .u32 y):=fun hc=>by
 rw[cell_of_row w g o _ t (0,0) h] at hc
 rcases Ju (o/2) es.length with h1|h1
 ·obtain⟨h2,h3⟩:=gn es (o/2) h1
  simp only[ca2,List.getElem?_toArray] at hc
  rcases Nat.mod_two_eq_zero_or_one o with h4|h4
  ·rw[show o=o/2*2 by omega,h2] at hc;cases hc
  ·rw[show o=o/2*2+1 by omega,h3] at hc;cases hc
 ·rw[Array.getElem?_eq_none (by rw[rK];omega)] at hc
  cases hc
variable {lo gE gr m i:Nat} {wr w':World} {rs:List Int}
theorem TkI.later{u:Ent}{M:Int}{e r:Nat->Int}(h:TkI lo w wr g gE gr n m u M e r rs i es)(hb:Below wr.heap.size wr w')(hlo:lo<=w.heap.size):TkI lo w w' g gE gr n m u M e r rs i es:=
 ⟨h.im.below hb h.im.lt,h.row.below hb h.row.lt,h.el,h.mo.below hb,fun j hj=>(h.ev j hj).below hb,h.rr.below hb h.rr.lt,h.bw.trans (hb.mono (by have:=h.bw.size;omega))⟩
variable {B n0:Nat} {f:Ent}
theorem NV.setv(h:NV B w K z f){b c0:Nat}{s0:Bool}{p0:Option Addr}(hb:w.heap[b]?=some (.cells #[.bool s0,.slice p0 n0 c0] t (0,0)))(s:Bool)(p:Option Addr)(n c:Nat):NV B ((w.setCell ⟨b,0,none⟩ (.bool s)).setCell ⟨b,1,none⟩ (.slice p n c)) K z f:=by
 have noc:∀{v:World} {s1:Bool} {p1:Option Addr} {n1 c1:Nat},v.heap[b]?=some (.cells #[.bool s1,.slice p1 n1 c1] t (0,0))->∀(o:Nat) (y:Int),v.cell? ⟨b,o,none⟩≠some (.int .u32 y):=fun {v s1 p1 n1 c1} hv o y hc=>by
  rw[cell_of_row v b o _ t (0,0) hv] at hc
  rcases o with _|_|o
  ·cases hc
  ·cases hc
  ·simp at hc
 exact(h.uj _ (noc hb)).uj _ (noc (heap_setCell_same w b 0 _ t (.bool s) hb))
theorem TkI.put{u v:Ent}{M:Int}{e r:Nat->Int}(h:TkI lo w wr g gE gr n m u M e r rs i es)(hi:i<n)(h1:g≠gE)(h2:gr≠gE)(hlo:lo<=gE)(hv:NV 0 wr 70 (Cr.nxt m M (e i) (r i)) v):
  TkI lo w ((wr.setCell ⟨gE,i*2,none⟩ (.bool v.s)).setCell ⟨gE,i*2+1,none⟩ (.slice v.p v.n v.c)) g gE gr n m u M e r rs (i+1) (es.set i v):=by
 have hR:=h.row.set i v (by rw[h.el];exact hi)
 have hno:=h.row.noc;have hno2:∀(o:Nat) (y:Int),(wr.setCell ⟨gE,i*2,none⟩ (.bool v.s)).cell? ⟨gE,o,none⟩≠some (.int .u32 y):=fun o y hc=>by
  have h3:=heap_setCell_same wr gE (i*2) _ 50 (.bool v.s) h.row;rw[cell_of_row _ gE o _ 50 (0,0) h3] at hc
  by_cases ho:o=i*2
  ·subst ho
   simp only[Array.getElem?_setIfInBounds] at hc
   simp at hc
  ·rw[Array.getElem?_setIfInBounds_ne (by omega)] at hc
   refine hno o y ?_;rw[cell_of_row wr gE o _ 50 (0,0) h.row];exact hc
 have mv:∀{K:Nat} {z:Int} {f:Ent},NV 0 wr K z f->NV 0 ((wr.setCell ⟨gE,i*2,none⟩ (.bool v.s)).setCell ⟨gE,i*2+1,none⟩ (.slice v.p v.n v.c)) K z f:=fun hf=>(hf.uj _ hno).uj _ hno2
 refine⟨?_,hR,by rw[List.length_set];exact h.el,mv h.mo,fun j hj=>?_,(h.rr.ah _ _ (by simpa using h2)).ah _ _ (by simpa using h2),cF (cF h.bw hlo) hlo⟩
 ·exact(heap_setCell_other _ _ g _ (by simpa using h1)).trans ((heap_setCell_other _ _ g _ (by simpa using h1)).trans h.im)
 ·by_cases hij:j=i
  ·subst hij
   rw[cR _ _ _ (by rw[h.el];exact hi)]
   unfold tkv;rw[if_pos (by omega)]
   exact mv hv
  ·rw[cG _ _ _ _ hij]
   have h4:=h.ev j hj;have e4:tkv m M e r (i+1) j=tkv m M e r i j:=by
    unfold tkv;by_cases h5:j<i
    ·rw[if_pos h5,if_pos (by omega)]
    ·rw[if_neg h5,if_neg (by omega)]
   rw[e4];exact mv h4
theorem TkI.mod{u v:Ent}{M M':Int}{e r:Nat->Int}(h:TkI lo w wr g gE gr n m u M e r rs n es)(h1:g≠gE)(h3:gr≠g)(hlo:lo<=g)(hv:NV 0 wr 70 M' v):
  TkI lo w ((wr.setCell ⟨g,1,none⟩ (.bool v.s)).setCell ⟨g,2,none⟩ (.slice v.p v.n v.c)) g gE gr n m v M' (fun j=>Cr.nxt m M (e j) (r j)) r rs 0 es:=by
 have hI1:(wr.setCell ⟨g,1,none⟩ (.bool v.s)).heap[g]?=some (.cells #[.slice (some ⟨gE,0,none⟩) n n,.bool v.s,.slice u.p u.n u.c] 140 (0,0)):=heap_setCell_same wr g 1 _ 140 (.bool v.s) h.im;have hI2:((wr.setCell ⟨g,1,none⟩ (.bool v.s)).setCell ⟨g,2,none⟩ (.slice v.p v.n v.c)).heap[g]?=some (.cells #[.slice (some ⟨gE,0,none⟩) n n,.bool v.s,.slice v.p v.n v.c] 140 (0,0)):=heap_setCell_same _ g 2 _ 140 (.slice v.p v.n v.c) hI1;have hno:=h.im.noc;have hno2:∀(o:Nat) (y:Int),(wr.setCell ⟨g,1,none⟩ (.bool v.s)).cell? ⟨g,o,none⟩≠some (.int .u32 y):=fun o y hc=>by
  rw[cell_of_row _ g o _ 140 (0,0) hI1] at hc
  rcases o with _|_|_|o
  ·cases hc
  ·cases hc
  ·cases hc
  ·simp at hc
 have mv:∀{K:Nat} {z:Int} {f:Ent},NV 0 wr K z f->NV 0 ((wr.setCell ⟨g,1,none⟩ (.bool v.s)).setCell ⟨g,2,none⟩ (.slice v.p v.n v.c)) K z f:=fun hf=>(hf.uj _ hno).uj _ hno2
 refine⟨hI2,(h.row.ah _ _ (by simpa using Ne.symm h1)).ah _ _ (by simpa using Ne.symm h1),h.el,mv hv,fun j hj=>?_,(h.rr.ah _ _ (by simpa using h3)).ah _ _ (by simpa using h3),cF (cF h.bw hlo) hlo⟩
 have h4:=mv (h.ev j hj);unfold tkv at h4 ⊢
 rw[if_pos hj] at h4
 rw[if_neg (by omega)]
 exact h4
theorem TkI.eN{u:Ent}{M:Int}{e r:Nat->Int}(h:TkI lo w wr g gE gr n m u M e r rs i es)(hl:Cr.dE m M (e i) (r i)=0):TkI lo w wr g gE gr n m u M e r rs (i+1) es:=
 ⟨h.im,h.row,h.el,h.mo,fun j hj=>by
  have h4:=h.ev j hj;have e4:tkv m M e r (i+1) j=tkv m M e r i j:=by
   unfold tkv;by_cases h5:j<i
   ·rw[if_pos h5,if_pos (by omega)]
   ·rw[if_neg h5]
    split
    ·obtain rfl:j=i:=by omega
     exact Cr.wZ hl
    ·rfl
  rw[e4];exact h4,h.rr,h.bw⟩
theorem E0(lo g gE gr n m:Nat)(u:Ent)(M:Int)(e:Nat->Int)(rs:List Int)(es:List Ent)(w:World)(hlo:lo<=w.heap.size)(hg:lo<=g)(hgE:lo<=gE)(h1:g≠gE)(h2:gr≠gE)(h3:gr≠g)(hn:n<=1000)(hm:3<=m)(hm2:m<=2147483647)
  (hI:TkI lo w w g gE gr n m u M e (gx rs) rs 0 es) (hrl:rs.length=n) (hr:∀j,0<=gx rs j/\gx rs j<m) (hN:∀j,j<n->((Cr.nxt m M (e j) (gx rs j)).natAbs:Int)<pw 70) (hMm:((M*m).natAbs:Int)<pw 70):
  Calls Tryz.prog 130 #[.pointer (some ⟨g,0,none⟩),.int .u64 m,.slice (some ⟨gr,0,none⟩) n n] w fun x w'=>∃(u':Ent) (es':List Ent),x=.returned (.bool (chg m M e (gx rs) n))/\TkI lo w w' g gE gr n m u' (M*m) (fun j=>Cr.nxt m M (e j) (gx rs j)) (gx rs) rs 0 es':=by
 have HX:Hid ((∀j,0<=gx rs j/\gx rs j<m)/\(∀j,j<n->((Cr.nxt m M (e j) (gx rs j)).natAbs:Int)<pw 70)/\((M*m).natAbs:Int)<pw 70/\rs.length=n):=⟨hr,hN,hMm,hrl⟩;clear hr hN hMm hrl;have HI0:=(show Hid _ from hI)
 clear hI;obtain⟨I,hIv⟩:∃I,I=(M%(m:Int))^(m-2)%(m:Int):=⟨_,rfl⟩;have i0:0<=I/\I<m:=by rw[hIv];exact⟨Int.emod_nonneg _ (by omega),JK _ (by omega)⟩
 have HIV:=(show Hid _ from hIv)
 clear hIv;go_enter Tryz.func130,Tryz.ntmps130;have c1:=HI0.out.im.c1;have c2:=HI0.out.im.c2;have hof:=vG (HI0.out.mo.ev (by decide)) (m:Int) (by omega) (by omega)
 go_wp2_with fail;refine hof.mono ?_;rintro x w1 ⟨rfl,hb1⟩;have hinv:=qj m (M%(m:Int)) w1 (by omega) hm2 (Int.emod_nonneg _ (by omega)) (JK _ (by omega))
 go_wp2_with fail;refine hinv.mono ?_;rintro x w2 ⟨rfl,rfl⟩;rw[<-HIV.out];have HI1:=(show Hid _ from HI0.out.later hb1 hlo)
 clear HI0 hof hinv c1 c2 hb1;go_wp2_with fail;go_loopw [7,9,10,11,12,23] (fun cv _ _ _ _ iv wr=>∃(i:Nat) (es:List Ent),i<=n/\iv=.int .i64 i/\cv=.bool (chg m M e (gx rs) i)/\Hid (TkI lo w wr g gE gr n m u M e (gx rs) rs i es)) (fun _ _ _ _ _ iv _=>n-(intOf iv).toNat)
 case atStart=>exact⟨0,es,Jz _,by go_num,by rw[Dt],HI1.out⟩
 case round=>
  clear HI1;obtain⟨i,es,hi,rfl,rfl,H⟩:=hrel;rcases Ju i n with hlt|hge
  ·have i1:(i:Int)<(n:Int):=by omega
   have x0:=H.out.rr.cell i (by have:=HX.out.2.2.2;omega)
   have c0:=H.out.im.c0;obtain⟨y0,y1⟩:=H.out.row.cell i (by rw[H.out.el];exact hlt)
   have he:tkv m M e (gx rs) i i=e i:=by unfold tkv;rw[if_neg (Nat.lt_irrefl i)]
   have hev:=H.out.ev i hlt;rw[he] at hev
   have hof:=vG (hev.ev (by decide)) (m:Int) (by omega) (by omega)
   clear he hev;go_wp2_with fail;go_fit hof;rintro x w1 ⟨rfl,hb1⟩;clear hof;obtain⟨r0,r1⟩:=HX.out.1 i;have hmi:=uN (m:Int) (gx rs i) (e i%(m:Int)) w1 (by omega) (by omega) r0 r1 (Int.emod_nonneg _ (by omega)) (JK _ (by omega))
   go_wp2_with fail;go_fit hmi;rintro x w2 ⟨rfl,rfl⟩;clear hmi;have e5:(gx rs i-e i%(m:Int))%(m:Int)=(gx rs i-e i)%(m:Int):=by rw[Int.sub_emod,Int.emod_emod,<-Int.sub_emod]
   have hti:=gZ (m:Int) ((gx rs i-e i%(m:Int))%(m:Int)) I w1 (by omega) (by omega) (Int.emod_nonneg _ (by omega)) (JK _ (by omega)) i0.1 i0.2
   obtain⟨lk,hlk⟩:∃lk:Nat,(gx rs i-e i%(m:Int))%(m:Int)*I%(m:Int)=(lk:Int):=⟨((gx rs i-e i%(m:Int))%(m:Int)*I%(m:Int)).toNat,by have:=Int.emod_nonneg ((gx rs i-e i%(m:Int))%(m:Int)*I) (show(m:Int)≠0 by omega);omega⟩
   have hlkm:lk<m:=by have:=JK ((gx rs i-e i%(m:Int))%(m:Int)*I) (show(0:Int)<(m:Int) by omega);omega
   have HL:Hid (Cr.dE m M (e i) (gx rs i)=(lk:Int)):=by
    show _=_
    rw[<-hlk,HIV.out];rfl
   rw[hlk,e5] at hti
   clear hlk e5;go_wp2_with fail;go_fit hti;rintro x w2 ⟨rfl,rfl⟩;have H1:=(show Hid _ from H.out.later hb1 hlo)
   clear hti H x0 c0 y0 y1 r0 r1 hb1;have v2:IntKind.i64.wrap ((i:Int)+1)=((i+1:Nat):Int):=by rw[IntKind.wrap_i64];omega
   rcases Jw lk with h0|h0
   ·have l0:¬(0:Int)<(lk:Int):=by omega
    have HK:Hid (TkI lo w w1 g gE gr n m u M e (gx rs) rs (i+1) es/\chg m M e (gx rs) (i+1)=chg m M e (gx rs) i):=by
     have hz:Cr.dE m M (e i) (gx rs i)=0:=by rw[HL.out,h0];rfl
     exact⟨H1.out.eN hz,by rw[v_,hz];simp⟩
    clear H1 HL h0;go_wp2;go_round
    case rel=>exact⟨i+1,es,by omega,by go_num,by rw[HK.out.2],HK.out.1⟩
    case measure=>simp[intOf];omega
   ·have l0:(0:Int)<(lk:Int):=by omega
    clear h0;have c1:=H1.out.im.c1;have c2:=H1.out.im.c2;go_wp2_with fail;obtain⟨nb0,nb1⟩:-9223372036854775808<=nea m lk/\nea m lk<=9223372036854775807:=by unfold nea;split<;>omega
    refine oM 10 [(0,45),(1,46),(2,47),(3,48),(4,49),(5,50),(6,51),(7,52),(8,53),(9,12)] [9] []
     [Ax.val (Value.pointer (some {block:=g,off:=0})),Ax.val (Value.pointer (some {block:=g,off:=0})),Ax.val (Value.pointer (some {block:=g,off:=1})),Ax.val (Value.agg #[Value.bool u.s,Value.slice u.p u.n u.c]),Ax.val (Value.int IntKind.u64 ↑m),Ax.val (Value.int IntKind.u64 ↑lk),Ax.val (Value.int IntKind.i64 (nea m lk)),Ax.nvz 2 (nea m lk),Ax.nvz 72 (M*nea m lk),Ax.var w1.heap.size (.cells #[.bool false,.slice none 0 0] 50)]
     (by kernel_rfl) (by kernel_rfl) (by kernel_rfl) trivial (by kernel_rfl) (by decide) (by decide) (by rfl) ?_ ?_
    ·refine⟨fun _=>?_,fun _=>?_,fun _=>?_,fun _=>?_,fun _=>?_,fun _=>?_,fun _=>?_,fun _=>?_,fun _=>?_,fun _=>?_,fun h=>absurd h (by decide),trivial⟩
     ·exact bD rfl fun X ρ v R=>⟨_,by simp[execOp,go_sem],R.old 0 (by decide)⟩
     ·exact bD rfl fun X ρ v R=>by
       have e45:ρ (.tmp 45)=Value.pointer (some {block:=g,off:=0}):=R.dep 0 45 (by decide) rfl rfl
       exact⟨_,by simp[execOp,go_sem,e45],rfl⟩
     ·exact bD rfl fun X ρ v R=>by
       have e46:ρ (.tmp 46)=Value.pointer (some {block:=g,off:=0}):=R.dep 1 46 (by decide) rfl rfl
       exact⟨_,by simp[execOp,go_sem,e46],rfl⟩
     ·exact bD rfl fun X ρ v R=>by
       have e47:ρ (.tmp 47)=Value.pointer (some {block:=g,off:=1}):=R.dep 2 47 (by decide) rfl rfl
       have x0:=cell_later R.b c1;have x1:=cell_later R.b c2;exact⟨_,by simp[execOp,go_sem,e47,x0,x1],rfl⟩
     ·exact bD rfl fun X ρ v R=>⟨_,by simp[execOp,go_sem],R.old 1 (by decide)⟩
     ·exact bD rfl fun X ρ v R=>⟨_,by simp[execOp,go_sem],R.old 11 (by decide)⟩
     ·exact jX 173 rfl fun X ρ v R=>by
       have e49:ρ (.tmp 49)=Value.int IntKind.u64 ↑m:=R.dep 4 49 (by decide) rfl rfl
       have e50:ρ (.tmp 50)=Value.int IntKind.u64 ↑lk:=R.dep 5 50 (by decide) rfl rfl
       exact⟨_,by simp[execOp,go_sem,e49,e50,R.fn],Hc (yz m lk v (by omega) hlkm)⟩
     ·exact jX 68 rfl fun X ρ v R=>by
       have e51:ρ (.tmp 51)=Value.int IntKind.i64 (nea m lk):=R.dep 6 51 (by decide) rfl rfl
       exact⟨_,by simp[execOp,go_sem,e51,R.fn],oA (Dn (nea m lk) v (by omega) (by omega))⟩
     ·exact jX 134 rfl fun X ρ v R=>by
       have e48:ρ (.tmp 48)=Value.agg #[Value.bool u.s,Value.slice u.p u.n u.c]:=R.dep 3 48 (by decide) rfl rfl
       obtain⟨u52,e52,H52⟩:=R.dep 7 52 (by decide) rfl rfl
       exact⟨_,by simp[execOp,go_sem,e48,e52,R.fn],oA (yO ((H1.out.mo.below R.b).ev (by decide)) (H52.ev (by decide)) (by decide) (by decide))⟩
     ·exact Iz (.cells #[.bool false,.slice none 0 0] 50) rfl fun X ρ v R=>by simp[execOp,go_sem]
    intro vals w2 hb2 hv;have e_0:vals 0=Value.pointer (some {block:=g,off:=0}):=hv (0,45) (by decide)
    have e_1:vals 1=Value.pointer (some {block:=g,off:=0}):=hv (1,46) (by decide)
    have e_2:vals 2=Value.pointer (some {block:=g,off:=1}):=hv (2,47) (by decide)
    have e_3:vals 3=Value.agg #[Value.bool u.s,Value.slice u.p u.n u.c]:=hv (3,48) (by decide)
    have e_4:vals 4=Value.int IntKind.u64 ↑m:=hv (4,49) (by decide)
    have e_5:vals 5=Value.int IntKind.u64 ↑lk:=hv (5,50) (by decide)
    have e_6:vals 6=Value.int IntKind.i64 (nea m lk):=hv (6,51) (by decide)
    obtain⟨u_7,e_7,H_7⟩:=hv (7,52) (by decide)
    obtain⟨u_8,e_8,H_8⟩:=hv (8,53) (by decide)
    obtain⟨b_9,e_9,l_9,g_9,x_9⟩:=hv (9,12) (by decide)
    refine od (o:={dst:=none,op:=Op.store 50 (Operand.tmp 12) (Operand.tmp 53),type:=0,pos := "divisor.go:79",after:=#[{on:=9,ground:=Ground.data},{on:=8,ground:=Ground.data},{on:=8,ground:=Ground.chain},{on:=0,ground:=Ground.phase},{on:=1,ground:=Ground.phase},{on:=2,ground:=Ground.phase},{on:=3,ground:=Ground.phase},{on:=4,ground:=Ground.phase},{on:=5,ground:=Ground.phase},{on:=6,ground:=Ground.phase},{on:=7,ground:=Ground.phase},{on:=8,ground:=Ground.phase},{on:=9,ground:=Ground.phase}],guard:=none}) rfl ?_
    simp only[List.foldl,e_0,e_1,e_2,e_3,e_4,e_5,e_6,e_7,e_8,e_9,List.setIfInBounds_toArray,List.set_cons_succ,List.set_cons_zero];clear hv e_0 e_1 e_2 e_3 e_4 e_5 e_6 e_7 e_8 e_9;have y0:w2.cell? ⟨b_9,0,none⟩=some (.bool false):=by rw[cell_of_row w2 b_9 0 _ 50 (0,0) g_9];rfl
    have y1:w2.cell? ⟨b_9,1,none⟩=some (.slice none 0 0):=by rw[cell_of_row w2 b_9 1 _ 50 (0,0) g_9];rfl
    have f0:w2.frozen? ⟨b_9,0,none⟩=false:=frozen_of_row w2 b_9 0 _ 50 g_9;have f1:w2.frozen? ⟨b_9,1,none⟩=false:=frozen_of_row w2 b_9 1 _ 50 g_9;unfold Oper.wp;simp[execOp,go_sem,y0,y1,f0,f1];have hB3:Bx ((w2.setCell ⟨b_9,0,none⟩ (.bool u_8.s)).setCell ⟨b_9,1,none⟩ (.slice u_8.p u_8.n u_8.c)) b_9 (.bool u_8.s) (.slice u_8.p u_8.n u_8.c):=eg ⟨y0,y1,f0,f1⟩;have hN3:=H_8.setv g_9 u_8.s u_8.p u_8.n u_8.c;have hW3:Below w1.heap.size w1 ((w2.setCell ⟨b_9,0,none⟩ (.bool u_8.s)).setCell ⟨b_9,1,none⟩ (.slice u_8.p u_8.n u_8.c)):=cF (cF hb2 l_9) l_9;have H3:=(show Hid _ from H1.out.later hW3 hlo)
    clear y0 y1 f0 f1 H_7 H_8 hb2 g_9 x_9 c1 c2 H1 hW3;generalize (w2.setCell ⟨b_9,0,none⟩ (.bool u_8.s)).setCell ⟨b_9,1,none⟩ (.slice u_8.p u_8.n u_8.c)=w3 at *
    obtain⟨s0,s1,-,-⟩:=hB3;have c0:=H3.out.im.c0;obtain⟨y0,y1⟩:=H3.out.row.cell i (by rw[H3.out.el];exact hlt)
    have he:tkv m M e (gx rs) i i=e i:=by unfold tkv;rw[if_neg (Nat.lt_irrefl i)]
    have hev:=H3.out.ev i hlt;rw[he] at hev
    go_wp2_with fail;refine oM 15 [(0,54),(1,55),(2,56),(3,57),(4,58),(5,59),(6,60),(7,61),(8,62),(9,63),(10,64),(11,65),(12,66),(13,67),(14,68)] [] []
     [Ax.val (Value.pointer (some {block:=g,off:=0})),Ax.val (Value.pointer (some {block:=g,off:=0})),Ax.val (Value.pointer (some {block:=g,off:=0})),Ax.val (Value.slice (some {block:=gE,off:=0}) n n),Ax.val (Value.int IntKind.i64 ↑i),Ax.val (Value.pointer (some {block:=g,off:=0})),Ax.val (Value.pointer (some {block:=g,off:=0})),Ax.val (Value.pointer (some {block:=g,off:=0})),Ax.val (Value.slice (some {block:=gE,off:=0}) n n),Ax.val (Value.int IntKind.i64 ↑i),Ax.val (Value.pointer (some {block:=gE,off:=i*2})),Ax.val (Value.agg #[Value.bool (ge es i).s,Value.slice (ge es i).p (ge es i).n (ge es i).c]),Ax.val (Value.agg #[Value.bool u_8.s,Value.slice u_8.p u_8.n u_8.c]),Ax.nvz 143 (e i+M*nea m lk),Ax.val (Value.pointer (some {block:=gE,off:=i*2}))]
     (by kernel_rfl) (by kernel_rfl) (by kernel_rfl) trivial (by kernel_rfl) (by decide) (by decide) (by rfl) ?_ ?_
    ·refine⟨fun _=>?_,fun _=>?_,fun _=>?_,fun _=>?_,fun _=>?_,fun _=>?_,fun _=>?_,fun _=>?_,fun _=>?_,fun _=>?_,fun _=>?_,fun _=>?_,fun _=>?_,fun _=>?_,fun _=>?_,fun h=>absurd h (by decide),trivial⟩
     ·exact bD rfl fun X ρ v R=>⟨_,by simp[execOp,go_sem],R.old 0 (by decide)⟩
     ·exact bD rfl fun X ρ v R=>by
       have e54:ρ (.tmp 54)=Value.pointer (some {block:=g,off:=0}):=R.dep 0 54 (by decide) rfl rfl
       exact⟨_,by simp[execOp,go_sem,e54],rfl⟩
     ·exact bD rfl fun X ρ v R=>by
       have e55:ρ (.tmp 55)=Value.pointer (some {block:=g,off:=0}):=R.dep 1 55 (by decide) rfl rfl
       exact⟨_,by simp[execOp,go_sem,e55],rfl⟩
     ·exact bD rfl fun X ρ v R=>by
       have e56:ρ (.tmp 56)=Value.pointer (some {block:=g,off:=0}):=R.dep 2 56 (by decide) rfl rfl
       have x0:=cell_later R.b c0;exact⟨_,by simp[execOp,go_sem,e56,x0],rfl⟩
     ·exact bD rfl fun X ρ v R=>⟨_,by simp[execOp,go_sem],R.old 9 (by decide)⟩
     ·exact bD rfl fun X ρ v R=>⟨_,by simp[execOp,go_sem],R.old 0 (by decide)⟩
     ·exact bD rfl fun X ρ v R=>by
       have e59:ρ (.tmp 59)=Value.pointer (some {block:=g,off:=0}):=R.dep 5 59 (by decide) rfl rfl
       exact⟨_,by simp[execOp,go_sem,e59],rfl⟩
     ·exact bD rfl fun X ρ v R=>by
       have e60:ρ (.tmp 60)=Value.pointer (some {block:=g,off:=0}):=R.dep 6 60 (by decide) rfl rfl
       exact⟨_,by simp[execOp,go_sem,e60],rfl⟩
     ·exact bD rfl fun X ρ v R=>by
       have e61:ρ (.tmp 61)=Value.pointer (some {block:=g,off:=0}):=R.dep 7 61 (by decide) rfl rfl
       have x0:=cell_later R.b c0;exact⟨_,by simp[execOp,go_sem,e61,x0],rfl⟩
     ·exact bD rfl fun X ρ v R=>⟨_,by simp[execOp,go_sem],R.old 9 (by decide)⟩
     ·exact bD rfl fun X ρ v R=>by
       have e62:ρ (.tmp 62)=Value.slice (some {block:=gE,off:=0}) n n:=R.dep 8 62 (by decide) rfl rfl
       have e63:ρ (.tmp 63)=Value.int IntKind.i64 ↑i:=R.dep 9 63 (by decide) rfl rfl
       exact⟨_,by simp[execOp,go_sem,e62,e63,i1],rfl⟩
     ·exact bD rfl fun X ρ v R=>by
       have e64:ρ (.tmp 64)=Value.pointer (some {block:=gE,off:=i*2}):=R.dep 10 64 (by decide) rfl rfl
       have x0:=cell_later R.b y0;have x1:=cell_later R.b y1;exact⟨_,by simp[execOp,go_sem,e64,x0,x1],rfl⟩
     ·exact bD rfl fun X ρ v R=>by
       have e12:ρ (.tmp 12)=Value.pointer (some {block:=b_9,off:=0}):=R.old 12 (by decide)
       have x0:=cell_later R.b s0;have x1:=cell_later R.b s1;exact⟨_,by simp[execOp,go_sem,e12,x0,x1],rfl⟩
     ·exact jX 96 rfl fun X ρ v R=>by
       have e65:ρ (.tmp 65)=Value.agg #[Value.bool (ge es i).s,Value.slice (ge es i).p (ge es i).n (ge es i).c]:=R.dep 11 65 (by decide) rfl rfl
       have e66:ρ (.tmp 66)=Value.agg #[Value.bool u_8.s,Value.slice u_8.p u_8.n u_8.c]:=R.dep 12 66 (by decide) rfl rfl
       exact⟨_,by simp[execOp,go_sem,e65,e66,R.fn],oA (Hg ((hev.below R.b).ev (by decide)) ((hN3.below R.b).ev (by decide)))⟩
     ·exact bD rfl fun X ρ v R=>by
       have e57:ρ (.tmp 57)=Value.slice (some {block:=gE,off:=0}) n n:=R.dep 3 57 (by decide) rfl rfl
       have e58:ρ (.tmp 58)=Value.int IntKind.i64 ↑i:=R.dep 4 58 (by decide) rfl rfl
       exact⟨_,by simp[execOp,go_sem,e57,e58,i1],rfl⟩
    intro vals w4 hb4 hv;have e_0:vals 0=Value.pointer (some {block:=g,off:=0}):=hv (0,54) (by decide)
    have e_1:vals 1=Value.pointer (some {block:=g,off:=0}):=hv (1,55) (by decide)
    have e_2:vals 2=Value.pointer (some {block:=g,off:=0}):=hv (2,56) (by decide)
    have e_3:vals 3=Value.slice (some {block:=gE,off:=0}) n n:=hv (3,57) (by decide)
    have e_4:vals 4=Value.int IntKind.i64 ↑i:=hv (4,58) (by decide)
    have e_5:vals 5=Value.pointer (some {block:=g,off:=0}):=hv (5,59) (by decide)
    have e_6:vals 6=Value.pointer (some {block:=g,off:=0}):=hv (6,60) (by decide)
    have e_7:vals 7=Value.pointer (some {block:=g,off:=0}):=hv (7,61) (by decide)
    have e_8:vals 8=Value.slice (some {block:=gE,off:=0}) n n:=hv (8,62) (by decide)
    have e_9:vals 9=Value.int IntKind.i64 ↑i:=hv (9,63) (by decide)
    have e_10:vals 10=Value.pointer (some {block:=gE,off:=i*2}):=hv (10,64) (by decide)
    have e_11:vals 11=Value.agg #[Value.bool (ge es i).s,Value.slice (ge es i).p (ge es i).n (ge es i).c]:=hv (11,65) (by decide)
    have e_12:vals 12=Value.agg #[Value.bool u_8.s,Value.slice u_8.p u_8.n u_8.c]:=hv (12,66) (by decide)
    obtain⟨u_13',e_13,H_13'⟩:=hv (13,67) (by decide)
    have e_14:vals 14=Value.pointer (some {block:=gE,off:=i*2}):=hv (14,68) (by decide)
    refine od (o:={dst:=none,op:=Op.store 50 (Operand.tmp 68) (Operand.tmp 67),type:=0,pos := "divisor.go:80",after:=#[{on:=14,ground:=Ground.data},{on:=13,ground:=Ground.data},{on:=13,ground:=Ground.chain},{on:=0,ground:=Ground.phase},{on:=1,ground:=Ground.phase},{on:=2,ground:=Ground.phase},{on:=3,ground:=Ground.phase},{on:=4,ground:=Ground.phase},{on:=5,ground:=Ground.phase},{on:=6,ground:=Ground.phase},{on:=7,ground:=Ground.phase},{on:=8,ground:=Ground.phase},{on:=9,ground:=Ground.phase},{on:=10,ground:=Ground.phase},{on:=11,ground:=Ground.phase},{on:=12,ground:=Ground.phase},{on:=13,ground:=Ground.phase}],guard:=none}) rfl ?_
    simp only[List.foldl,e_0,e_1,e_2,e_3,e_4,e_5,e_6,e_7,e_8,e_9,e_10,e_11,e_12,e_13,e_14,List.setIfInBounds_toArray,List.set_cons_succ,List.set_cons_zero];clear hv e_0 e_1 e_2 e_3 e_4 e_5 e_6 e_7 e_8 e_9 e_10 e_11 e_12 e_13 e_14;have HE:Hid (e i+M*nea m lk=Cr.nxt m M (e i) (gx rs i)):=by
     show _=_
     unfold Cr.nxt;rw[HL.out,Int.toNat_natCast]
    have H4:=(show Hid _ from H3.out.later hb4 hlo)
    have y0:=(H4.out.row.cell i (by rw[H4.out.el];exact hlt)).1
    have y1:=(H4.out.row.cell i (by rw[H4.out.el];exact hlt)).2
    have f0:=H4.out.row.frozen (i*2);have f1:=H4.out.row.frozen (i*2+1);unfold Oper.wp;simp[execOp,go_sem,y0,y1,f0,f1];rw[HE.out] at H_13'
    have HK:Hid (TkI lo w ((w4.setCell ⟨gE,i*2,none⟩ (.bool u_13'.s)).setCell ⟨gE,i*2+1,none⟩ (.slice u_13'.p u_13'.n u_13'.c)) g gE gr n m u M e (gx rs) rs (i+1) (es.set i u_13')/\chg m M e (gx rs) (i+1)=true):=by
     refine⟨H4.out.put hlt h1 h2 hgE (H_13'.fit (HX.out.2.1 i hlt)),?_⟩;rw[v_,HL.out];simp;right;omega
    clear y0 y1 f0 f1 H_13' HE H4 H3 hb4 hN3 hev he s0 s1 c0 HL nb0 nb1;generalize (w4.setCell ⟨gE,i*2,none⟩ (.bool u_13'.s)).setCell ⟨gE,i*2+1,none⟩ (.slice u_13'.p u_13'.n u_13'.c)=w5 at *
    go_wp2;go_round
    case rel=>exact⟨i+1,es.set i u_13',by omega,by go_num,by rw[HK.out.2],HK.out.1⟩
    case measure=>simp[intOf];omega
  ·obtain rfl:i=n:=by omega
   have i1:¬(i:Int)<(i:Int):=by omega
   have c1:=H.out.im.c1;have c2:=H.out.im.c2;have c0:=H.out.im.c0;go_wp2_with fail;have vm:IntKind.i64.wrap (m:Int)=(m:Int):=by rw[IntKind.wrap_i64];omega
   refine xJ 11 [(0,70),(1,71),(2,72),(3,73),(4,74),(5,75),(6,76),(7,77),(8,78),(9,79),(10,80)] [] []
    [Ax.val (Value.pointer (some {block:=g,off:=0})),Ax.val (Value.pointer (some {block:=g,off:=0})),Ax.val (Value.pointer (some {block:=g,off:=0})),Ax.val (Value.pointer (some {block:=g,off:=1})),Ax.val (Value.agg #[Value.bool u.s,Value.slice u.p u.n u.c]),Ax.val (Value.int IntKind.u64 ↑m),Ax.val (Value.int IntKind.i64 ↑m),Ax.nvz 2 (m:Int),Ax.nvz 72 (M*(m:Int)),Ax.val (Value.pointer (some {block:=g,off:=0})),Ax.val (Value.pointer (some {block:=g,off:=1}))]
    (by kernel_rfl) (by kernel_rfl) (by kernel_rfl) trivial (by kernel_rfl) (by decide) (by decide) (by rfl) ?_ ?_
   ·refine⟨fun _=>?_,fun _=>?_,fun _=>?_,fun _=>?_,fun _=>?_,fun _=>?_,fun _=>?_,fun _=>?_,fun _=>?_,fun _=>?_,fun _=>?_,fun h=>absurd h (by decide),trivial⟩
    ·exact bD rfl fun X ρ v R=>⟨_,by simp[execOp,go_sem],R.old 0 (by decide)⟩
    ·exact bD rfl fun X ρ v R=>⟨_,by simp[execOp,go_sem],R.old 0 (by decide)⟩
    ·exact bD rfl fun X ρ v R=>by
      have e71:ρ (.tmp 71)=Value.pointer (some {block:=g,off:=0}):=R.dep 1 71 (by decide) rfl rfl
      exact⟨_,by simp[execOp,go_sem,e71],rfl⟩
    ·exact bD rfl fun X ρ v R=>by
      have e72:ρ (.tmp 72)=Value.pointer (some {block:=g,off:=0}):=R.dep 2 72 (by decide) rfl rfl
      exact⟨_,by simp[execOp,go_sem,e72],rfl⟩
    ·exact bD rfl fun X ρ v R=>by
      have e73:ρ (.tmp 73)=Value.pointer (some {block:=g,off:=1}):=R.dep 3 73 (by decide) rfl rfl
      have x0:=cell_later R.b c1;have x1:=cell_later R.b c2;exact⟨_,by simp[execOp,go_sem,e73,x0,x1],rfl⟩
    ·exact bD rfl fun X ρ v R=>⟨_,by simp[execOp,go_sem],R.old 1 (by decide)⟩
    ·exact bD rfl fun X ρ v R=>by
      have e75:ρ (.tmp 75)=Value.int IntKind.u64 ↑m:=R.dep 5 75 (by decide) rfl rfl
      exact⟨_,by simp[execOp,go_sem,e75,vm],rfl⟩
    ·exact jX 68 rfl fun X ρ v R=>by
      have e76:ρ (.tmp 76)=Value.int IntKind.i64 ↑m:=R.dep 6 76 (by decide) rfl rfl
      exact⟨_,by simp[execOp,go_sem,e76,R.fn],oA (Dn (m:Int) v (by omega) (by omega))⟩
    ·exact jX 134 rfl fun X ρ v R=>by
      have e74:ρ (.tmp 74)=Value.agg #[Value.bool u.s,Value.slice u.p u.n u.c]:=R.dep 4 74 (by decide) rfl rfl
      obtain⟨u77,e77,H77⟩:=R.dep 7 77 (by decide) rfl rfl
      exact⟨_,by simp[execOp,go_sem,e74,e77,R.fn],oA (yO ((H.out.mo.below R.b).ev (by decide)) (H77.ev (by decide)) (by decide) (by decide))⟩
    ·exact bD rfl fun X ρ v R=>by
      have e70:ρ (.tmp 70)=Value.pointer (some {block:=g,off:=0}):=R.dep 0 70 (by decide) rfl rfl
      exact⟨_,by simp[execOp,go_sem,e70],rfl⟩
    ·exact bD rfl fun X ρ v R=>by
      have e79:ρ (.tmp 79)=Value.pointer (some {block:=g,off:=0}):=R.dep 9 79 (by decide) rfl rfl
      exact⟨_,by simp[execOp,go_sem,e79],rfl⟩
   intro vals w4 hb4 hv;have e_0:vals 0=Value.pointer (some {block:=g,off:=0}):=hv (0,70) (by decide)
   have e_1:vals 1=Value.pointer (some {block:=g,off:=0}):=hv (1,71) (by decide)
   have e_2:vals 2=Value.pointer (some {block:=g,off:=0}):=hv (2,72) (by decide)
   have e_3:vals 3=Value.pointer (some {block:=g,off:=1}):=hv (3,73) (by decide)
   have e_4:vals 4=Value.agg #[Value.bool u.s,Value.slice u.p u.n u.c]:=hv (4,74) (by decide)
   have e_5:vals 5=Value.int IntKind.u64 ↑m:=hv (5,75) (by decide)
   have e_6:vals 6=Value.int IntKind.i64 ↑m:=hv (6,76) (by decide)
   obtain⟨u_7,e_7,H_7⟩:=hv (7,77) (by decide)
   obtain⟨u_8,e_8,H_8⟩:=hv (8,78) (by decide)
   have e_9:vals 9=Value.pointer (some {block:=g,off:=0}):=hv (9,79) (by decide)
   have e_10:vals 10=Value.pointer (some {block:=g,off:=1}):=hv (10,80) (by decide)
   refine od (o:={dst:=none,op:=Op.store 50 (Operand.tmp 80) (Operand.tmp 78),type:=0,pos := "divisor.go:84",after:=#[{on:=10,ground:=Ground.data},{on:=8,ground:=Ground.data},{on:=8,ground:=Ground.chain},{on:=0,ground:=Ground.phase},{on:=1,ground:=Ground.phase},{on:=2,ground:=Ground.phase},{on:=3,ground:=Ground.phase},{on:=4,ground:=Ground.phase},{on:=5,ground:=Ground.phase},{on:=6,ground:=Ground.phase},{on:=7,ground:=Ground.phase},{on:=8,ground:=Ground.phase}],guard:=none}) rfl ?_
   simp only[List.foldl,e_0,e_1,e_2,e_3,e_4,e_5,e_6,e_7,e_8,e_9,e_10,List.setIfInBounds_toArray,List.set_cons_succ,List.set_cons_zero];clear hv e_0 e_1 e_2 e_3 e_4 e_5 e_6 e_7 e_8 e_9 e_10;have H4:=(show Hid _ from H.out.later hb4 hlo)
   have y0:=H4.out.im.c1;have y1:=H4.out.im.c2;have f0:=H4.out.im.fz 1;have f1:=H4.out.im.fz 2;unfold Oper.wp;simp[execOp,go_sem,y0,y1,f0,f1];have HK:Hid (TkI lo w ((w4.setCell ⟨g,1,none⟩ (.bool u_8.s)).setCell ⟨g,2,none⟩ (.slice u_8.p u_8.n u_8.c)) g gE gr i m u_8 (M*m) (fun j=>Cr.nxt m M (e j) (gx rs j)) (gx rs) rs 0 es):=H4.out.mod h1 h3 hg (H_8.fit HX.out.2.2.1)
   clear y0 y1 f0 f1 H_7 H_8 H4 hb4 c0 c1 c2 H;go_wp2;go_ret;exact⟨u_8,es,rfl,HK.out⟩
end Go.Proofs.YtdjjlghlcffflaaGreatDoor
