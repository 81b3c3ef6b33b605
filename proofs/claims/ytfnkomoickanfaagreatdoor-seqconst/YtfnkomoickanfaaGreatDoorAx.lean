/- Own. -/
import Derived.Test.YtfnkomoickanfaaGreatDoorFe
set_option linter.unusedVariables false
set_option linter.unusedSimpArgs false
set_option maxHeartbeats 8000000
set_option maxRecDepth 100000
namespace Go.Proofs.YtfnkomoickanfaaGreatDoor
open Go.RowKit
theorem yV{w:World}(a b:Int)(ha:InT a)(hb:InT b):
  Calls Tryz.prog 74 #[.int .i64 a,.int .i64 b] w fun e w'=>e=.returned (.int .i64 (smf a b))∧w'=w:=by
 unfold InT at ha hb
 have v1:wrap64 (4611686018427387904-b)=4611686018427387904-b:=by unfold wrap64;omega
 rcases Int.lt_or_le (4611686018427387904-b) a with h|h
 ·have HE:Hid (smf a b=4611686018427387904):=by show smf a b=_;unfold smf;omega
  rw[HE.out]
  go_enter Tryz.func74,Tryz.ntmps74
  go_wp2
  go_ret
  exact⟨rfl,rfl⟩
 ·have HE:Hid (smf a b=a+b):=by show smf a b=_;unfold smf;omega
  have h':¬4611686018427387904-b<a:=by omega
  have v2:wrap64 (a+b)=a+b:=by unfold wrap64;omega
  rw[HE.out]
  go_enter Tryz.func74,Tryz.ntmps74
  go_wp2
  go_ret
  exact⟨rfl,rfl⟩
theorem AK{w:World}(a b:Int)(ha:InT a)(hb:InI b):
  Calls Tryz.prog 76 #[.int .i64 a,.int .i64 b] w fun e w'=>e=.returned (.int .i64 (pmf a b))∧Below w.heap.size w w':=by
 rcases Int.lt_or_le 0 a with h0|h0
 ·rcases Int.lt_or_le 0 b with h1|h1
  ·refine(vu a b (by omega) ha.2 (by omega)).mono ?_
   rintro e w' ⟨rfl,rfl⟩
   exact⟨rfl,Below.refl _ _⟩
  ·obtain rfl:b=0:=by have:=hb.1;omega
   have i1:¬(4611686018427387904<a):=by have:=ha.2;omega
   have i2:(a != 0)=true:=by rw[bne_iff_ne];omega
   have i5:a≠0:=by omega
   have hp:0≤4611686018427387904/a:=Int.ediv_nonneg (by decide) (by omega)
   have i3:¬(4611686018427387904/a<0):=by omega
   have HE:Hid (pmf a 0=0):=by show pmf a 0=0;unfold pmf;rw[Int.mul_zero];rfl
   rw[HE.out]
   clear hp
   go_enter Tryz.func76,Tryz.ntmps76
   go_wp2
   go_ret
   exact⟨rfl,Below.refl _ _⟩
 ·obtain rfl:a=0:=by have:=ha.1;omega
  have HE:Hid (pmf 0 b=0):=by show pmf 0 b=0;unfold pmf;rw[Int.zero_mul];rfl
  rw[HE.out]
  go_enter Tryz.func76,Tryz.ntmps76
  go_wp2
  go_ret
  exact⟨rfl,Below.refl _ _⟩
theorem AO{w:World}{p:Option Addr}{n nc:Nat}{xs:List Int}(hl:xs.length=n)(hX:Rd w p .i64 xs)(hn:n≤1000000)(hx:∀x∈xs,InT x):
  Calls Tryz.prog 75 #[.slice p n nc] w fun e w'=>e=.returned (.int .i64 (sms xs))∧w'=w:=by
 have HX:Hid (xs.length=n∧Rd w p .i64 xs∧∀x∈xs,InT x):=⟨hl,hX,hx⟩
 clear hl hX hx
 go_enter Tryz.func75,Tryz.ntmps75
 go_wp2_with fail
 go_loopw [3,4] (fun cv iv wr=>∃k:Nat,k≤n∧iv=.int .i64 k∧cv=.int .i64 (sms (xs.take k))∧wr=w) (fun _ iv _=>n-(intOf iv).toNat)
 case atStart=>exact⟨0,Nat.zero_le _,by go_num,rfl,rfl⟩
 case round=>
  obtain⟨k,hk,rfl,rfl,rfl⟩:=hrel
  obtain⟨hl,hX,hx⟩:=HX.out
  rcases Nat.lt_or_ge k n with hlt|hge
  ·obtain⟨b,o,hp,hc⟩:=hX (by omega)
   subst hp
   have c0:=hc k (by omega)
   have HT:Hid (sms (xs.take (k+1))=smf (sms (xs.take k)) (gx xs k)):=ye smf 0 xs k (by omega)
   have hT:InT (sms (xs.take k)):=ng smf InT InT (fun c x h1 h2=>zi c x h1 ⟨h2.1,by have:=h2.2;omega⟩) _ 0 ⟨by decide,by decide⟩ fun x hx'=>hx x (List.mem_of_mem_take hx')
   have hg:InT (gx xs k):=by rw[bX xs k (by omega)];exact hx _ (List.getElem_mem _)
   have hpl:=yV (w:=wr) _ _ hT hg
   have i1:(k:Int)<(n:Int):=by omega
   clear hl hX hx hc hT hg
   generalize gx xs k=x at *
   generalize sms (xs.take k)=c at *
   go_wp2_with fail
   go_fit hpl
   rintro e w1 ⟨rfl,hw⟩
   subst w1
   clear hpl
   go_wp2_with fail
   refine⟨⟨k+1,by omega,by go_num,by rw[HT.out],by first|rfl|trivial⟩,by simp[intOf];omega⟩
  ·obtain rfl:k=n:=by omega
   have HE:Hid (sms (xs.take k)=sms xs):=by rw[List.take_of_length_le (by omega)];rfl
   have i1:¬(k:Int)<(k:Int):=by omega
   clear hX hl hx
   go_wp2
   go_ret
   exact⟨by rw[←HE.out];rfl,rfl⟩
def lay(listed:Array Bool)(vals:Nat→Value):List (Nat×Nat)→Array Value→Array Value
 | [],t=>t
 |(i,d)::l,t=>lay listed vals l (if listed.getD i false=true then t.setIfInBounds d (vals i) else t)
theorem nn(listed:Array Bool)(vals:Nat→Value)(d:Nat)(v:Value):∀(l:List (Nat×Nat)) (t:Array Value),d∉l.map Prod.snd→lay listed vals l (t.setIfInBounds d v)=(lay listed vals l t).setIfInBounds d v
 | [],t,_=>rfl
 |(i,e)::l,t,h=>by
  simp only[List.map_cons,List.mem_cons,not_or] at h
  rw[lay,lay]
  split
  ·rw[←nn listed vals d v l _ h.2,Array.setIfInBounds_comm _ _ h.1]
  ·exact nn listed vals d v l t h.2
theorem jc(listed:Array Bool)(vals:Nat→Value)(s:Nat):∀(l:List (Nat×Nat)) (t:Array Value),s∉l.map Prod.snd→(lay listed vals l t).getD s undef=t.getD s undef
 | [],t,_=>rfl
 |(i,e)::l,t,h=>by
  simp only[List.map_cons,List.mem_cons,not_or] at h
  rw[lay,jc listed vals s l _ h.2]
  split
  ·simp[Array.getElem?_setIfInBounds,Ne.symm h.1]
  ·rfl
theorem sF(listed:Array Bool)(vals:Nat→Value):∀(l:List (Nat×Nat)) (t:Array Value),(lay listed vals l t).size=t.size
 | [],t=>rfl
 |(i,e)::l,t=>by
  rw[lay,sF listed vals l]
  split<;>simp
theorem yt(listed:Array Bool)(vals:Nat→Value)(i d:Nat)(hi:listed.getD i false=true):∀(l:List (Nat×Nat)) (t:Array Value),(l.map Prod.snd).Nodup→(i,d)∈l→d<t.size→(lay listed vals l t).getD d undef=vals i
 | [],t,_,h,_=>by cases h
 |(j,e)::l,t,hn,h,hd=>by
  simp only[List.map_cons,List.nodup_cons] at hn
  rw[lay]
  rcases List.mem_cons.1 h with h1|h1
  ·cases h1
   rw[if_pos hi,jc listed vals d l _ hn.1]
   simp[hd]
  ·refine yt listed vals i d hi l _ hn.2 h1 ?_
   split<;>simpa using hd
theorem sE(listed:Array Bool)(vals:Nat→Value)(j:Nat)(v:Value):∀(l:List (Nat×Nat)) (t:Array Value),j∉l.map Prod.fst→lay (listed.setIfInBounds j true) (fun i=>if i=j then v else vals i) l t=lay listed vals l t
 | [],t,_=>rfl
 |(i,e)::l,t,h=>by
  simp only[List.map_cons,List.mem_cons,not_or] at h
  have h1:(listed.setIfInBounds j true).getD i false=listed.getD i false:=by simp[Array.getElem?_setIfInBounds,h.1]
  rw[lay,lay,h1,if_neg (Ne.symm h.1),sE listed vals j v l _ h.2]
theorem uS(listed:Array Bool)(vals:Nat→Value)(j d:Nat)(v:Value)(hj:listed.getD j true=false):∀(l:List (Nat×Nat)) (t:Array Value),(l.map Prod.fst).Nodup→(l.map Prod.snd).Nodup→(j,d)∈l→lay (listed.setIfInBounds j true) (fun i=>if i=j then v else vals i) l t=(lay listed vals l t).setIfInBounds d v
 | [],t,_,_,h=>by cases h
 |(i,e)::l,t,hf,hs,h=>by
  simp only[List.map_cons,List.nodup_cons] at hf hs
  have hlt:j<listed.size:=by
   rcases Nat.lt_or_ge j listed.size with h'|h'
   ·exact h'
   ·simp[Array.getElem?_eq_none h'] at hj
  have hj':listed.getD j false=false:=by simpa [hlt] using hj
  have hnew:(listed.setIfInBounds j true).getD j false=true:=by simp[hlt]
  rw[lay,lay]
  rcases List.mem_cons.1 h with h1|h1
  ·cases h1
   rw[if_pos hnew,if_pos rfl,hj',if_neg (by decide),sE listed vals j v l _ hf.1,nn listed vals d v l t hs.1]
  ·have hij:i≠j:=fun e'=>hf.1 (by rw[e'];exact List.mem_map.2 ⟨(j,d),h1,rfl⟩)
   have h2:(listed.setIfInBounds j true).getD i false=listed.getD i false:=by simp[Array.getElem?_setIfInBounds,Ne.symm hij]
   rw[h2,if_neg hij]
   exact uS listed vals j d v hj l _ hf.2 hs.2 h1
section
variable {P:Program} {ops:Array Oper} {Q:Exit→Act→World→Prop}
end
inductive Ans where
 |val (v:Value)
 |row (n:Nat) (xs:List Int)
section
variable {P:Program} {Q:Exit→Act→World→Prop} {W:World} {t0:Array Value} {dl:List (Nat×Nat)} {ans:List Ans} {i:Nat} {o:Oper}
end
theorem ti(w:World)(xs:List Int)(t:TypeId):Rd (w.alloc (.cells ((xs.map (Value.int .i64)).toArray) t)) (some ⟨w.heap.size,0,none⟩) .i64 xs:=fun _=>⟨w.heap.size,0,rfl,fun j hj=>by
 simp only[World.cell?,heap_alloc_new,Nat.zero_add]
 simp[gx,hj]⟩
theorem lM{w:World}{B T N E D:Nat}{l:List (List Int)}{h:Hdr}(H:HR D (EY N E) w B T l h)(hT:T≤w.heap.size)(hD:D≤1000000)(hE:E≤1000000):
  Calls Tryz.prog 33 #[.slice h.p h.n h.c] w fun e w'=>e=.returned (.int .i64 (dS l))∧Below w.heap.size w w':=by
 obtain⟨hs,k⟩:=H
 have HX:Hid (fa D (EY N E) w B T l h hs∧T≤w.heap.size):=⟨k,hT⟩
 have hn:h.n≤D:=k.few
 have HL:Hid (l.length=h.n):=k.tl
 obtain⟨p,n,nc⟩:=h
 simp only at hn HL ⊢
 clear k hT
 go_enter Tryz.func33,Tryz.ntmps33
 go_wp2_with fail
 go_loopw [3,4] (fun mv kv wr=>∃i:Nat,i≤n∧mv=.int .i64 (dS (l.take i))∧kv=.int .i64 i∧Hid (Below w.heap.size w wr)) (fun _ kv _=>n-(intOf kv).toNat)
 case atStart=>exact⟨0,Nat.zero_le _,by simp[dS],by go_num,Below.refl _ _⟩
 case round=>
  obtain⟨i,hi,rfl,rfl,G⟩:=hrel
  rcases Nat.lt_or_ge i n with hlt|hge
  ·have g4:=G.out
   obtain⟨b,o,hp,hc⟩:=HX.out.1.hl (by rw[HX.out.1.el];show 0<n;omega)
   simp only at hp
   subst hp
   have c0:=hc i (by rw[HX.out.1.el];exact hlt)
   have c1:wr.cell? ⟨b,o+i,none⟩=some (gh hs i).val:=mI g4 c0
   obtain⟨es2,-,-,ht2,hd3,-⟩:=HX.out.1.ev i hlt
   have HT:Hid (dS (l.take (i+1))=max (dS (l.take i)) (((gh hs i).n:Int)-1)):=by rw[←ht2];exact yH l i (by have:=HL.out;omega)
   generalize gh hs i=hd at c1 hd3 HT
   obtain⟨p2,n2,nc2⟩:=hd
   simp only[Hdr.val] at c1 hd3 HT
   have i1:(i:Int)<(n:Int):=by omega
   have hcall:=fun w'=>qE p2 n2 nc2 w' (by omega)
   obtain⟨M,hM⟩:∃M,dS (l.take (i+1))=M:=⟨_,rfl⟩
   have HEQ:=(show Hid _ from hM)
   rw[hM] at HT
   obtain⟨t,ht⟩:∃t,(n2:Int)-1=t:=⟨_,rfl⟩
   rw[ht] at HT
   simp only[ht] at hcall
   generalize dS (l.take i)=d at *
   clear hc c0 g4 hM ht ht2
   go_wp2_with fail
   go_fit (hcall _)
   rintro e w1 ⟨rfl,hb1⟩
   have HB1:Hid (Below w.heap.size w w1):=ae G.out hb1
   clear c1 hcall hb1
   by_cases hdt:d<t
   ·obtain rfl:t=M:=by have:=HT.out;omega
    go_wp2
    go_roundw
    case rel=>exact⟨i+1,by omega,by rw[HEQ.out],by go_num,HB1.out⟩
    case measure=>simp[intOf];omega
   ·obtain rfl:d=M:=by have:=HT.out;omega
    go_wp2
    go_roundw
    case rel=>exact⟨i+1,by omega,by rw[HEQ.out],by go_num,HB1.out⟩
    case measure=>simp[intOf];omega
  ·obtain rfl:i=n:=by omega
   have i1:¬(i:Int)<(i:Int):=by omega
   have HZ:Hid (l.take i=l):=List.take_of_length_le (by have:=HL.out;omega)
   go_wp2
   go_ret
   exact⟨by rw[HZ.out];rfl,G.out⟩
theorem wT{w:World}{B T N E D:Nat}{l:List (List Int)}{h:Hdr}(H:HR D (EY N E) w B T l h)(hT:T≤w.heap.size)(hD:D≤1000000)(hE:E≤1000000)(hN:N≤1000):
  Calls Tryz.prog 114 #[.slice h.p h.n h.c] w fun e w'=>e=.returned (.int .i64 (fS l))∧Below w.heap.size w w':=by
 obtain⟨hs,k⟩:=H
 have HX:Hid (fa D (EY N E) w B T l h hs∧T≤w.heap.size):=⟨k,hT⟩
 have hn:h.n≤D:=k.few
 have HL:Hid (l.length=h.n):=k.tl
 obtain⟨p,n,nc⟩:=h
 simp only at hn HL ⊢
 clear k hT
 go_enter Tryz.func114,Tryz.ntmps114
 go_wp2_with fail
 go_loopw [3,4] (fun mv kv wr=>∃i:Nat,i≤n∧mv=.int .i64 (fS (l.take i))∧kv=.int .i64 i∧Hid (Below w.heap.size w wr)) (fun _ kv _=>n-(intOf kv).toNat)
 case atStart=>exact⟨0,Nat.zero_le _,by simp[fS],by go_num,Below.refl _ _⟩
 case round=>
  obtain⟨i,hi,rfl,rfl,G⟩:=hrel
  rcases Nat.lt_or_ge i n with hlt|hge
  ·have g4:=G.out
   obtain⟨b,o,hp,hc⟩:=HX.out.1.hl (by rw[HX.out.1.el];show 0<n;omega)
   simp only at hp
   subst hp
   have c0:=hc i (by rw[HX.out.1.el];exact hlt)
   have c1:wr.cell? ⟨b,o+i,none⟩=some (gh hs i).val:=mI g4 c0
   have hE2:=(bJ N E).below (HX.out.1.ev i hlt) HX.out.2 g4
   have HT:Hid (fS (l.take (i+1))=max (fS (l.take i)) (pb (gt l i))):=yG l i (by have:=HL.out;omega)
   generalize gh hs i=hd at c1 hE2
   obtain⟨p2,n2,nc2⟩:=hd
   obtain⟨es2,hP2,-,-,hd3,-⟩:=hE2
   simp only[Hdr.val] at c1 hd3 hP2
   have i1:(i:Int)<(n:Int):=by omega
   have hcall:=oF hP2 hN (by omega)
   obtain⟨M,hM⟩:∃M,fS (l.take (i+1))=M:=⟨_,rfl⟩
   have HEQ:=(show Hid _ from hM)
   rw[hM] at HT
   generalize pb (gt l i)=t at *
   generalize fS (l.take i)=d at *
   clear hc c0 g4 hM hP2
   go_wp2_with fail
   go_fit hcall
   rintro e w1 ⟨rfl,hb1⟩
   have HB1:Hid (Below w.heap.size w w1):=ae G.out hb1
   clear c1 hcall hb1
   by_cases hdt:d<t
   ·obtain rfl:t=M:=by have:=HT.out;omega
    have i5:(d:Int)<(t:Int):=by omega
    go_wp2
    go_roundw
    case rel=>exact⟨i+1,by omega,by rw[HEQ.out],by go_num,HB1.out⟩
    case measure=>simp[intOf];omega
   ·obtain rfl:d=M:=by have:=HT.out;omega
    have i5:¬(d:Int)<(t:Int):=by omega
    go_wp2
    go_roundw
    case rel=>exact⟨i+1,by omega,by rw[HEQ.out],by go_num,HB1.out⟩
    case measure=>simp[intOf];omega
  ·obtain rfl:i=n:=by omega
   have i1:¬(i:Int)<(i:Int):=by omega
   have HZ:Hid (l.take i=l):=List.take_of_length_le (by have:=HL.out;omega)
   go_wp2
   go_ret
   exact⟨by rw[HZ.out];rfl,G.out⟩
def lP(l:List (List Int)):Int:=if l.length=0 then 0 else (l.length:Int)-1
def lO(l:List (List Int)):Int:=if l.length=0 then 0 else dS l
def lN(l:List (List Int)):Int:=if l.length=0 then 0 else (fS l:Int)
theorem w_{w:World}{B T N E D:Nat}{l:List (List Int)}{h:Hdr}(H:HR D (EY N E) w B T l h)(hT:T≤w.heap.size)(hD:D≤1000000)(hE:E≤1000000)(hN:N≤1000):
  Calls Tryz.prog 70 #[.slice h.p h.n h.c] w fun e w'=>e=.returned (.tuple #[.int .i64 (lP l),.int .i64 (lO l),.int .i64 (lN l)])∧Below w.heap.size w w':=by
 have h2:=fun w' (hb:Below w.heap.size w w')=>lM ((bK (bJ N E)).below H hT hb) (Nat.le_trans hT hb.size) hD hE
 have h3:=fun w' (hb:Below w.heap.size w w')=>wT ((bK (bJ N E)).below H hT hb) (Nat.le_trans hT hb.size) hD hE hN
 have hl:l.length=h.n∧h.n≤1000000:=by obtain⟨_,k⟩:=H;exact⟨k.tl,Nat.le_trans k.few hD⟩
 have hO:lP l=if h.n=0 then 0 else (h.n:Int)-1:=by rw[lP,hl.1]
 have hD':lO l=if h.n=0 then 0 else dS l:=by rw[lO,hl.1]
 have hB:lN l=if h.n=0 then 0 else (fS l:Int):=by rw[lN,hl.1]
 rw[hO,hD',hB]
 obtain⟨p,n,nc⟩:=h
 have hn:=hl.2
 simp only at h2 h3 hn ⊢
 clear H hT hl hO hD' hB
 generalize dS l=d at *
 generalize (fS l:Int)=k at *
 rcases Nat.eq_zero_or_pos n with h0|h0
 ·subst h0
  go_enter Tryz.func70,Tryz.ntmps70
  go_wp2
  refine bodyPost_ret (v:=.tuple #[.int .i64 0,.int .i64 0,.int .i64 0]) (by simp[results,Tryz.results70,go_sem]) rfl ⟨rfl,Below.refl _ _⟩
 ·have i1:((n:Int)==0)=false:=by rw[beq_eq_false_iff_ne];omega
  have i2:¬(n:Int)=0:=by omega
  have i3:¬n=0:=by omega
  rw[if_neg i3,if_neg i3,if_neg i3]
  have hor:=eC w p n nc hn
  generalize (n:Int)-1=r at *
  go_enter Tryz.func70,Tryz.ntmps70
  go_wp2_with fail
  go_fit hor
  rintro e w1 ⟨rfl,hw⟩
  subst w1
  have h2':=h2 w (Below.refl _ _)
  go_wp2_with fail
  go_fit h2'
  rintro e w2 ⟨rfl,hb2⟩
  have h3':=h3 w2 hb2
  go_wp2_with fail
  go_fit h3'
  rintro e w3 ⟨rfl,hb3⟩
  have HB:Hid (Below w.heap.size w w3):=ae hb2 hb3
  clear h2 h3 h2' h3' hb2 hb3 hor
  go_wp2
  refine bodyPost_ret (v:=.tuple #[.int .i64 r,.int .i64 d,.int .i64 k]) (by simp[results,Tryz.results70,go_sem]) rfl ⟨rfl,HB.out⟩
theorem oJ{w:World}{b:Nat}(xs:List Int)(n:Nat)(hl:xs.length=n)(hn:n≤100)(h:Rd w (some ⟨b,0,none⟩) .i64 xs)(hx:∀x∈xs,InI x):
  Calls Tryz.prog 73 #[.slice (some ⟨b,0,none⟩) n n] w fun e w'=>e=.returned (.int .i64 (tms xs))∧Below w.heap.size w w':=
 (xd hl h (by omega)).mono fun e w' ⟨a,b⟩=>⟨a,by rw[b];exact Below.refl _ _⟩
theorem AW{w:World}{b:Nat}(xs:List Int)(n:Nat)(hl:xs.length=n)(hn:n≤100)(h:Rd w (some ⟨b,0,none⟩) .i64 xs)(hx:∀x∈xs,InT x):
  Calls Tryz.prog 75 #[.slice (some ⟨b,0,none⟩) n n] w fun e w'=>e=.returned (.int .i64 (sms xs))∧Below w.heap.size w w':=
 (AO hl h (by omega) hx).mono fun e w' ⟨a,b⟩=>⟨a,by rw[b];exact Below.refl _ _⟩
def SzB(x:List (List Int)):Prop:=(0≤lP x∧lP x≤1000000)∧(0≤lO x∧lO x≤1000000)∧(0≤lN x∧lN x≤1000000000)
theorem ja{x:Int}(h0:0≤x)(h1:x≤1000000000000):InT x:=⟨h0,by omega⟩
theorem i_{x:Int}(h0:0≤x)(h1:x≤1000000000000):InI x:=⟨h0,by omega⟩
theorem Ct{xs:List Int}(h:∀x∈xs,InT x):InT (sms xs):=by
 have:=ng smf InT InI zi xs 0 ⟨by decide,by decide⟩ (fun x hx=>⟨(h x hx).1,by have:=(h x hx).2;omega⟩)
 exact this
theorem yw{x:Int}(h:InI x):IB (Lib.bitLen x.toNat) x:=by
 have h2:=h.2
 have hib:=iw 64 x.toNat (by omega)
 rwa [Int.toNat_of_nonneg h.1] at hib
theorem C9{x:Int}(h:InI x):Lib.bitLen x.toNat=zb x:=by
 have h1:=yw h
 have h2:=oU x
 rw[show(x.natAbs:Int)=x by have:=h.1;omega] at h2
 exact h1.uniq h2
theorem BF{x:Int}(h:InI x):(Lib.bitLen x.toNat:Int)≤64:=by
 have h1:=yw h
 rcases h1.2.2 with h2|h2
 ·omega
 ·rcases Nat.lt_or_ge 64 (Lib.bitLen x.toNat) with h3|h3
  ·exfalso
   have h4:(2:Int)^64≤2^(Lib.bitLen x.toNat-1):=ef (by omega)
   have h5:=h.2
   omega
  ·omega
theorem wX{w:World}(a b:Int)(ha:InI a)(hb:InT b):
  Calls Tryz.prog 74 #[.int .i64 a,.int .i64 b] w fun e w'=>e=.returned (.int .i64 (smf a b))∧w'=w:=by
 unfold InI at ha
 unfold InT at hb
 have v1:wrap64 (4611686018427387904-b)=4611686018427387904-b:=by unfold wrap64;omega
 rcases Int.lt_or_le (4611686018427387904-b) a with h|h
 ·have HE:Hid (smf a b=4611686018427387904):=by show smf a b=_;unfold smf;omega
  rw[HE.out]
  go_enter Tryz.func74,Tryz.ntmps74
  go_wp2
  go_ret
  exact⟨rfl,rfl⟩
 ·have HE:Hid (smf a b=a+b):=by show smf a b=_;unfold smf;omega
  have h':¬4611686018427387904-b<a:=by omega
  have v2:wrap64 (a+b)=a+b:=by unfold wrap64;omega
  rw[HE.out]
  go_enter Tryz.func74,Tryz.ntmps74
  go_wp2
  go_ret
  exact⟨rfl,rfl⟩
theorem Cs(a b:Int)(ha:InI a)(hb:InT b):InT (smf a b):=by
 unfold InI at ha
 unfold InT at hb ⊢
 unfold smf
 omega
theorem DP{x:Int}(h:InI x):(zb x:Int)≤64:=by
 rw[←C9 h]
 exact BF h
theorem xa{w:World}{B T N E D K:Nat}{x:List (List Int)}{h:Hdr}{p1:Option Addr}{n1 c1:Nat}{rs:List Rq}{zs:List Rat}{n:Int}(H:HR D (EY N E) w B T x h)(hT:T≤w.heap.size)(hwa:WA (EM K) w p1 n1 c1 rs zs)(hD:D≤1000000)(hE:E≤1000000)(hN:N≤1000)(hK:K≤400)(hn1:n1≤1000000)(hz:∀j,j<n1→qb (gq zs j)≤1000000)(b1:SzB x)(hn:0≤n∧n≤9223372036854775807):
  Calls Tryz.prog 31 #[.slice h.p h.n h.c,.slice p1 n1 c1,.int .i64 n] w fun e w'=>e=.returned (.int .i64 (max (tms [smf n 1,lP x+1,sms [lN x,pmf (lO x+1) ((zb n:Int)+1),8]]) (tms [smf n 1,(wbt zs:Int)+1])))∧Below w.heap.size w w':=by
 have h1:=fun w' (hb:Below w.heap.size w w')=>w_ ((bK (bJ N E)).below H hT hb) (Nat.le_trans hT hb.size) hD hE hN
 have h2:=fun w' (hb:Below w.heap.size w w')=>tg (hwa.below (cU K) hb) hK hn1 hz
 have bz:wbt zs≤1000000:=by
  have:=zu zs 1000000 (fun j hj=>hz j (by rw[←hwa.zl];exact hj)) zs.length (Nat.le_refl _)
  rwa [List.take_length] at this
 obtain⟨p,m,mc⟩:=h
 simp only at h1 h2 ⊢
 clear H hT hwa hz
 unfold SzB at b1
 generalize lP x=r at *
 generalize lO x=d at *
 generalize lN x=k at *
 generalize hbz:(wbt zs:Int)=wv at *
 have hw0:0≤wv∧wv≤1000000:=by omega
 clear hbz bz
 have iN:InI n:=⟨hn.1,hn.2⟩
 have hof:=fun w'=>wW n w' iN.1 iN.2
 have hz64:=DP iN
 have t1:=Cs n 1 iN ⟨by decide,by decide⟩
 have hpl:=fun w'=>wX (w:=w') n 1 iN ⟨by decide,by decide⟩
 have i0:¬n<0:=by omega
 obtain⟨⟨r0,r1⟩,⟨d0,d1⟩,k0,k1⟩:=b1
 have v0:wrap64 (r+1)=r+1:=by unfold wrap64;omega
 have v1:wrap64 (d+1)=d+1:=by unfold wrap64;omega
 have v3:wrap64 (wv+1)=wv+1:=by unfold wrap64;omega
 go_enter Tryz.func31,Tryz.ntmps31
 go_wp2_with fail
 go_fit (h1 w (Below.refl _ _))
 rintro e1 w1 ⟨rfl,hB1⟩
 have h2':=h2 w1 hB1
 go_wp2_with fail
 go_fit h2'
 rintro e1 w2 ⟨rfl,hb2⟩
 have hB2:=ae hB1 hb2
 clear h1 h2 h2' hb2 hB1
 go_wp2_with fail
 go_fit (hof w2)
 rintro e1 w3 ⟨u,rfl,hRE,-,hb3⟩
 have hB3:=ae hB2 hb3
 have hbt:=vq hRE (by decide)
 clear hof hb3 hB2 hRE
 go_wp2_with fail
 go_fit hbt
 rintro e1 w4 ⟨rfl,hzb,hb4⟩
 have hB4:=ae hB3 hb4
 clear hbt hb4 hB3 hzb
 generalize hbb:(zb n:Int)=b at *
 have HBB:Hid ((zb n:Int)=b∧0≤b):=⟨hbb,by omega⟩
 have hb0:0≤b:=HBB.out.2
 clear hbb
 have v4:wrap64 (b+1)=b+1:=by unfold wrap64;omega
 go_wp2_with fail
 go_fit (hpl w4)
 rintro e1 w5 ⟨rfl,hw⟩
 subst w5
 generalize hs1:smf n 1=s1 at *
 have HS1:Hid (smf n 1=s1):=hs1
 clear hs1
 have pg:InT (pmf (d+1) (b+1)):=Dq (d+1) (b+1) (ja (by omega) (by omega)) (i_ (by omega) (by omega))
 go_wp2_with fail
 go_fit (AK (d+1) (b+1) (ja (by omega) (by omega)) (i_ (by omega) (by omega)))
 rintro e1 w6 ⟨rfl,hb6⟩
 have hB6:=ae hB4 hb6
 clear hB4 hb6
 generalize hgg:pmf (d+1) (b+1)=g at *
 have HGG:Hid (pmf (d+1) (b+1)=g):=hgg
 clear hgg
 have hrd:Rd (w6.alloc (.cells #[.int .i64 k,.int .i64 g,.int .i64 8] 3)) (some ⟨w6.heap.size,0,none⟩) .i64 [k,g,8]:=ti w6 [k,g,8] 3
 have hin:∀y∈[k,g,8],InT y:=(List.forall_mem_cons.2 ⟨ja (by omega) (by omega),(List.forall_mem_cons.2 ⟨pg,(List.forall_mem_cons.2 ⟨ja (by omega) (by omega),(List.forall_mem_nil _)⟩)⟩)⟩)
 go_wp2_with fail
 go_fit (AW [k,g,8] 3 rfl (by decide) hrd hin)
 rintro e1 w7 ⟨rfl,hb7⟩
 have hB7:Below w.heap.size w w7:=ae hB6 (ae ((Below.refl _ _).alloc (Nat.le_refl _) _) hb7)
 have ps:InT (sms [k,g,8]):=Ct hin
 clear hrd hin hB6 hb7
 generalize hss:sms [k,g,8]=s2 at *
 have HSS:Hid (sms [k,g,8]=s2):=hss
 clear hss
 have hrd:Rd (w7.alloc (.cells #[.int .i64 s1,.int .i64 (r+1),.int .i64 s2] 3)) (some ⟨w7.heap.size,0,none⟩) .i64 [s1,r+1,s2]:=ti w7 [s1,r+1,s2] 3
 have hin:∀y∈[s1,r+1,s2],InI y:=(List.forall_mem_cons.2 ⟨⟨t1.1,by have:=t1.2;omega⟩,(List.forall_mem_cons.2 ⟨i_ (by omega) (by omega),(List.forall_mem_cons.2 ⟨⟨ps.1,by have:=ps.2;omega⟩,(List.forall_mem_nil _)⟩)⟩)⟩)
 go_wp2_with fail
 go_fit (oJ [s1,r+1,s2] 3 rfl (by decide) hrd hin)
 rintro e1 w8 ⟨rfl,hb8⟩
 have hB8:Below w.heap.size w w8:=ae hB7 (ae ((Below.refl _ _).alloc (Nat.le_refl _) _) hb8)
 clear hrd hin hB7 hb8
 generalize htt:tms [s1,r+1,s2]=T1 at *
 have HTT:Hid (tms [s1,r+1,s2]=T1):=htt
 clear htt
 go_wp2_with fail
 go_fit (hpl w8)
 rintro e1 w9 ⟨rfl,hw⟩
 subst w9
 have hrd:Rd (w8.alloc (.cells #[.int .i64 s1,.int .i64 (wv+1)] 3)) (some ⟨w8.heap.size,0,none⟩) .i64 [s1,wv+1]:=ti w8 [s1,wv+1] 3
 have hin:∀y∈[s1,wv+1],InI y:=(List.forall_mem_cons.2 ⟨⟨t1.1,by have:=t1.2;omega⟩,(List.forall_mem_cons.2 ⟨i_ (by omega) (by omega),(List.forall_mem_nil _)⟩)⟩)
 go_wp2_with fail
 go_fit (oJ [s1,wv+1] 2 rfl (by decide) hrd hin)
 rintro e1 w10 ⟨rfl,hb10⟩
 have HB8:Hid (Below w.heap.size w w10):=ae hB8 (ae ((Below.refl _ _).alloc (Nat.le_refl _) _) hb10)
 clear hrd hin hB8 hb10 hpl
 generalize hyy:tms [s1,wv+1]=Y at *
 have HYY:Hid (tms [s1,wv+1]=Y):=hyy
 clear hyy
 rcases Int.lt_or_le T1 Y with hlt|hge
 ·have hmx:Hid (max T1 Y=Y):=by show max T1 Y=Y;omega
  go_wp2
  go_ret
  refine⟨?_,HB8.out⟩
  rw[HBB.out.1,HS1.out,HGG.out,HSS.out,HTT.out,HYY.out,hmx.out]
  rfl
 ·have hmx:Hid (max T1 Y=T1):=by show max T1 Y=T1;omega
  have i1:¬T1<Y:=by omega
  go_wp2
  go_ret
  refine⟨?_,HB8.out⟩
  rw[HBB.out.1,HS1.out,HGG.out,HSS.out,HTT.out,HYY.out,hmx.out]
  rfl
theorem BP(z:List (List Int))(j:Nat):gt (z.map tr) j=tr (gt z j):=by
 rcases Nat.lt_or_ge j z.length with h|h
 ·simp[gt,h]
 ·rw[dM _ _ (by simpa using h),dM _ _ h]
  rfl
theorem yJ{a b:List (List Int)}(h:∀j,ad (gt a j)=ad (gt b j)):aD a=aD b:=by
 refine jS a (aD b) (fun j hj=>by rw[h j];exact yK b j hj) ?_
 rcases Nat.eq_zero_or_pos (aD b) with h0|h0
 ·exact .inl h0
 ·refine .inr ?_
  rw[h]
  intro e
  have h1:=cd (b.map fun z=>(ad z:Int)) h0
  rw[ko] at h1
  apply h1
  show(ad (gt b (aD b-1)):Int)=0
  rw[e]
  rfl
theorem qC(z:List (List Int)):aD (z.map tr)=aD z:=yJ fun j=>by rw[BP,aZ]
theorem AB(z:List (List Int)):otr (z.map tr)=oz z:=by rw[otr,qC,←List.map_take];rfl
structure RS(w:World)(base gs B T N E D Q:Nat)(l:List (List Int))(h:Hdr)(wv v:Value)(rs:List Rq)(zs:List Rat):Prop where
 bx:w.heap[gs]?=some (.cells #[.slice h.p h.n h.c,wv,v] 81 (0,0))
 op:HR D (EY N E) w B T l h
 T:T≤base
 gb:base≤gs
 lw:LW base 45 (EM Q) w v rs zs
 no:v.ownBlock≠some gs
theorem BL{rs:List Rq}:∀u∈frl rs,u.oneCell'=true:=fun u hu=>by
 simp only[frl,List.mem_flatMap,Rq.cells,List.mem_cons,List.not_mem_nil,or_false] at hu
 obtain⟨e,-,rfl|rfl|rfl|rfl⟩:=hu<;>rfl
theorem Ab{w:World}{b o:Nat}{rs:List Rq}(h:∀j,j<rs.length→w.cell? ⟨b,o+j*4,none⟩=some (.bool (gr rs j).s)∧w.cell? ⟨b,o+j*4+1,none⟩=some (.slice (gr rs j).p (gr rs j).n (gr rs j).c)∧w.cell? ⟨b,o+j*4+2,none⟩=some (.bool (gr rs j).t)∧w.cell? ⟨b,o+j*4+3,none⟩=some (.slice (gr rs j).q (gr rs j).m (gr rs j).d)):∀j u,(frl rs)[j]?=some u→w.cell? ((⟨b,o,none⟩:Addr).add j)=some u:=fun j u hu=>by
 have hlt:j<(frl rs).length:=(List.getElem?_eq_some_iff.1 hu).1
 rw[kt] at hlt
 have hq:j/4<rs.length:=by omega
 obtain⟨f0,f1,f2,f3⟩:=mj rs (j/4) hq
 obtain⟨c0,c1,c2,c3⟩:=h (j/4) hq
 have hadd:(⟨b,o,none⟩:Addr).add j=⟨b,o+j,none⟩:=by unfold Addr.add;split<;>simp_all
 rw[hadd]
 have hm:j%4=0∨j%4=1∨j%4=2∨j%4=3:=by omega
 rcases hm with e|e|e|e
 ·have e1:j=j/4*4:=by omega
  rw[e1] at hu ⊢
  rw[f0] at hu
  rw[←Option.some.inj hu]
  exact c0
 ·have e1:j=j/4*4+1:=by omega
  rw[e1] at hu ⊢
  rw[f1] at hu
  rw[←Option.some.inj hu]
  exact c1
 ·have e1:j=j/4*4+2:=by omega
  rw[e1] at hu ⊢
  rw[f2] at hu
  rw[←Option.some.inj hu]
  exact c2
 ·have e1:j=j/4*4+3:=by omega
  rw[e1] at hu ⊢
  rw[f3] at hu
  rw[←Option.some.inj hu]
  exact c3
theorem AX:rts [1] 0 5=[]:=by decide
theorem Cb:pb [1]=1:=by decide
theorem De(a b:Rat):Rat.divInt (a.num*b.num) (a.den*b.den)=a*b:=by
 have:=Rat.divInt_mul_divInt a.num b.num (d₁:=a.den) (d₂:=b.den)
 rw[←this,Rat.num_divInt_den,Rat.num_divInt_den]
theorem CX(a b:Rat):Rat.divInt (a.num*b.den+b.num*a.den) (a.den*b.den)=a+b:=by
 have:=Rat.divInt_add_divInt a.num b.num (d₁:=a.den) (d₂:=b.den) (by have:=a.den_nz;omega) (by have:=b.den_nz;omega)
 rw[←this,Rat.num_divInt_den,Rat.num_divInt_den]
theorem DC{w:World}{Ka Kb:Nat}{sa ta sb tb:Bool}{pa qa pb qb:Option Addr}{na ma nb mb:Nat}{ra rb:Rat}(ha:MQ w Ka sa pa na ta qa ma ra)(hb:MQ w Kb sb pb nb tb qb mb rb)(hKa:1≤Ka)(hKb:1≤Kb)(hK:Ka+Kb≤240):
  Calls Tryz.prog 46 #[.agg #[.bool sa,.slice pa na na,.bool ta,.slice qa ma ma],.agg #[.bool sb,.slice pb nb nb,.bool tb,.slice qb mb mb]] w (MP (ra*rb) (Ka+Kb) w):=by
 have hs:Hid (Sz (ra*rb) (Ka+Kb)):=Df ha.sz hb.sz hKa
 have hval:Hid (Rat.divInt (ra.num*rb.num) (ra.den*rb.den)=ra*rb):=De ra rb
 have la:=ha.num.le
 go_enter Tryz.func46,Tryz.ntmps46
 go_wp2_with fail
 have hA0:Bq ((((w).alloc (.cells #[.bool sa,.slice pa na na,.bool ta,.slice qa ma ma] 45)).alloc (.cells #[.bool sb,.slice pb nb nb,.bool tb,.slice qb mb mb] 45)).alloc (.cells #[.bool false,.slice none 0 0,.bool false,.slice none 0 0] 45)) w.heap.size (.bool sa) (.slice pa na na) (.bool ta) (.slice qa ma ma):=((Bq.new _ _ _ _ _ rfl).alloc _).alloc _
 have hB0:Bq ((((w).alloc (.cells #[.bool sa,.slice pa na na,.bool ta,.slice qa ma ma] 45)).alloc (.cells #[.bool sb,.slice pb nb nb,.bool tb,.slice qb mb mb] 45)).alloc (.cells #[.bool false,.slice none 0 0,.bool false,.slice none 0 0] 45)) (w.heap.size+1) (.bool sb) (.slice pb nb nb) (.bool tb) (.slice qb mb mb):=(Bq.new _ _ _ _ _ (by simp)).alloc _
 have hR0:Bq ((((w).alloc (.cells #[.bool sa,.slice pa na na,.bool ta,.slice qa ma ma] 45)).alloc (.cells #[.bool sb,.slice pb nb nb,.bool tb,.slice qb mb mb] 45)).alloc (.cells #[.bool false,.slice none 0 0,.bool false,.slice none 0 0] 45)) (w.heap.size+1+1) (.bool false) (.slice none 0 0) (.bool false) (.slice none 0 0):=Bq.new _ _ _ _ _ (by simp)
 have hW:Below w.heap.size w ((((w).alloc (.cells #[.bool sa,.slice pa na na,.bool ta,.slice qa ma ma] 45)).alloc (.cells #[.bool sb,.slice pb nb nb,.bool tb,.slice qb mb mb] 45)).alloc (.cells #[.bool false,.slice none 0 0,.bool false,.slice none 0 0] 45)):=(((Below.refl _ _).alloc (Nat.le_refl _) _).alloc (by simp) _).alloc (by simp;omega) _
 generalize (((w).alloc (.cells #[.bool sa,.slice pa na na,.bool ta,.slice qa ma ma] 45)).alloc (.cells #[.bool sb,.slice pb nb nb,.bool tb,.slice qb mb mb] 45)).alloc (.cells #[.bool false,.slice none 0 0,.bool false,.slice none 0 0] 45)=W at *
 have hqa:=ha.below hW
 have hqb:=hb.below hW
 have nA:Hid (w.heap.size≠w.heap.size+1+1):=(by omega:w.heap.size≠w.heap.size+1+1)
 have nB:Hid (w.heap.size+1≠w.heap.size+1+1):=(by omega:w.heap.size+1≠w.heap.size+1+1)
 have a0:=hA0.c0
 have a1:=hA0.c1
 have a2:=hA0.c2
 have a3:=hA0.c3
 have b0:=hB0.c0
 have b1:=hB0.c1
 have b2:=hB0.c2
 have b3:=hB0.c3
 go_region_held3 (fun w'=>w'.cell? ⟨w.heap.size,0,none⟩=some (.bool sa)∧w'.cell? ⟨w.heap.size,1,none⟩=some (.slice pa na na)∧w'.cell? ⟨w.heap.size,2,none⟩=some (.bool ta)∧w'.cell? ⟨w.heap.size,3,none⟩=some (.slice qa ma ma)∧w'.cell? ⟨w.heap.size+1,0,none⟩=some (.bool sb)∧w'.cell? ⟨w.heap.size+1,1,none⟩=some (.slice pb nb nb)∧w'.cell? ⟨w.heap.size+1,2,none⟩=some (.bool tb)∧w'.cell? ⟨w.heap.size+1,3,none⟩=some (.slice qb mb mb)) (first|with_reducible exact⟨a0,a1,a2,a3,b0,b1,b2,b3⟩|with_reducible exact gU ⟨a0,a1,a2,a3,b0,b1,b2,b3⟩ hV1|with_reducible exact gU ⟨a0,a1,a2,a3,b0,b1,b2,b3⟩ hV2|with_reducible exact gU ⟨a0,a1,a2,a3,b0,b1,b2,b3⟩ hV3|with_reducible exact sC ⟨a0,a1,a2,a3,b0,b1,b2,b3⟩ hV3 nA nB|(simp[go_sem, *];done))
  (first
   |(go_at_call_of 43 (Value.agg #[.bool sa,.slice pa na na]);go_at_call_of 43 (Value.agg #[.bool sb,.slice pb nb nb]);refine(eB hqa.num.drew hqb.num.drew (by omega) (by omega)).mono ?_;rintro e v1 ⟨s1,p1,n1,rfl,hr1,hF1,hv1⟩;have hV1:=aC hv1)
   |(go_at_call_of 43 (Value.agg #[.bool ta,.slice qa ma ma]);go_at_call_of 43 (Value.agg #[.bool tb,.slice qb mb mb]);refine(eB (hqa.den.below hV1) (hqb.den.below hV1) (by omega) (by omega)).mono ?_;rintro e v2 ⟨s2,p2,n2,rfl,hr2,hF2,hv2⟩;have hV2:=ae hV1 hv2)
   |(go_at_call 49;refine(nL (K:=Ka+Kb) (hr1.below hv2) hr2 (by omega) (by omega) (by rw[hval.out];exact hs.out)).mono ?_;rintro e v3 ⟨s3,p3,n3,t3,q3,m3,rfl,hm,hF3,hF3',hv3⟩;have hV3:=ae hV2 hv3;rw[hval.out] at hm;obtain⟨r0,r1,r2,r3,f0,f1,f2,f3⟩:=hR0.later hV3))
 clear a0 a1 a2 a3 b0 b1 b2 b3
 go_wp2
 refine bodyPost_ret (v:=.agg #[.bool s3,.slice p3 n3 n3,.bool t3,.slice q3 m3 m3]) (by simp[results,Tryz.results46,go_sem,r0,r1,r2,r3]) rfl ?_
 have sV:=hV2.size
 exact lg hW (by omega) hR0.lt hV3 hm (fun a ha=>Nat.le_trans sV (hF3 a ha)) (fun a ha=>Nat.le_trans sV (hF3' a ha))
end Go.Proofs.YtfnkomoickanfaaGreatDoor
