/- Own. -/
import Derived.Test.YtfnkomoickanfaaGreatDoorCv
import Derived.Shelf.Small.Bits
import Derived.StillTailTactics
set_option linter.unusedVariables false
set_option linter.unusedSimpArgs false
set_option maxHeartbeats 8000000
set_option maxRecDepth 100000
namespace Go.Proofs.YtfnkomoickanfaaGreatDoor
open Go.RowKit
theorem Cx{xs:List Int}(h:ad xs=xs.length):tr xs=xs:=by rw[tr,h,List.take_length]
def pd(k:Nat):Int:=65536^k
theorem jU:pd 0=1:=rfl
theorem bu(k:Nat):pd (k+1)=65536*pd k:=by unfold pd;rw[Int.pow_succ,Int.mul_comm]
theorem cB(k:Nat):0<pd k:=Int.pow_pos (by decide)
theorem oA(a b:Nat):pd (a+b)=pd a*pd b:=Int.pow_add ..
theorem ct{a b:Nat}(h:a≤b):pd a≤pd b:=by
 obtain⟨c,rfl⟩:=Nat.exists_eq_add_of_le h
 rw[oA]
 have h1:=cB a
 have h2:=cB c
 have:pd a*1≤pd a*pd c:=Int.mul_le_mul_of_nonneg_left (by omega) (by omega)
 omega
theorem sN(k:Nat):pd (2*k)=pw k:=by
 induction k with
 |zero=>rfl
 |succ k ih=>rw[show 2*(k+1)=2*k+1+1 by omega,bu,bu,aP,ih];omega
theorem b8(a b:List Int):vd (a++b)=vd a+pd a.length*vd b:=by
 induction a with
 |nil=>simp[vd,jU]
 |cons x r ih=>
  simp only[List.cons_append,vd,List.length_cons,bu,ih,Int.mul_add,Int.mul_assoc]
  omega
theorem cJ(x:Int):vd [x]=x:=by simp[vd]
theorem aB(xs:List Int)(k:Nat):vd (xs.take (k+1))=vd (xs.take k)+pd k*gx xs k:=by
 by_cases h:k<xs.length
 ·rw[lV xs k h,b8,cJ,List.length_take,Nat.min_eq_left (by omega)]
 ·rw[aJ xs k (by omega) k (Nat.le_refl _),List.take_of_length_le (by omega),List.take_of_length_le (by omega)];simp
theorem im:U16 []:=fun j=>by rw[lB];decide
theorem cI{xs:List Int}(h:U16 xs)(k:Nat):U16 (xs.take k):=fun j=>by
 by_cases hj:j<k
 ·rw[bQ xs k j hj];exact h j
 ·rw[aJ (xs.take k) k (by simp;omega) j (by omega)];decide
theorem eN{xs:List Int}(h:U16 xs)(k:Nat):U16 (xs.drop k):=fun j=>by rw[aY];exact h _
theorem cg{a b:List Int}(ha:U16 a)(hb:U16 b):U16 (a++b):=fun j=>by
 by_cases hj:j<a.length
 ·rw[cO a b j hj];exact ha j
 ·rw[b_ a b j (by omega)];exact hb _
theorem cQ{x:Int}(h:0≤x∧x<65536):U16 [x]:=nI h im
theorem tL{x:Int}{r:List Int}(h:U16 (x::r)):(0≤x∧x<65536)∧U16 r:=
 ⟨by have:=h 0;rwa [bZ] at this,fun j=>by have:=h (j+1);rwa [cZ] at this⟩
theorem ay{xs:List Int}(h:U16 xs):0≤vd xs:=by
 induction xs with
 |nil=>simp[vd]
 |cons x r ih=>obtain⟨h1,h2⟩:=tL h;have:=ih h2;simp only[vd];omega
theorem eo{xs:List Int}(h:U16 xs):vd xs<pd xs.length:=by
 induction xs with
 |nil=>simp[vd,jU]
 |cons x r ih=>obtain⟨h1,h2⟩:=tL h;have:=ih h2;simp only[vd,List.length_cons,bu];omega
theorem lX(xs:List Int)(k:Nat)(h:k≤xs.length):vd xs=vd (xs.take k)+pd k*vd (xs.drop k):=by
 have:=b8 (xs.take k) (xs.drop k)
 rwa [List.take_append_drop,List.length_take,Nat.min_eq_left h] at this
theorem oS(a:List Int)(j:Nat)(h:j<a.length):vd a=vd (a.take j)+pd j*gx a j+pd (j+1)*vd (a.drop (j+1)):=by
 rw[lX a (j+1) (by omega),aB a j]
theorem tM{a b:List Int}(ha:U16 a)(hb:U16 b)(j:Nat)(h1:j<a.length)(h2:j<b.length)(hd:a.drop (j+1)=b.drop (j+1))(h:gx a j<gx b j):vd a<vd b:=by
 rw[oS a j h1,oS b j h2,hd]
 have l1:=eo (cI ha j)
 have l2:=ay (cI hb j)
 rw[List.length_take,Nat.min_eq_left (by omega)] at l1
 have l3:pd j*gx a j≤pd j*(gx b j-1):=Int.mul_le_mul_of_nonneg_left (by omega) (Int.le_of_lt (cB j))
 rw[Int.mul_sub,Int.mul_one] at l3
 omega
theorem cn{xs:List Int}(h:U16 xs)(ht:0<ad xs):pd (ad xs-1)≤vd xs:=by
 have hl:=ao xs
 have ht':=cd xs ht
 have hg:=h (ad xs-1)
 rw[oS xs (ad xs-1) (by omega)]
 have h1:=ay (cI h (ad xs-1))
 have h2:=ay (eN h (ad xs-1+1))
 have h3:=cB (ad xs-1)
 have h4:pd (ad xs-1)*1≤pd (ad xs-1)*gx xs (ad xs-1):=Int.mul_le_mul_of_nonneg_left (by omega) (by omega)
 have h5:=Int.mul_nonneg (Int.le_of_lt (cB (ad xs-1+1))) h2
 omega
theorem oT{xs:List Int}(h:U16 xs):vd xs<pd (ad xs):=by
 have:=eo (j6 h)
 rwa [jg,au] at this
theorem bg{xs:List Int}(h:U16 xs):ad xs=0↔vd xs=0:=by
 constructor
 ·intro h0
  rw[←jg,tr,h0];rfl
 ·intro h0
  rcases Nat.eq_zero_or_pos (ad xs) with ht|ht
  ·exact ht
  ·have:=cn h ht;have:=cB (ad xs-1);omega
theorem e_{a b:List Int}(ha:U16 a)(hb:U16 b)(h:ad a<ad b):vd a<vd b:=by
 have h1:=oT ha
 have h2:=cn hb (by omega)
 have h3:pd (ad a)≤pd (ad b-1):=ct (by omega)
 omega
theorem Cz(n:Nat):vd (aw n)=0:=by
 have:=jf [] (aw n) (dN n)
 simpa [vd] using this
theorem eY(n:Nat):U16 (aw n):=fun j=>by rw[dN];decide
theorem gP(P t:Int):P*(t%65536)+65536*P*(t/65536)=P*t:=by
 have h:=Int.emod_add_mul_ediv t 65536
 have e:65536*P*(t/65536)=P*(65536*(t/65536)):=by
  rw[Int.mul_comm 65536 P,Int.mul_assoc]
 rw[e,←Int.mul_add,h]
theorem zt(R:List Int)(j:Nat)(v:Int)(h:j<R.length):vd (R.set j v)=vd R+pd j*(v-gx R j):=by
 rw[oS R j h,oS (R.set j v) j (by rw[List.length_set];exact h),bt R j v h,List.take_set_of_le (Nat.le_refl _),List.drop_set_of_lt (by omega),Int.mul_sub]
 omega
theorem ck{R:List Int}(h:U16 R)(j:Nat){v:Int}(hv:0≤v∧v<65536):U16 (R.set j v):=fun k=>by
 by_cases hk:j=k
 ·subst hk
  by_cases hl:j<R.length
  ·rw[bt R j v hl];exact hv
  ·rw[aJ (R.set j v) R.length (by simp) j (by omega)];decide
 ·rw[bI R j k v hk];exact h k
open Go.Shelf
def AR:Go.Shelf.Ren:=⟨fun|128=>162|n=>n,fun|3=>3|4=>4|5=>5|9=>9|46=>163|51=>132|n=>n,fun n=>n⟩
theorem yu:Lays.n128 Tryz.prog AR:=
 {mixed:=by kernel_rfl
  f128:=by kernel_rfl
  t3:=by kernel_rfl
  a3:=fun _=>by kernel_rfl
  z3:=fun _=>by kernel_rfl
  v3:=fun _=>by kernel_rfl
  t4:=by kernel_rfl
  a4:=fun _=>by kernel_rfl
  z4:=fun _=>by kernel_rfl
  v4:=fun _=>by kernel_rfl
  t5:=by kernel_rfl
  a5:=fun _=>by kernel_rfl
  z5:=fun _=>by kernel_rfl
  v5:=fun _=>by kernel_rfl
  t9:=by kernel_rfl
  a9:=fun _=>by kernel_rfl
  z9:=fun _=>by kernel_rfl
  v9:=fun _=>by kernel_rfl
  t46:=by kernel_rfl
  a46:=fun _=>by kernel_rfl
  z46:=fun _=>by kernel_rfl
  v46:=fun _=>by kernel_rfl
  t51:=by kernel_rfl
  a51:=fun _=>by kernel_rfl
  z51:=fun _=>by kernel_rfl
  v51:=fun _=>by kernel_rfl}
theorem pX(x:Int)(w:World)(h0:0≤x)(h1:x≤4294967295):
  Calls Tryz.prog 162 #[.int .u32 x] w fun e w'=>e=.returned (.int .i64 (Lib.bitLen x.toNat))∧w'=w:=Any.bits_Len32 yu x w h0 h1
def IB(b:Nat)(x:Int):Prop:=0≤x∧x<2^b∧(b=0∨(2:Int)^(b-1)≤x)
theorem ef{a b:Nat}(h:a≤b):(2:Int)^a≤2^b:=by
 obtain⟨c,rfl⟩:=Nat.exists_eq_add_of_le h
 rw[Int.pow_add]
 have h1:(0:Int)<2^a:=Int.pow_pos (by decide)
 have h2:(0:Int)<2^c:=Int.pow_pos (by decide)
 have:(2:Int)^a*1≤2^a*2^c:=Int.mul_le_mul_of_nonneg_left (by omega) (by omega)
 omega
theorem IB.uniq{b c:Nat}{x:Int}(h:IB b x)(k:IB c x):b=c:=by
 obtain⟨h0,h1,h2⟩:=h
 obtain⟨k0,k1,k2⟩:=k
 rcases Nat.lt_trichotomy b c with hb|hb|hb
 ·rcases k2 with k2|k2
  ·omega
  ·have:=ef (show b≤c-1 by omega);omega
 ·exact hb
 ·rcases h2 with h2|h2
  ·omega
  ·have:=ef (show c≤b-1 by omega);omega
theorem IB.join{b m:Nat}{x l:Int}(h:IB b x)(hb:0<b)(hl0:0≤l)(hl1:l<2^m):IB (m+b) (l+2^m*x):=by
 obtain⟨h0,h1,h2⟩:=h
 have hm:(0:Int)<2^m:=Int.pow_pos (by decide)
 refine⟨by have:=Int.mul_nonneg (Int.le_of_lt hm) h0;omega,?_,.inr ?_⟩
 ·rw[Int.pow_add]
  have:(2:Int)^m*x≤2^m*(2^b-1):=Int.mul_le_mul_of_nonneg_left (by omega) (by omega)
  rw[Int.mul_sub,Int.mul_one] at this
  omega
 ·rcases h2 with h2|h2
  ·omega
  ·rw[show m+b-1=m+(b-1) by omega,Int.pow_add]
   have:(2:Int)^m*2^(b-1)≤2^m*x:=Int.mul_le_mul_of_nonneg_left h2 (by omega)
   omega
theorem iw(f x:Nat)(h:x<2^f):IB (Lib.bitLenAux f x) x:=by
 induction f generalizing x with
 |zero=>
  have:x=0:=by simpa using h
  subst this
  exact⟨by decide,by decide,.inl rfl⟩
 |succ f ih=>
  simp only[Lib.bitLenAux]
  split
  ·rename_i h0;subst h0;exact⟨by decide,by decide,.inl rfl⟩
  ·rename_i h0
   have hx:x/2<2^f:=by rw[Nat.pow_succ] at h;omega
   obtain⟨a0,a1,a2⟩:=ih (x/2) hx
   refine⟨by omega,?_,.inr ?_⟩
   ·rw[Nat.add_comm,Int.pow_succ];omega
   ·rw[Nat.add_sub_cancel_left]
    rcases a2 with a2|a2
    ·rw[a2] at a1 ⊢
     have e:(2:Int)^0=1:=rfl
     rw[e];omega
    ·have e:(2:Int)^Lib.bitLenAux f (x/2)=2*2^(Lib.bitLenAux f (x/2)-1):=by
      rcases Nat.eq_zero_or_pos (Lib.bitLenAux f (x/2)) with hz|hz
      ·exfalso
       rw[hz] at a1 a2
       have e0:(2:Int)^0=1:=rfl
       have e1:(2:Int)^(0-1)=1:=rfl
       rw[e0] at a1;rw[e1] at a2;omega
      ·obtain⟨c,hc⟩:∃c,Lib.bitLenAux f (x/2)=c+1:=⟨Lib.bitLenAux f (x/2)-1,by omega⟩
       rw[hc,Int.pow_succ,Nat.add_sub_cancel];omega
     rw[e];omega
theorem Bo(k:Nat):pw k=2^(32*k):=by
 unfold pw
 rw[show(4294967296:Int)=2^32 by decide,←Int.pow_mul]
theorem Bm(k:Nat):pd k=2^(16*k):=by
 unfold pd
 rw[show(65536:Int)=2^16 by decide,←Int.pow_mul]
theorem xS{ds:List Int}{k:Nat}(h:U16 ds)(hn:ad ds=ds.length)(h0:0<ds.length)(hk:IB k (gx ds (ds.length-1))):IB (16*(ds.length-1)+k) (vd ds):=by
 have ht:=cd ds (by omega)
 rw[hn] at ht
 have hk0:0<k:=by
  rcases Nat.eq_zero_or_pos k with hz|hz
  ·exfalso
   have h2:=hk.2.1
   have h1:=hk.1
   rw[hz] at h2
   have e0:(2:Int)^0=1:=rfl
   rw[e0] at h2;omega
  ·exact hz
 have hj:=IB.join (m:=16*(ds.length-1)) (l:=vd (ds.take (ds.length-1))) hk hk0 (ay (cI h _)) (by
  have:=eo (cI h (ds.length-1))
  rw[List.length_take,Nat.min_eq_left (by omega),Bm] at this
  exact this)
 have ev:vd ds=vd (ds.take (ds.length-1))+2^(16*(ds.length-1))*gx ds (ds.length-1):=by
  rw[←Bm,←aB ds (ds.length-1),show ds.length-1+1=ds.length by omega,List.take_length]
 rw[ev]
 exact hj
theorem zv(s:Bool)(p q:Option Addr)(n nc m mc:Nat)(xs ys:List Int)(w:World)(hA:AI w p n nc xs)(hB:AI w q m mc ys):
  Calls Tryz.prog 84 #[.agg #[.bool s,.slice p n nc],.agg #[.bool s,.slice q m mc]] w fun e w'=>∃s' p' n' zs,e=.returned (.agg #[.bool s',.slice p' n' n'])∧NI w.heap.size w' s' p' n' zs (ak s xs+ak s ys)∧n'≤n+m+1∧Below w.heap.size w w':=by
 have tx:=ao xs
 have ty:=ao ys
 have lx:=hA.len
 have ly:=hB.len
 have bx:=hA.sml
 have by':=hB.sml
 have hss:(s==s)=true:=by simp
 go_enter Tryz.func84,Tryz.ntmps84
 go_wp2
 go_quiet (first
  |(go_at_call_of 106 (Value.slice p n nc);exact Calls.quiet_of_same (cM (aM p n nc xs _ hA.len hA.cap hA.bnd (((hA.rd.alloc _).alloc _).alloc _))))
  |(go_at_call_of 106 (Value.slice q m mc);exact Calls.quiet_of_same (cM (aM q m mc ys _ hB.len hB.cap hB.bnd (((hB.rd.alloc _).alloc _).alloc _)))))
 go_wp2
 have hX:=rM w (.bool s) (.slice p n nc) (.bool s) (.slice q m mc) (.bool false) (.slice none 0 0) 24 24 24 nq
 generalize ((((w.alloc (Obj.cells #[Value.bool s,Value.slice p n nc] 24)).alloc (Obj.cells #[Value.bool s,Value.slice q m mc] 24)).alloc (Obj.cells #[Value.bool false,Value.slice none 0 0] 24)).drewN nq)=W at *
 have hA':=hA.below hX.below
 have hB':=hB.below hX.below
 have k0:=hX.ca0
 have k1:=hX.ca1
 go_region_held3 (fun w'=>w'.cell? ⟨w.heap.size,0,none⟩=some (.bool s)∧w'.cell? ⟨w.heap.size,1,none⟩=some (.slice p n nc)) (first|(simp[go_sem, *];done)|exact dO (by assumption) (by assumption))
  (first
   |(go_at_call 108;refine(vJ p q (ad xs) nc (ad ys) mc (tr xs) (tr ys) _ (au xs) (au ys) (by omega) (by omega) ?_ (cF hA.u) ?_ (cF hB.u)).mono ?_;exact hA'.tr.rd.drew;exact hB'.tr.rd.drew;rintro e w1 ⟨M,zs,rfl,m1,m2,m3,z1,z2,z3,z4,hb1⟩)
   |(go_at_call 104;refine(bH s (some ⟨W.heap.size,0,none⟩) M M zs _ z1 (Nat.le_refl _) (by unfold maxLen;omega) ?_).mono ?_;exact z4.aQ;rintro e w2 ⟨rfl,hb2⟩;obtain⟨c0,c1,f0,f1⟩:=bM ((aC hb1).trans (hb2.mono (aC hb1).size)) hX.cr0 hX.cr1 hX.fr0 hX.fr1))
 go_wp2
 have hsz:=hX.size
 have hend:=gQ (z:=ak s xs+ak s ys) (sg:=s) (u:=.bool (nsg s zs)) (v:=.slice (nad (some ⟨W.heap.size,0,none⟩) zs) (ad zs) (ad zs)) hX.below (r:=w.heap.size+1+1) (by omega) (by omega) z4 z2 (aC hb1) hb2 (by rw[aE,aE] at z3;simp only[ak,z3];split<;>omega)
 refine bodyPost_ret (v:=.agg #[.bool (nsg s zs),.slice (nad (some ⟨W.heap.size,0,none⟩) zs) (ad zs) (ad zs)]) (by simp[results,Tryz.results84,go_sem,c0,c1]) rfl ⟨_,_,_,tr zs,rfl,hend.1,?_,hend.2⟩
 have:=ao zs
 omega
theorem CC(s:Bool)(p q:Option Addr)(n nc m mc:Nat)(xs ys:List Int)(w:World)(hA:AI w p n nc xs)(hB:AI w q m mc ys)(hge:val ys≤val xs):
  Calls Tryz.prog 84 #[.agg #[.bool s,.slice p n nc],.agg #[.bool (!s),.slice q m mc]] w fun e w'=>∃s' p' n' zs,e=.returned (.agg #[.bool s',.slice p' n' n'])∧NI w.heap.size w' s' p' n' zs (ak s xs+ak (!s) ys)∧n'≤n+m+1∧Below w.heap.size w w':=by
 have tx:=ao xs
 have ty:=ao ys
 have lx:=hA.len
 have ly:=hB.len
 have bx:=hA.sml
 have by':=hB.sml
 have hss:(s == !s)=false:=by cases s<;>rfl
 have hic:0≤a_ (val (tr xs)) (val (tr ys)):=by
  rw[aE,aE,a_,if_neg (by omega)];split<;>decide
 go_enter Tryz.func84,Tryz.ntmps84
 go_wp2
 go_quiet (first
  |(go_at_call_of 106 (Value.slice p n nc);exact Calls.quiet_of_same (cM (aM p n nc xs _ hA.len hA.cap hA.bnd (((hA.rd.alloc _).alloc _).alloc _))))
  |(go_at_call_of 106 (Value.slice q m mc);exact Calls.quiet_of_same (cM (aM q m mc ys _ hB.len hB.cap hB.bnd (((hB.rd.alloc _).alloc _).alloc _)))))
 go_wp2_with fail
 have hX0:=rM w (.bool s) (.slice p n nc) (.bool !s) (.slice q m mc) (.bool false) (.slice none 0 0) 24 24 24 nq
 generalize ((((w.alloc (Obj.cells #[Value.bool s,Value.slice p n nc] 24)).alloc (Obj.cells #[Value.bool !s,Value.slice q m mc] 24)).alloc (Obj.cells #[Value.bool false,Value.slice none 0 0] 24)).drewN nq)=W0 at *
 have hA0:=(hA.below hX0.below).tr
 have hB0:=(hB.below hX0.below).tr
 refine(dA p q (ad xs) nc (ad ys) mc (tr xs) (tr ys) _ (au xs) (au ys) hA0.cap hA0.bnd hB0.cap hB0.bnd hA0.rd hA0.u hB0.rd hB0.u).mono ?_
 rintro e W ⟨rfl,hb0⟩
 have hX:=hX0.later hb0
 have hA':=hA.below hX.below
 have hB':=hB.below hX.below
 have k0:=hX.ca0
 have k1:=hX.ca1
 clear hX0 hA0 hB0 hb0 W0
 go_wp2
 go_region_held3 (fun w'=>w'.cell? ⟨w.heap.size,0,none⟩=some (.bool s)∧w'.cell? ⟨w.heap.size,1,none⟩=some (.slice p n nc)) (first|(simp[go_sem, *];done)|exact dO (by assumption) (by assumption))
  (first
   |(go_at_call 109;refine(fG p q (ad xs) nc (ad ys) mc (tr xs) (tr ys) _ (au xs) (au ys) hB'.tr.cap hB'.bnd (by omega) ?_ (cF hA.u) ?_ (cF hB.u) (by rw[aE,aE];exact hge)).mono ?_;exact hA'.tr.rd.drew;exact hB'.tr.rd.drew;rintro e w1 ⟨zs,rfl,z1,z2,z3,z4,hb1⟩)
   |(go_at_call 104;refine(bH s (some ⟨W.heap.size,0,none⟩) (ad xs) (ad xs) zs _ z1 (Nat.le_refl _) (by unfold maxLen;omega) ?_).mono ?_;exact z4.aQ;rintro e w2 ⟨rfl,hb2⟩;obtain⟨c0,c1,f0,f1⟩:=bM ((aC hb1).trans (hb2.mono (aC hb1).size)) hX.cr0 hX.cr1 hX.fr0 hX.fr1))
 go_wp2
 have hsz:=hX.size
 have hend:=gQ (z:=ak s xs+ak (!s) ys) (sg:=s) (u:=.bool (nsg s zs)) (v:=.slice (nad (some ⟨W.heap.size,0,none⟩) zs) (ad zs) (ad zs)) hX.below (r:=w.heap.size+1+1) (by omega) (by omega) z4 z2 (aC hb1) hb2 (by rw[aE,aE] at z3;cases s<;>simp[ak,z3]<;>omega)
 refine bodyPost_ret (v:=.agg #[.bool (nsg s zs),.slice (nad (some ⟨W.heap.size,0,none⟩) zs) (ad zs) (ad zs)]) (by simp[results,Tryz.results84,go_sem,c0,c1]) rfl ⟨_,_,_,tr zs,rfl,hend.1,?_,hend.2⟩
 have:=ao zs
 omega
theorem CD(s:Bool)(p q:Option Addr)(n nc m mc:Nat)(xs ys:List Int)(w:World)(hA:AI w p n nc xs)(hB:AI w q m mc ys)(hge:val xs<val ys):
  Calls Tryz.prog 84 #[.agg #[.bool s,.slice p n nc],.agg #[.bool (!s),.slice q m mc]] w fun e w'=>∃s' p' n' zs,e=.returned (.agg #[.bool s',.slice p' n' n'])∧NI w.heap.size w' s' p' n' zs (ak s xs+ak (!s) ys)∧n'≤n+m+1∧Below w.heap.size w w':=by
 have tx:=ao xs
 have ty:=ao ys
 have lx:=hA.len
 have ly:=hB.len
 have bx:=hA.sml
 have by':=hB.sml
 have hss:(s == !s)=false:=by cases s<;>rfl
 have hic:¬0≤a_ (val (tr xs)) (val (tr ys)):=by
  rw[aE,aE,bC hge];decide
 go_enter Tryz.func84,Tryz.ntmps84
 go_wp2
 go_quiet (first
  |(go_at_call_of 106 (Value.slice p n nc);exact Calls.quiet_of_same (cM (aM p n nc xs _ hA.len hA.cap hA.bnd (((hA.rd.alloc _).alloc _).alloc _))))
  |(go_at_call_of 106 (Value.slice q m mc);exact Calls.quiet_of_same (cM (aM q m mc ys _ hB.len hB.cap hB.bnd (((hB.rd.alloc _).alloc _).alloc _)))))
 go_wp2_with fail
 have hX0:=rM w (.bool s) (.slice p n nc) (.bool !s) (.slice q m mc) (.bool false) (.slice none 0 0) 24 24 24 nq
 generalize ((((w.alloc (Obj.cells #[Value.bool s,Value.slice p n nc] 24)).alloc (Obj.cells #[Value.bool !s,Value.slice q m mc] 24)).alloc (Obj.cells #[Value.bool false,Value.slice none 0 0] 24)).drewN nq)=W0 at *
 have hA0:=(hA.below hX0.below).tr
 have hB0:=(hB.below hX0.below).tr
 refine(dA p q (ad xs) nc (ad ys) mc (tr xs) (tr ys) _ (au xs) (au ys) hA0.cap hA0.bnd hB0.cap hB0.bnd hA0.rd hA0.u hB0.rd hB0.u).mono ?_
 rintro e W ⟨rfl,hb0⟩
 have hX:=hX0.later hb0
 have hA':=hA.below hX.below
 have hB':=hB.below hX.below
 have k0:=hX.cb0
 have k1:=hX.cb1
 clear hX0 hA0 hB0 hb0 W0
 go_wp2
 go_region_held3 (fun w'=>w'.cell? ⟨w.heap.size+1,0,none⟩=some (.bool !s)∧w'.cell? ⟨w.heap.size+1,1,none⟩=some (.slice q m mc)) (first|(simp[go_sem, *];done)|exact dO (by assumption) (by assumption))
  (first
   |(go_at_call 109;refine(fG q p (ad ys) mc (ad xs) nc (tr ys) (tr xs) _ (au ys) (au xs) hA'.tr.cap hA'.bnd (by omega) ?_ (cF hB.u) ?_ (cF hA.u) (by rw[aE,aE];omega)).mono ?_;exact hB'.tr.rd.drew;exact hA'.tr.rd.drew;rintro e w1 ⟨zs,rfl,z1,z2,z3,z4,hb1⟩)
   |(go_at_call 104;refine(bH (!s) (some ⟨W.heap.size,0,none⟩) (ad ys) (ad ys) zs _ z1 (Nat.le_refl _) (by unfold maxLen;omega) ?_).mono ?_;exact z4.aQ;rintro e w2 ⟨rfl,hb2⟩;obtain⟨c0,c1,f0,f1⟩:=bM ((aC hb1).trans (hb2.mono (aC hb1).size)) hX.cr0 hX.cr1 hX.fr0 hX.fr1))
 go_wp2
 have hsz:=hX.size
 have hend:=gQ (z:=ak s xs+ak (!s) ys) (sg:=!s) (u:=.bool (nsg (!s) zs)) (v:=.slice (nad (some ⟨W.heap.size,0,none⟩) zs) (ad zs) (ad zs)) hX.below (r:=w.heap.size+1+1) (by omega) (by omega) z4 z2 (aC hb1) hb2 (by rw[aE,aE] at z3;cases s<;>simp[ak,z3]<;>omega)
 refine bodyPost_ret (v:=.agg #[.bool (nsg (!s) zs),.slice (nad (some ⟨W.heap.size,0,none⟩) zs) (ad zs) (ad zs)]) (by simp[results,Tryz.results84,go_sem,c0,c1]) rfl ⟨_,_,_,tr zs,rfl,hend.1,?_,hend.2⟩
 have:=ao zs
 omega
theorem oV(s t:Bool)(p q:Option Addr)(n nc m mc:Nat)(xs ys:List Int)(w:World)(hA:AI w p n nc xs)(hB:AI w q m mc ys):
  Calls Tryz.prog 84 #[.agg #[.bool s,.slice p n nc],.agg #[.bool t,.slice q m mc]] w fun e w'=>∃s' p' n' zs,e=.returned (.agg #[.bool s',.slice p' n' n'])∧NI w.heap.size w' s' p' n' zs (ak s xs+ak t ys)∧n'≤n+m+1∧Below w.heap.size w w':=by
 by_cases h:s=t
 ·subst h;exact zv s p q n nc m mc xs ys w hA hB
 ·have:t = !s:=by cases s<;>cases t<;>simp_all
  subst this
  rcases Int.lt_or_le (val xs) (val ys) with hv|hv
  ·exact CD s p q n nc m mc xs ys w hA hB hv
  ·exact CC s p q n nc m mc xs ys w hA hB hv
theorem B_{w:World}{K:Nat}{z:Int}{e:Ent}(h:EV w K z e)(hK:K≤1000):
  Calls Tryz.prog 91 #[.agg #[.bool e.s,.slice e.p e.n e.c]] w fun r w'=>∃f:Ent,r=.returned (.agg #[.bool f.s,.slice f.p f.n f.c])∧NV w.heap.size w' K z f∧Below w.heap.size w w':=by
 obtain⟨xs,h1,h2,h3⟩:=h
 obtain⟨es,ep,en,ec⟩:=e
 simp only at h1 h2 h3 ⊢
 have HV:Hid (ak es xs=z):=h2
 clear h2
 go_enter Tryz.func91,Tryz.ntmps91
 go_wp2_with fail
 have hR0:Bx ((w.alloc (.cells #[.bool es,.slice ep en ec] 24)).alloc (.cells #[.bool false,.slice none 0 0] 24)) (w.heap.size+1) (.bool false) (.slice none 0 0):=Bx.new _ _ _ (by simp)
 have hW0:Below w.heap.size w ((w.alloc (.cells #[.bool es,.slice ep en ec] 24)).alloc (.cells #[.bool false,.slice none 0 0] 24)):=((Below.refl _ _).alloc (Nat.le_refl _) _).alloc (by simp) _
 generalize (w.alloc (.cells #[.bool es,.slice ep en ec] 24)).alloc (.cells #[.bool false,.slice none 0 0] 24)=W0 at *
 have hz:AI W0 none 0 0 []:=⟨rfl,Nat.le_refl _,Nat.zero_le _,Nat.zero_le _,Rd.nil,fun j=>by simp[gx]⟩
 refine(oV es false ep none en ec 0 0 xs [] _ (h1.below hW0) hz).mono ?_
 rintro e w1 ⟨s1,p1,n1,x1,rfl,hN1,hn1,hb1⟩
 have hv:ak es xs+ak false []=z:=by rw[HV.out];simp[ak,val]
 rw[hv] at hN1
 have hle:n1≤K:=hN1.le (by have h5:=h1.lt es;rw[HV.out] at h5;have:=bD h3;omega)
 have HN:Hid (NI W0.heap.size w1 s1 p1 n1 x1 z):=hN1
 have sR:w.heap.size+1<W0.heap.size:=block_lt_of_cell hR0.c0
 obtain⟨r0,r1,f0,f1⟩:=hR0.later hb1
 clear hv hN1 hz
 go_wp2
 refine bodyPost_ret (v:=.agg #[.bool s1,.slice p1 n1 n1]) (by simp[results,Tryz.results91,go_sem,r0,r1]) rfl ⟨⟨s1,p1,n1,n1⟩,rfl,⟨x1,?_,rfl,hle⟩,?_⟩
 ·exact((HN.out.set (a:=⟨w.heap.size+1,0,none⟩) sR _).set (a:=⟨w.heap.size+1,1,none⟩) sR _).mono hW0.size
 ·exact c8 (ae hW0 hb1) (by omega) _ _
def EaI(O:World→Int→Ent→Prop)(φ:Int→Int)(g n k:Nat)(zs:List Int)(W0 wr:World):Prop:=
 ∃es,cK wr g 24 es∧es.length=n∧(∀j,j<k→O wr (φ (gx zs j)) (ge es j)∧(0<(ge es j).n→Off g (ge es j).p))∧Below g W0 wr
theorem zW(K:Nat)(p:Option Addr)(n nc:Nat)(es:List Ent)(zs:List Int)(w:World)(h:PA w K p n nc es zs)(hn:n≤1000000)(J:Nat)(C:Array Value)(hE:∀args w',Sem.run Tryz.prog (callFunc J args) w'=.ok (.enter J args) w')
  (O:World→Int→Ent→Prop) (φ:Int→Int) (hOb:∀w w' z e,O w z e→Below w.heap.size w w'→O w' z e) (hOs:∀w z e g o u v,O w z e→(0<e.n→Off g e.p)→O ((w.setCell ⟨g,o,none⟩ u).setCell ⟨g,o+1,none⟩ v) z e)
  (hJ:∀w' z e,Below w.heap.size w w'→EV w' K z e→Calls Tryz.prog J (#[.agg #[.bool e.s,.slice e.p e.n e.c]]++C) w' fun r w''=>∃f:Ent,r=.returned (.agg #[.bool f.s,.slice f.p f.n f.c])∧O w'' (φ z) f∧(0<f.n→f.p=e.p∧f.n≤e.n∨az w'.heap.size f.p)∧Below w'.heap.size w' w''):
  Calls Tryz.prog 89 #[.slice p n nc,.func (.func J) #[] C] w fun r w'=>∃q fs,r=.returned (.slice q n n)∧fs.length=n∧PL w' q fs∧az w.heap.size q∧(∀j,j<n→O w' (φ (gx zs j)) (ge fs j))∧Below w.heap.size w w':=by
 have hmk:=B1 n (by omega)
 have hle:=h.el
 have HOb:=(show Hid _ from hOb)
 have HOs:=(show Hid _ from hOs)
 have HJ:=(show Hid _ from hJ)
 clear hOb hOs hJ
 go_enter Tryz.func89,Tryz.ntmps89
 go_wp2_with fail
 have hR0:=cK.new w 24 (ezs n)
 have hW0:Below w.heap.size w (w.alloc (.cells (ca2 (ezs n)) 24)):=(Below.refl _ _).alloc (Nat.le_refl _) _
 have hs0:w.heap.size+1≤(w.alloc (.cells (ca2 (ezs n)) 24)).heap.size:=by simp
 generalize w.alloc (.cells (ca2 (ezs n)) 24)=W0 at *
 clear hmk
 go_loopw [6,7,13] (fun iv cv kv wr=>∃k:Nat,k≤n∧kv=.int .i64 k∧Hid (EaI O φ w.heap.size n k zs W0 wr)) (fun _ _ kv _=>n-(intOf kv).toNat)
 case atStart=>exact⟨0,Nat.zero_le _,by go_num,ezs n,hR0,gV n,fun j hj=>by omega,Below.refl _ _⟩
 case round=>
  obtain⟨k,hk,rfl,H⟩:=hrel
  rcases Nat.lt_or_ge k n with hlt|hge
  ·obtain⟨es',hR,hel,hev,hB⟩:=H.out
   have hBw:Below w.heap.size w wr:=hW0.trans hB
   have hPA:=h.below hBw
   obtain⟨b,o,hp,hc⟩:=hPA.pl (by omega)
   subst hp
   obtain⟨c0,c1⟩:=hc k (by omega)
   have hv:=hPA.ev k hlt
   have HH:Hid (EaI O φ w.heap.size n k zs W0 wr):=H.out
   clear H hR hel hev hB hc hPA
   go_wp2_with fail
   have hal:=af (o:=.cells #[.bool (ge es k).s,.slice (ge es k).p (ge es k).n (ge es k).c] 24) (Below.refl wr.heap.size wr)
   refine(HJ.out _ (gx zs k) (ge es k) (aW hBw (Nat.le_refl _) hal) (hv.below hal)).mono ?_
   rintro e w1 ⟨f,rfl,hO,hF,hb1⟩
   have hb2:=ae hal hb1
   obtain⟨es',hR,hel,hev,hB⟩:=HH.out
   have hR1:=hR.below hb2 hR.lt
   obtain⟨d0,d1⟩:=hR1.cell k (by omega)
   have f0:=hR1.frozen (k*2)
   have f1:=hR1.frozen (k*2+1)
   have hoff:Hid (0<f.n→Off w.heap.size f.p):=fun h0=>by
    rcases hF h0 with ⟨e1,e2⟩|e1
    ·rw[e1]
     obtain⟨xs,k1,-⟩:=h.ev k hlt
     exact k1.rd.off (Nat.le_refl _) (by rw[k1.len];omega)
    ·have hs1:=hB.size
     have hs2:=hal.size
     exact aT e1 (by omega)
   have HI:Hid (O w1 (φ (gx zs k)) f∧cK w1 w.heap.size 24 es'∧es'.length=n∧(∀j,j<k→O w1 (φ (gx zs j)) (ge es' j)∧(0<(ge es' j).n→Off w.heap.size (ge es' j).p))∧Below w.heap.size W0 w1):=⟨hO,hR1,hel,fun j hj=>⟨HOb.out _ _ _ _ (hev j hj).1 hb2,(hev j hj).2⟩,hB.trans (hb2.mono (by have:=hBw.size;omega))⟩
   clear hO hF hb1 hb2 hR hel hev hB hR1 hal hv c0 c1 HH
   go_wp2
   go_roundw
   case rel=>
    obtain⟨hO,hR,hel,hev,hB⟩:=HI.out
    refine⟨k+1,by omega,by go_num,es'.set k f,hR.set k f (by omega),by simpa using hel,fun j hj=>?_,?_⟩
    ·rcases Nat.lt_or_ge j k with h'|h'
     ·rw[ll _ _ _ _ (by omega)]
      exact⟨HOs.out _ _ _ _ _ _ _ (hev j h').1 (hev j h').2,(hev j h').2⟩
     ·obtain rfl:j=k:=by omega
      rw[mM _ _ _ (by omega)]
      exact⟨HOs.out _ _ _ _ _ _ _ hO hoff.out,hoff.out⟩
    ·exact(hB.setCell (p:=⟨w.heap.size,k*2,none⟩) (Nat.le_refl _) _).setCell (p:=⟨w.heap.size,k*2+1,none⟩) (Nat.le_refl _) _
   case measure=>simp[intOf];omega
  ·obtain rfl:k=n:=by omega
   obtain⟨es',hR,hel,hev,hB⟩:=H.out
   have HI:Hid (cK wr w.heap.size 24 es'∧es'.length=k∧(∀j,j<k→O wr (φ (gx zs j)) (ge es' j))∧Below w.heap.size w wr):=⟨hR,hel,fun j hj=>(hev j hj).1,hW0.trans hB⟩
   clear H hR hel hev hB hge hk
   go_wp2
   go_ret
   obtain⟨hR,hel,hev,hB⟩:=HI.out
   exact⟨_,es',rfl,hel,hR.pl,fun a ha=>by cases ha;exact Nat.le_refl _,hev,hB⟩
end Go.Proofs.YtfnkomoickanfaaGreatDoor
