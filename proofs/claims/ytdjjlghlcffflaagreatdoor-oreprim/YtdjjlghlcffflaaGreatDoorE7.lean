/- Own. -/
import Derived.Test.YtdjjlghlcffflaaGreatDoorE4
set_option linter.unusedVariables false
set_option linter.unusedSimpArgs false
set_option maxHeartbeats 8000000
set_option maxRecDepth 100000
namespace Go.Proofs.YtdjjlghlcffflaaGreatDoor.Ev
open Go.RowKit
section
variable {P:Program} {ρ:Ren} {w:World}
theorem Dp{x:Option LV}{y:Option Value}{d k:Nat}(h:bound x d=some k)(hx:match x,y with|none,none=>True|some u,some v=>VR ρ u v|_,_=>False):
  (x=none/\y=none/\k=d)\/∃q:IntKind,∃i:Int,y=some (.int q i)/\0<=i/\i.toNat=k/\x≠none:=by
 cases x with
 |none=>
  cases y with
  |none=>cases h;exact .inl ⟨rfl,rfl,rfl⟩
  |some v=>exact hx.elim
 |some u=>
  cases y with
  |none=>exact hx.elim
  |some v=>
   unfold bound at h
   split at h
   ·contradiction
   ·rename_i q i e
    cases e
    obtain⟨h1,h2⟩:=ay h
    cases h2
    cases hx
    exact .inr ⟨q,i,rfl,of_decide_eq_true h1,rfl,by simp⟩
   ·cases h
def OR(ρ:Ren):Option LV->Option Value->Prop
 |none,none=>True
 |some u,some v=>VR ρ u v
 |_,_=>False
theorem ij{x:Option LV}{y:Option Value}{d k:Nat}(h:bound x d=some k)(hx:OR ρ x y):
  (x=none/\y=none/\k=d)\/∃q:IntKind,∃i:Int,y=some (.int q i)/\0<=i/\i.toNat=k/\x≠none:=by
 refine Dp (ρ:=ρ) h ?_
 cases x<;>cases y<;>exact hx
theorem eu{q:IntKind}{i:Int}{y:Nat}{c:BoundsCode}(h0:0<=i)(h1:i.toNat<=y):(Instr.sliceBound (.int q i) y c).run P w=.ok i.toNat w:=by
 have:i<=(y:Int):=by omega
 simp[Instr.sliceBound,asIntOf,h0,this]
theorem fK{b:Bool}{len cap l h:Nat}{lo hi:Option LV}{yl yh:Option Value}(hl:bound lo 0=some l)(hh:bound hi len=some h)(h1:OR ρ lo yl)(h2:OR ρ hi yh)(h3:l<=h)(h4:h<=cap):
  (Instr.sliceBounds b len cap yl yh none).run P w=.ok (l,h,cap) w:=by
 rcases ij hl h1 with ⟨_,rfl,rfl⟩|⟨q,i,rfl,hi0,rfl,_⟩<;>rcases ij hh h2 with ⟨_,rfl,rfl⟩|⟨q',j,rfl,hj0,rfl,_⟩
 ·simp[Instr.sliceBounds]
 ·simp[Instr.sliceBounds,eu hj0 h4]
 ·simp[Instr.sliceBounds,eu hi0 h3]
 ·simp[Instr.sliceBounds,eu hj0 h4,eu hi0 h3]
theorem qD{b:Bool}{len cap l h m:Nat}{lo hi:Option LV}{mx:LV}{yl yh:Option Value}{ym:Value}(hl:bound lo 0=some l)(hh:bound hi len=some h)(hm:bound (some mx) 0=some m)(h1:OR ρ lo yl)(h2:OR ρ hi yh)(hhi:hi≠none)(hmv:VR ρ mx ym)(h3:l<=h)(h4:h<=m)(h5:m<=cap):
  (Instr.sliceBounds b len cap yl yh (some ym)).run P w=.ok (l,h,m) w:=by
 rcases ij (ρ:=ρ) (y:=some ym) hm hmv with ⟨e,_⟩|⟨q'',k,e,hk0,rfl,_⟩
 ·cases e
 ·cases e
  rcases ij hl h1 with ⟨_,rfl,rfl⟩|⟨q,i,rfl,hi0,rfl,_⟩<;>rcases ij hh h2 with ⟨e,_,_⟩|⟨q',j,rfl,hj0,rfl,_⟩
  ·exact absurd e hhi
  ·simp[Instr.sliceBounds,eu hj0 h4,eu hk0 h5]
  ·exact absurd e hhi
  ·simp[Instr.sliceBounds,eu hj0 h4,eu hi0 h3,eu hk0 h5]
theorem kG{n off len:Nat}{c:Cap}{x:Value}(h:VR ρ (.slice n off len c) x):∃p cap,ρ n=some p/\x=.slice (some ⟨p.blk,p.base+off,none⟩) len cap/\(∀k,c=.known k->cap=k)/\∀u,c=.more u->cap=p.cap-u:=by
 cases h with
 |known hp=>exact⟨_,_,hp,rfl,fun k e=>(by cases e;rfl),fun u e=>(by cases e)⟩
 |more hp=>exact⟨_,_,hp,rfl,fun k e=>(by cases e),fun u e=>(by cases e;rfl)⟩
theorem Fe{n off len cap:Nat}{c:Cap}{p:Pl}(hp:ρ n=some p)(h1:∀k,c=.known k->cap=k)(h2:∀u,c=.more u->cap=p.cap-u):VR ρ (.slice n off len c) (.slice (some ⟨p.blk,p.base+off,none⟩) len cap):=by
 cases c with
 |known k=>rw[h1 k rfl];exact .known hp
 |more u=>rw[h2 u rfl];exact .more hp
theorem kL{G:Nat->Prop}{s:St}{n off size cap k:Nat}{c:Cap}{sure:Bool}{p:Pl}(hc:vY s n off size c=some (k,sure))(hp:ρ n=some p)(hk1:∀k,c=.known k->cap=k)(hk2:∀u,c=.more u->cap=p.cap-u)(hw:WF s)(hG:Gok G (cond sure s (s.bJ n)))(hr:aV G ρ s.heap w):
  k<=cap/\(sure=true->cap=k):=by
 unfold vY at hc
 split at hc
 ·cases hc
  exact⟨by rw[hk1 _ rfl];exact Nat.le_refl _,fun _=>hk1 _ rfl⟩
 ·rename_i u
  split at hc
  ·rename_i b hbc
   obtain⟨hb,hlp⟩:=pB hbc;obtain⟨h1,h2⟩:=ay hc
   cases h2
   refine⟨?_,(fun e=>by cases e)⟩
   simp only[Bool.and_eq_true,beq_iff_eq] at h1
   obtain⟨⟨h1,h2⟩,h3⟩:=h1;have h1:0<size:=Nat.le_of_ble_eq_true h1;have h2:=Nat.eq_of_beq_eq_true h2;have hGn:=gR hw (by unfold Live;rw[hb];simp) hG
   obtain⟨q,ds,hrep⟩:=(hr.rep n b hGn hb).cells hlp;have:=hrep.at_;rw[hp] at this;cases this
   have hm:=hrep.more size h3;have hf:=hrep.fit;rw[hk2 u rfl];have hle:b.cells.length<=p.cap*size:=by omega
   have h5:(b.cells.length-off)/size<=(p.cap*size-u*size)/size:=Nat.div_le_div_right (by omega)
   rw[<-Nat.sub_mul,Nat.mul_div_cancel _ h1] at h5
   exact h5
  ·cases hc
theorem dx{t elem:TypeId}{a:Option Addr}{len cap size l h m:Nat}{yl yh ym:Option Value}(hu:P.underlying t=some (.slice elem))(hsz:cB P elem=some size)(hb:(Instr.sliceBounds true len cap yl yh ym).run P w=.ok (l,h,m) w):
  (Instr.sliceAt t (.slice a len cap) yl yh ym).run P w=.ok (.slice (if m=l then a else a.map (·.add (l*size))) (h-l) (m-l)) w:=by
 simp[Instr.sliceAt,Instr.slice,run_underlying hu,hb,ct hsz]
theorem eW{x:Option LV}(h:l8 x=true):bound x 0=some 0:=by
 unfold l8 at h
 split at h
 ·rfl
 ·rename_i k i
  have:i=0:=by simpa using h
  subst this;rfl
 ·cases h
theorem Ao{G:Nat->Prop}{s s':St}{t:TypeId}{u:LV}{x:Value}{lo hi mx:Option LV}{yl yh ym:Option Value}{r:R}(h:jV P t u lo hi mx s=some (r,s'))(hx:VR ρ u x)(hl:OR ρ lo yl)(hh:OR ρ hi yh)(hm:OR ρ mx ym)(hw:WF s)(hG:Gok G s')(hr:aV G ρ s.heap w)(hf:bg ρ s s'):
  aA s s'/\∃ρ',Ext G s s' ρ ρ' w w/\∃v,r=.val v/\∃y,(Instr.sliceAt t x yl yh ym).run P w=.ok y w/\VR ρ' v y:=by
 unfold jV at h
 split at h
 ·rename_i elem n off len c hu
  split at h
  ·rename_i size hsz
   split at h
   ·rename_i v s1 hs
    cases h
    unfold uk at hs
    split at hs
    ·cases hs
    ·rename_i k sure hc
     obtain⟨p,cap,hp,rfl,hk1,hk2⟩:=kG hx;have hme:aA s (cond sure s (s.bJ n))/\Ext G s (cond sure s (s.bJ n)) ρ ρ w w:=by
      cases sure
      ·exact⟨cA s n,gO n hr⟩
      ·exact⟨aA.refl s,bB hr⟩
     dsimp only at hs;split at hs
     ·rename_i l h1 hbl hbh
      have hym:ym=none:=by cases ym with
       |none=>rfl
       |some y=>exact hm.elim
      subst hym
      cases hcond:(l.ble h1&&h1.ble k&&(l.beq 0||l.blt k)) with
      |true=>
       rw[hcond] at hs
       cases hs
       obtain⟨hka,hkb⟩:=kL hc hp hk1 hk2 hw hG hr;simp only[Bool.and_eq_true,Bool.or_eq_true] at hcond
       obtain⟨⟨q1,q2⟩,q3⟩:=hcond;have q1:=Nat.le_of_ble_eq_true q1;have q2:=Nat.le_of_ble_eq_true q2;refine⟨hme.1,ρ,hme.2,_,rfl,_,dx hu hsz (fK hbl hbh hl hh q1 (by omega)),?_⟩
       have hadr:(if cap=l then some (⟨p.blk,p.base+off,none⟩:Addr) else (some (⟨p.blk,p.base+off,none⟩:Addr)).map (·.add (l*size)))=some ⟨p.blk,p.base+(off+l*size),none⟩:=by
        rcases q3 with q3|q3
        ·have q3:=Nat.eq_of_beq_eq_true q3
         subst q3;split<;>simp[Addr.add_lit]
        ·have q3:l<k:=Nat.le_of_ble_eq_true q3
         rw[if_neg (by omega)]
         simp[Addr.add_lit,Nat.add_assoc]
       rw[hadr];refine Fe hp (fun j e=>?_) (fun j e=>?_)
       ·cases c with
        |known c0=>simp only[Cap.less,Cap.known.injEq] at e;rw[hk1 c0 rfl];exact e
        |more u=>cases e
       ·cases c with
        |known c0=>cases e
        |more u=>simp only[Cap.less,Cap.more.injEq] at e;rw[hk2 u rfl,<-e];omega
      |false=>
       rw[hcond] at hs
       simp only[cond_false] at hs
       obtain⟨q1,hs⟩:=ay hs;simp only[Bool.and_eq_true] at q1
       obtain⟨q1,q2⟩:=q1;have q1:=Nat.eq_of_beq_eq_true q1;have q2:=Nat.eq_of_beq_eq_true q2
       cases sure with
       |true=>
        simp only[cond_true] at hs hme
        cases hs
        obtain⟨hka,hkb⟩:=kL hc hp hk1 hk2 hw hG hr;have:=hkb rfl;refine⟨hme.1,ρ,hme.2,_,rfl,_,dx hu hsz (fK hbl hbh hl hh (by omega) (by omega)),?_⟩
        rw[if_pos (by omega)]
        have e1:h1-l=0:=by omega
        have e2:cap-l=0:=by omega
        rw[e1,e2];exact .known hp
       |false=>
        simp only[cond_false] at hs hme
        split at hs
        ·rename_i m' s2 hfr
         cases hs
         have hmf:=sx hfr;obtain⟨hka,hkb⟩:=kL hc hp hk1 hk2 hw (hG.back hmf) hr;have hf2:bg ρ (s.bJ n) s':=fun k a b=>hf k (by rw[dk] at a;exact a) b
         have hw2:=hme.1.wf hw;obtain⟨rfl,_,_⟩:=qU hfr;have e1:h1-l=0:=by omega
         by_cases ec:cap=l
         ·refine⟨hme.1.trans hmf,_,hme.2.trans hw hme.1 hmf (uF hfr hw2 hme.2.rep hf2 ⟨p.blk,p.base+off,0⟩),_,rfl,_,dx hu hsz (fK hbl hbh hl hh (by omega) (by omega)),?_⟩
          rw[if_pos ec,e1,ec,Nat.sub_self];exact VR.more (ρ:=ρ.upd (s.bJ n).next ⟨p.blk,p.base+off,0⟩) (n:=(s.bJ n).next) (off:=0) (len:=0) (u:=0) (p:=⟨p.blk,p.base+off,0⟩) (by simp[Ren.upd])
         ·refine⟨hme.1.trans hmf,_,hme.2.trans hw hme.1 hmf (uF hfr hw2 hme.2.rep hf2 ⟨p.blk,p.base+off+l*size,cap-l⟩),_,rfl,_,dx hu hsz (fK hbl hbh hl hh (by omega) (by omega)),?_⟩
          rw[if_neg ec,e1];have:=VR.more (ρ:=ρ.upd (s.bJ n).next ⟨p.blk,p.base+off+l*size,cap-l⟩) (n:=(s.bJ n).next) (off:=0) (len:=0) (u:=0) (p:=⟨p.blk,p.base+off+l*size,cap-l⟩) (by simp[Ren.upd])
          simpa [Addr.add_lit] using this
        ·cases hs
     ·rename_i l h1 m hbl hbh
      split at hs
      ·rename_i m0 hi0 hbm
       obtain⟨q1,hs⟩:=ay hs
       cases hs
       simp only[Bool.and_eq_true] at q1
       obtain⟨⟨q1,q2⟩,q3⟩:=q1;have q1:=Nat.le_of_ble_eq_true q1;have q2:=Nat.le_of_ble_eq_true q2;have q3:=Nat.le_of_ble_eq_true q3;obtain⟨hka,hkb⟩:=kL hc hp hk1 hk2 hw hG hr
       cases ym with
       |none=>exact hm.elim
       |some y0=>
        refine⟨hme.1,ρ,hme.2,_,rfl,_,dx hu hsz (qD hbl hbh hbm hl hh (by simp) hm q1 q2 (by omega)),?_⟩
        by_cases e:m0=l
        ·rw[if_pos e]
         have:m0.beq l=true:=by rw[e];exact Nat.beq_refl l
         rw[this];exact .known hp
        ·rw[if_neg e]
         have:m0.beq l=false:=by
          cases hb:m0.beq l with
          |true=>exact absurd (Nat.eq_of_beq_eq_true hb) e
          |false=>rfl
         rw[this];have:=VR.known (ρ:=ρ) (n:=n) (off:=off+l*size) (len:=h1-l) (c:=m0-l) hp;simpa [Addr.add_lit,Nat.add_assoc] using this
      ·cases hs
     ·cases hs
   ·cases h
  ·cases h
 ·rename_i elem hu
  obtain⟨q1,h⟩:=ay h
  cases h
  simp only[Bool.and_eq_true] at q1
  obtain⟨⟨⟨⟨q1,q2⟩,q3⟩,q4⟩,q5⟩:=q1
  cases hx
  obtain⟨size,hsz0⟩:=Option.isSome_iff_exists.1 q5;have hsz:∀yl yh ym,(Instr.sliceBounds true 0 0 yl yh ym).run P w=.ok (0,0,0) w->(Instr.sliceAt t (.slice none 0 0) yl yh ym).run P w=.ok (.slice none 0 0) w:=fun yl yh ym hb=>by
   rw[dx hu hsz0 hb];simp
  refine⟨aA.refl s,ρ,bB hr,_,rfl,_,hsz _ _ _ ?_,.nilSlice⟩
  cases mx with
  |none=>
   have hym:ym=none:=by cases ym with
    |none=>rfl
    |some y=>exact hm.elim
   subst hym;exact fK (eW q1) (eW q2) hl hh (Nat.le_refl _) (Nat.le_refl _)
  |some m=>
   cases ym with
   |none=>exact hm.elim
   |some y0=>
    refine qD (eW q1) (eW q2) (eW q4) hl hh ?_ hm (Nat.le_refl _) (Nat.le_refl _) (Nat.le_refl _);intro e;subst e;simp at q3
 ·rename_i b hu
  split at h
  ·rename_i l h1 hbl hbh
   obtain⟨q1,h⟩:=ay h
   cases h
   simp only[Bool.and_eq_true] at q1
   have q2:=Nat.le_of_ble_eq_true q1.1;have q3:=Nat.le_of_ble_eq_true q1.2
   cases hx
   have hym:ym=none:=by cases ym with
    |none=>rfl
    |some y=>exact hm.elim
   subst hym;refine⟨aA.refl s,ρ,bB hr,_,rfl,.string (b.extract l h1),?_,.str _⟩;simp[Instr.sliceAt,Instr.slice,run_underlying hu,fK (P:=P) (w:=w) hbl hbh hl hh q2 q3]
  ·cases h
 ·cases h
end
section
variable {P:Program} {ρ:Ren} {w:World}
theorem fI{u:LV}{x:Value}{n:Nat}(h:wQ u=some n)(hx:VR ρ u x)(w:World):(Builtin.lenOf x).run P w=.ok n w:=by
 unfold wQ at h
 split at h<;>cases h<;>cases hx<;>rfl
theorem oe{G:Nat->Prop}{s s':St}{size n:Nat}{u:LV}{x:Value}{cs:List LV}(h:lY s size n u=some (cs,s'))(hx:VR ρ u x)(hw:WF s)(hG:Gok G s')(hr:aV G ρ s.heap w):
  aA s s'/\Ext G s s' ρ ρ w w/\s'.heap=s.heap/\s'.next=s.next/\∃xs:List Value,(∀w',w'.heap=w.heap->(Builtin.firstCells size n x).run P w'=.ok xs.toArray w')/\VRs ρ cs xs:=by
 unfold lY at h
 split at h
 ·rename_i m off ln c
  split at h
  ·rename_i b s1 hl
   obtain⟨hb,rfl,hlp⟩:=look_eq hl
   cases hrd:dq b.cells off (n*size) with
   |none=>rw[hrd] at h;cases h
   |some cs0=>
    rw[hrd] at h
    cases h
    have hGn:=gR hw (by unfold Live;rw[hb];simp) hG
    obtain⟨p,cap,hp,rfl,_,_⟩:=kG hx;obtain⟨q,ds,hrep⟩:=(hr.rep m b hGn hb).cells hlp;have:=hrep.at_;rw[hp] at this;cases this
    refine⟨cA s m,gO m hr,fN s m,dk s m,?_⟩;obtain⟨hle,hout⟩:=iD hrd;have hf:=hrep.fit;have hlen:((ds.toList.drop (p.base+off)).take (n*size)).length=n*size:=by simp;omega
    have hh:∀w'':World,w''.heap=w.heap->(loadCells ⟨p.blk,p.base+off,none⟩ (n*size)).run P w''=.ok ((ds.toList.drop (p.base+off)).take (n*size)).toArray w'':=fun w'' hw''=>by
     have:=run_loadCells_list (P:=P) w'' ⟨p.blk,p.base+off,none⟩ ((ds.toList.drop (p.base+off)).take (n*size)) (fun j v hj=>by
      rw[Addr.add_lit];rw[List.getElem?_take] at hj
      split at hj
      ·rw[List.getElem?_drop] at hj
       simp[World.cell?,hw'',hrep.heap];simpa using hj
      ·cases hj)
     rwa [hlen] at this
    obtain⟨xs,h1,h2,h3⟩:=iy (P:=P) hrep hrd;rw[hh w rfl] at h1
    have e:=congrArg Array.toList ((Result.ok.injEq _ _ _ _).mp h1).1;simp only[] at e
    refine⟨_,hh,?_⟩;have e2:((ds.toList.drop (p.base+off)).take (n*size))=xs:=by simpa using e
    rw[e2];exact h2
  ·cases h
 ·cases h;cases hx
  exact⟨aA.refl s,bB hr,rfl,rfl,[],fun _ _=>rfl,.nil⟩
 ·rename_i b
  cases h;cases hx
  refine⟨aA.refl s,bB hr,rfl,rfl,(b.data.toList.take n).map fun c=>.int .u8 c.toNat,fun w' _=>?_,?_⟩
  ·simp[Builtin.firstCells]
   congr 1;apply Array.ext';simp
  ·refine VRs.oC (by simp) fun i v y hv hy=>?_
   simp only[List.getElem?_map] at hv hy
   cases hc:(b.data.toList.take n)[i]? with
   |none=>rw[hc] at hv;cases hv
   |some c=>rw[hc] at hv hy;cases hv;cases hy;exact .int _ _
 ·cases h
theorem uH(newLen:Nat):∀(r c:Nat),c<=2*newLen+768->Builtin.growBy newLen r c<=2*newLen+768
 |0,c,h=>h
 |r+1,c,h=>by
  unfold Builtin.growBy;split
  ·exact h
  ·exact uH newLen r _ (by omega)
theorem sB(newLen oldCap:Nat)(h:oldCap<=newLen):Builtin.nextslicecap newLen oldCap<=2*newLen+768:=by
 unfold Builtin.nextslicecap;split
 ·omega
 ·split
  ·omega
  ·exact uH _ _ _ (by omega)
theorem gd{t0 t1 elem ty:TypeId}{d1:TypeDesc}{size n len cap:Nat}{base:Option Addr}{x:Value}{xs:List Value}{w':World}(hu0:P.underlying t0=some (.slice elem))(hsz:cB P elem=some size)(hu1:P.underlying t1=some d1)(hd1:∀k,d1≠.int k)
  (hn:∀w,(Builtin.lenOf x).run P w=.ok n w) (hfc:(Builtin.firstCells size n x).run P w=.ok xs.toArray w) (hroom:len+n<=cap)
  (hst:∀a,base=some a->(storeCells (a.add (len*size)) xs).run P w=.ok () w') (hno:base=none->w'=w):
  (Builtin.append_ #[t0,t1] ty #[.slice base len cap,x]).run P w=.ok (.slice base (len+n) cap) w':=by
 cases base with
 |none=>
  have:=hno rfl;subst this;simp[Builtin.append_,run_underlying hu0,run_underlying hu1,ct hsz,hn,hroom,hfc]
 |some a=>
  have:=hst a rfl;simp[Builtin.append_,run_underlying hu0,run_underlying hu1,ct hsz,hn,hroom,hfc,this]
theorem run_append_grow{t0 t1 elem ty:TypeId}{d1:TypeDesc}{size bytes n len cap:Nat}{base:Option Addr}{x zx:Value}{os xs:List Value}(hu0:P.underlying t0=some (.slice elem))(hsz:cB P elem=some size)(hby:iK P elem=some bytes)(hb:bytes<=1000)
  (hzx:∀w,(zeroValue elem).run P w=.ok zx w) (hu1:P.underlying t1=some d1) (hd1:∀k,d1≠.int k)
  (hn:∀w,(Builtin.lenOf x).run P w=.ok n w) (hfo:(Builtin.firstCells size len (.slice base len cap)).run P w.drew=.ok os.toArray w.drew) (hfc:(Builtin.firstCells size n x).run P w.drew=.ok xs.toArray w.drew) (hroom:cap<len+n) (hn1:n<=1000000) (hl1:len<=1000000):
  ∃nc,len+n<=nc/\(Builtin.append_ #[t0,t1] ty #[.slice base len cap,x]).run P w=.ok (.slice (some ⟨w.heap.size,0,none⟩) (len+n) nc) (w.drew.alloc (.cells ((os++xs).toArray++Builtin.zeroCells zx.cells (nc-(len+n))) elem)):=by
 obtain⟨i,hi,hib⟩:=mR hby;have hnc:=sB (len+n) cap (by omega)
 have hbig:¬(2^48<Builtin.nextslicecap (len+n) cap*i.bytes):=by
  have:Builtin.nextslicecap (len+n) cap*i.bytes<=4000768*1000:=Nat.mul_le_mul (by omega) (by omega)
  omega
 refine⟨len+n+w.tape w.drawn (.appendCap (len+n) cap elem)%(2^63-(len+n)),by omega,?_⟩
 have hroom':¬(len+n<=cap):=by omega
 have hask:∀(k:Nat) (w:World),(askRoom k).run P w=.ok () w:=fun k w=>by
  unfold askRoom;split<;>rfl
 have hq:Question.forced (.appendCap (len+n) cap elem)=false:=rfl;have hcut:∀k,Question.cut (.appendCap (len+n) cap elem) k=len+n+k%(2^63-(len+n)):=fun _=>rfl
 simp[Builtin.append_,run_underlying hu0,run_underlying hu1,ct hsz,hn,hroom',ja hi,hbig,hask,hfo,hfc,hzx,hq,hcut,newRow];rw[if_neg (by omega)]
 simp;congr 2;apply Array.ext';simp
theorem uO{s s':St}{m n:Nat}{b:Blk}(hw:WF s)(hl:Live s.heap m)(h:(s.set m none).new b=some (n,s')):aA s s':=by
 have hlt:=cL hw hl;exact(fm none (Nat.lt_of_lt_of_le hlt hw.lt) hl hlt).trans (bG h)
theorem DD{G:Nat->Prop}{s:St}{m:Nat}(hw:WF s)(hl:Live s.heap m)(hr:aV G ρ s.heap w):Ext G s (s.set m none) ρ ρ w w:=by
 have hlt:=cL hw hl;have h9:=Nat.lt_of_lt_of_le hlt hw.lt;have old:∀k,Live (s.set m none).heap k->Live s.heap k:=fun k h e=>by
  by_cases e1:k=m
  ·subst e1;exact h (by rw[dX _ h9,if_pos rfl])
  ·exact h (by rw[dX _ h9,if_neg e1];exact e)
 refine⟨fun _ _=>rfl,⟨fun k c hG hc=>?_,fun k j h1 h2 h3 h4=>hr.sep k j h1 h2 (old k h3) (old j h4),hr.tz,fun k p hG hl hp=>hr.off k p hG (old k hl) hp⟩,fun _ _ _=>rfl,Nat.le_refl _,rfl,rfl,rfl,fun k p h1 h2 _ _=>by rw[cH] at h2;omega⟩
 rw[dX _ h9] at hc
 split at hc
 ·cases hc
 ·exact hr.rep k c hG hc
theorem DE{G:Nat->Prop}{s s':St}{m n:Nat}{b:Blk}{p q:Pl}{cs:Array Value}{w':World}(h:(s.set m none).new b=some (n,s'))(hw:WF s)(hl:Live s.heap m)(hG:G m)(hp:ρ m=some p)(hr:aV G ρ s.heap w)(hf:bg ρ s s')(hq:q.blk=p.blk)
  (hheap:w'.heap[p.blk]?=some (.cells cs b.elem (0,0))) (hother:∀k,k≠p.blk->w'.heap[k]?=w.heap[k]?) (hsz:w'.heap.size=w.heap.size) (hos:w'.os=w.os) (hta:w'.tape=w.tape) (hou:w'.output=w.output)
  (hv:∀(i:Nat) (v:LV),b.cells[i]?=some v->∃x,cs[q.base+i]?=some x/\VR ρ v x) (hfit:q.base+b.cells.length<=cs.size) (hm:∀sz,b.more=some sz->cs.size=q.base+q.cap*sz) (hlp:b.lp=none:=by rfl):
  Ext G s s' ρ (ρ.upd n q) w w':=by
 have hlt:=cL hw hl;have h9:=Nat.lt_of_lt_of_le hlt hw.lt;obtain⟨hn,hlt9,rfl⟩:=mh h;rw[cH] at hn hlt9
 subst hn;have hget:∀k,((s.set m none).heap.put 40 (s.set m none).next (some b)).get k=if k=s.next then some b else if k=m then none else s.heap.get k:=fun k=>by
  rw[iQ _ (by rw[cH];exact hlt9),cH,dX _ h9]
 have hnone:ρ s.next=none:=hf s.next (Nat.le_refl _) (by dsimp only;rw[cH];exact Nat.lt_succ_self _)
 have hle:=Ren.oX q hnone;have old:∀k,Live ((s.set m none).heap.put 40 (s.set m none).next (some b)) k->k≠s.next->k≠m/\Live s.heap k:=fun k hk hne=>by
  unfold Live at hk
  rw[hget,if_neg hne] at hk
  split at hk
  ·exact absurd rfl hk
  ·rename_i e;exact⟨e,hk⟩
 refine⟨fun k hk=>?_,⟨fun k c hGk hc=>?_,fun k j hGk hGj hlk hlj hne pk pj hpk hpj=>?_,hr.tz.eN fun g hg=>hother g fun e=>hr.off m p hG hl hp (by rw[<-e];exact hg),fun k pk hGk hlk hpk e=>?_⟩,fun k hk hne=>hother k ?_,by rw[hsz];exact Nat.le_refl _,hos,hta,hou,fun k pk h1 h2 _ hpk=>?_⟩
 ·unfold Ren.upd
  dsimp only at hk;rw[cH] at hk
  rw[if_neg (by omega)]
 ·dsimp only at hc
  rw[hget] at hc
  split at hc
  ·rename_i e
   subst e
   cases hc
   exact .ofB (p:=q) (cs:=cs) hlp ⟨by simp[Ren.upd],by rw[hq];exact hheap,fun i v hi=>let ⟨x,hx,hvr⟩:=hv i v hi;⟨x,hx,hvr.mono hle⟩,hfit,hm⟩
  ·split at hc
   ·cases hc
   ·rename_i e1 e2
    have hb:=hr.rep k c hGk hc;refine hb.eN hle fun pk hpk=>hother _ ?_
    exact hr.sep k m hGk hG (by unfold Live;rw[hc];simp) hl e2 pk p hpk hp
 ·dsimp only at hlk hlj
  unfold Ren.upd at hpk hpj
  by_cases e1:k=s.next
  ·by_cases e2:j=s.next
   ·omega
   ·obtain⟨hjm,hlj'⟩:=old j hlj e2
    rw[if_pos e1] at hpk
    rw[if_neg e2] at hpj
    cases hpk
    rw[hq];exact hr.sep m j hG hGj hl hlj' (Ne.symm hjm) p pj hp hpj
  ·obtain⟨hkm,hlk'⟩:=old k hlk e1
   rw[if_neg e1] at hpk
   by_cases e2:j=s.next
   ·rw[if_pos e2] at hpj
    cases hpj
    rw[hq];exact hr.sep k m hGk hG hlk' hl hkm pk p hpk hp
   ·obtain⟨hjm,hlj'⟩:=old j hlj e2
    rw[if_neg e2] at hpj
    exact hr.sep k j hGk hGj hlk' hlj' hne pk pj hpk hpj
 ·dsimp only at hlk
  unfold Ren.upd at hpk
  by_cases e1:k=s.next
  ·rw[if_pos e1] at hpk
   cases hpk
   rw[hq] at e
   exact hr.off m p hG hl hp e
  ·rw[if_neg e1] at hpk
   exact hr.off k pk hGk (old k hlk e1).2 hpk e
 ·intro e
  exact hne m p hG hl hp e.symm
 ·dsimp only at h2
  rw[cH] at h2
  have e:k=s.next:=by omega
  unfold Ren.upd at hpk
  rw[if_pos e] at hpk
  cases hpk
  exact .inr ⟨m,p,hG,hlt,hl,hp,hq.symm⟩
end
end Go.Proofs.YtdjjlghlcffflaaGreatDoor.Ev
