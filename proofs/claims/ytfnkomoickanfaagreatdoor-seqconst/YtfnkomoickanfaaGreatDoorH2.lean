/- Own. -/
import Derived.Test.YtfnkomoickanfaaGreatDoorN3
import Derived.Test.YtfnkomoickanfaaGreatDoorZs
set_option linter.unusedVariables false
set_option linter.unusedSimpArgs false
set_option maxHeartbeats 8000000
set_option maxRecDepth 100000
namespace Go.Proofs.YtfnkomoickanfaaGreatDoor.Ev
open Go.RowKit
noncomputable section
abbrev Tab:=Tr (List Ent)
def v8(T:Tab)(P:Program)(rec:Task→St→Option (Ans×St))(f:FuncId)(args:List LV)(s:St):Option (Ans×St):=
 match T.get f with
 |none=>il P rec f args s
 |some es=>match hit es args s with
  |none=>il P rec f args s
  |some r=>some r
def Bv(T:Tab):Task→Program→(Task→St→Option (Ans×St))→St→Option (Ans×St)
 | .call f args=>fun P rec s=>v8 T P rec f args s
 | .code c fr=>fun P rec s=>codeF c P rec fr s
def runT(P:Program)(T:Tab):Nat→Task→St→Option (Ans×St):=
 fun n=>Nat.rec (fun _ _=>none) (fun _ ih t=>Bv T t P ih) n
def D7(l:List Nat)(k:Nat):List Nat:=Nat.rec l (fun _ ih=>ih.tail) k
def vX(k:Nat)(l:List Nat):Bool:=List.rec true (fun a _ ih=>Nat.ble k a&&ih) l
def x6(e:Ent)(v1:LV)(s1:St)(names:List Nat):Bool:=
 s1.wr.isEmpty&&(po (List.range e.bF.length++names) e.v v1&&(ix s1.heap (List.range e.bF.length++names) e.news names&&(jz names&&vX e.bF.length names)))
def x8(P:Program)(T:Tab)(n:Nat)(f:FuncId)(e:Ent):Bool:=
 Nat.ble e.bF.length 1000000000&&match runT P T n (.call f e.args) e.st with
  |some (.call v1,s1)=>x6 e v1 s1 (D7 (reach s1.heap 100000 (nms3 v1) (List.range e.bF.length)) e.bF.length)
  |_=>false
def dq(T:Tab)(f:FuncId)(e:Ent):Tab:=T.put 40 f (some (e::(T.get f).getD []))
end
def c7(P:Program)(T:Tab):Prop:=∀f es,T.get f=some es→∀e∈es,rj P f e
section
variable {P:Program} {T:Tab}
theorem uQ{f:FuncId}{m:List Nat}{args:List LV}{s:St}(hw:WF s):∀{es:List Ent},(∀e∈es,rj P f e)→∀{r:Ans} {s':St},Af m args s es=some (r,s')→ir P (.call f args) s r s'
 | [],_,_,_,h=>by cases h
 |e::es,he,r,s',h=>by
  have h':sel (fits e m args s) (some (e.ans m s)) (Af m args s es)=some (r,s'):=h
  cases hf:fits e m args s with
  |true=>
   rw[hf,tG] at h'
   have h2:e.ans m s=(r,s'):=Option.some.inj h'
   have:=C3 (he e (List.mem_cons_self ..)) hw hf
   rw[h2] at this
   exact this
  |false=>
   rw[hf,zf] at h'
   exact uQ hw (fun e h=>he e (List.mem_cons_of_mem _ h)) h'
theorem pS(hng:cT P)(hmix:P.follows .mixedOrders=true)(hT:c7 P T):∀n,Good P (runT P T n)
 |0=>fun _ _ _ _ _ h=>by cases h
 |n+1=>fun t s r s' hw h=>by
  have ih:=pS hng hmix hT n
  have h':Bv T t P (runT P T n) s=some (r,s'):=h
  cases t with
  |code c fr=>
   have h2:oO (.code c fr) P (runT P T n) s=some (r,s'):=h'
   rw[nH] at h2
   exact kG ih hng hmix _ s r s' hw h2
  |call f args=>
   have h3:v8 T P (runT P T n) f args s=some (r,s'):=h'
   unfold v8 at h3
   split at h3
   ·have h2:oO (.call f args) P (runT P T n) s=some (r,s'):=h3
    rw[nH] at h2
    exact kG ih hng hmix _ s r s' hw h2
   ·rename_i es hes
    split at h3
    ·have h2:oO (.call f args) P (runT P T n) s=some (r,s'):=h3
     rw[nH] at h2
     exact kG ih hng hmix _ s r s' hw h2
    ·rename_i a ha
     cases h3
     exact uQ hw (hT f es hes) ha
theorem rJ{k:Nat}:∀{l:List Nat},vX k l=true→∀n∈l,k≤n
 | [],_,_,h=>by cases h
 |a::l,h,n,hn=>by
  have h':(Nat.ble k a&&vX k l)=true:=h
  rw[Bool.and_eq_true] at h'
  rcases List.mem_cons.1 hn with rfl|hn
  ·exact Nat.le_of_ble_eq_true h'.1
  ·exact rJ h'.2 n hn
theorem Cu:c7 P .e:=fun f es h=>by rw[Tr.fj] at h;cases h
theorem dr(hng:cT P)(hmix:P.follows .mixedOrders=true)(hT:c7 P T){n:Nat}{f:FuncId}{e:Ent}(hf:Nat.ble f 1000000000=true)(h:x8 P T n f e=true):c7 P (dq T f e):=by
 have hE:rj P f e:=by
  unfold x8 at h
  rw[Bool.and_eq_true] at h
  obtain⟨hk,h⟩:=h
  have hk:=Nat.le_of_ble_eq_true hk
  split at h
  ·rename_i v1 s1 hr
   unfold x6 at h
   simp only[Bool.and_eq_true] at h
   obtain⟨h1,h2,h3,h4,h5⟩:=h
   exact⟨v1,s1,_,pS hng hmix hT n _ _ _ _ (Bt e hk) hr,hk,by simpa using h1,h2,h3,h4,rJ h5⟩
  ·cases h
 intro f' es hes e' he'
 have hf:=Nat.le_of_ble_eq_true hf
 unfold dq at hes
 rw[Tr.dC 40 _ _ _ _ (by omega)] at hes
 by_cases hff:f'=f
 ·subst hff
  rw[if_pos rfl] at hes
  cases hes
  rcases List.mem_cons.1 he' with rfl|he'
  ·exact hE
  ·cases hg:T.get f' with
   |none=>rw[hg] at he';cases he'
   |some es=>rw[hg] at he';exact hT f' es hg e' he'
 ·rw[if_neg hff] at hes
  exact hT f' es hes e' he'
theorem rP(hng:cT P)(hmix:P.follows .mixedOrders=true)(hT:c7 P T){n:Nat}{f:FuncId}(h:isTrue (runT P T n (.call f []) St.start)=true)(w:World)(hT0:TZ w):Calls P f #[] w fun r w'=>r=.returned (.bool true)∧Below w.heap.size w w':=by
 cases hrun:runT P T n (.call f []) St.start with
 |none=>rw[hrun] at h;cases h
 |some p=>
  obtain⟨a,s'⟩:=p
  rw[hrun] at h
  unfold isTrue at h
  split at h
  ·rename_i s2 e
   simp only[Option.some.injEq,Prod.mk.injEq] at e
   obtain⟨rfl,rfl⟩:=e
   have hw:WF St.start:=⟨fun n _=>Tr.fj n,by decide,by decide⟩
   obtain⟨_,hc⟩:=pS hng hmix hT n _ _ _ _ hw hrun
   have hr:aI (fun _=>True) (fun _=>none) St.start.heap w:=⟨fun n b _ hb=>(by rw[show St.start.heap.get n=none from Tr.fj n] at hb;cases hb),fun n m _ _ hl=>absurd (Tr.fj n) hl,hT0,fun n p _ hl=>absurd (Tr.fj n) hl⟩
   refine(callsIn_wide (n:=0)).1 ((hc (fun _=>True) (fun _=>none) w #[] ⟨fun _ _=>trivial,fun _ _ _=>trivial⟩ hr (fun _ _ _=>rfl) .nil).mono ?_)
   rintro e w' ⟨ρ',x,rfl,hx,he⟩
   cases hx
   exact⟨rfl,he.os,he.tape,he.output,he.size,fun k hk=>he.frame k hk fun n p _ hl=>absurd (Tr.fj n) hl⟩
  ·cases h
end
end Go.Proofs.YtfnkomoickanfaaGreatDoor.Ev
namespace Go.Proofs.YtfnkomoickanfaaGreatDoor.Begun
open Go.RowKit Go.Proofs.YtfnkomoickanfaaGreatDoor
theorem gM:Ev.cT Tryz.prog:=Ev.B5 (by kernel_rfl)
theorem mix:Tryz.prog.follows .mixedOrders=true:=by kernel_rfl
noncomputable def T0:Ev.Tab:=.e
theorem t0:Ev.c7 Tryz.prog T0:=Ev.Cu
def e1:Ev.Ent:=⟨[.slice 0 0 3 (.more 0),.slice 1 0 2 (.more 0)],[⟨[.slice 2 0 1 (.more 0),.slice 3 0 1 (.more 0),.slice 4 0 1 (.more 0)],51,some 1,none⟩,⟨[.bool false,.nilSlice,.bool false,.slice 5 0 1 (.more 0),.bool false,.slice 6 0 1 (.more 0),.bool false,.slice 7 0 1 (.more 0)],26,some 4,none⟩,⟨[.bool true,.slice 8 0 1 (.more 0)],24,some 2,none⟩,⟨[.bool true,.slice 9 0 1 (.more 0)],24,some 2,none⟩,⟨[.bool false,.slice 10 0 1 (.more 0)],24,some 2,none⟩,⟨[.int .u32 (.ofNat 1)],132,some 1,none⟩,⟨[.int .u32 (.ofNat 1)],132,some 1,none⟩,⟨[.int .u32 (.ofNat 1)],132,some 1,none⟩,⟨[.int .u32 (.ofNat 1)],132,some 1,none⟩,⟨[.int .u32 (.ofNat 1)],132,some 1,none⟩,⟨[.int .u32 (.ofNat 1)],132,some 1,none⟩],.agg [.slice 11 0 3 (.known 3),.slice 12 0 2 (.more 0)],[⟨[.slice 13 0 1 (.known 1),.slice 14 0 1 (.known 1),.slice 15 0 1 (.known 1)],51,none,none⟩,⟨[.bool false,.nilSlice,.bool false,.slice 16 0 1 (.known 1),.bool false,.slice 17 0 1 (.known 1),.bool false,.slice 18 0 1 (.known 1)],26,some 4,none⟩,⟨[.bool true,.slice 19 0 1 (.known 1)],24,none,none⟩,⟨[.bool true,.slice 20 0 1 (.known 1)],24,none,none⟩,⟨[.bool false,.slice 21 0 1 (.known 1)],24,none,none⟩,⟨[.int .u32 (.ofNat 1)],132,none,none⟩,⟨[.int .u32 (.ofNat 1)],132,none,none⟩,⟨[.int .u32 (.ofNat 1)],132,none,none⟩,⟨[.int .u32 (.ofNat 1)],132,none,none⟩,⟨[.int .u32 (.ofNat 1)],132,none,none⟩,⟨[.int .u32 (.ofNat 1),.int .u32 (.ofNat 0)],132,none,none⟩]⟩
noncomputable def T1:Ev.Tab:=Ev.dq T0 57 e1
theorem t1:Ev.c7 Tryz.prog T1:=Ev.dr gM mix t0 (n:=100000) (by kernel_rfl) (by kernel_rfl)
def e2:Ev.Ent:=⟨[.slice 0 0 2 (.more 0)],[⟨[.bool false,.nilSlice,.bool false,.slice 1 0 1 (.known 1),.bool false,.slice 2 0 1 (.known 1),.bool false,.slice 3 0 1 (.known 1)],26,some 4,none⟩,⟨[.int .u32 (.ofNat 1)],132,none,none⟩,⟨[.int .u32 (.ofNat 1)],132,none,none⟩,⟨[.int .u32 (.ofNat 1)],132,none,none⟩],.agg [.int .i64 (.ofNat 2),.int .i64 (.ofNat 2)],[]⟩
noncomputable def T2:Ev.Tab:=Ev.dq T1 157 e2
theorem t2:Ev.c7 Tryz.prog T2:=Ev.dr gM mix t1 (n:=100000) (by kernel_rfl) (by kernel_rfl)
def e3:Ev.Ent:=⟨[.agg [.slice 0 0 3 (.known 3),.slice 1 0 2 (.more 0)]],[⟨[.slice 2 0 1 (.known 1),.slice 3 0 1 (.known 1),.slice 4 0 1 (.known 1)],51,none,none⟩,⟨[.bool false,.nilSlice,.bool false,.slice 5 0 1 (.known 1),.bool false,.slice 6 0 1 (.known 1),.bool false,.slice 7 0 1 (.known 1)],26,some 4,none⟩,⟨[.bool true,.slice 8 0 1 (.known 1)],24,none,none⟩,⟨[.bool true,.slice 9 0 1 (.known 1)],24,none,none⟩,⟨[.bool false,.slice 10 0 1 (.known 1)],24,none,none⟩,⟨[.int .u32 (.ofNat 1)],132,none,none⟩,⟨[.int .u32 (.ofNat 1)],132,none,none⟩,⟨[.int .u32 (.ofNat 1)],132,none,none⟩,⟨[.int .u32 (.ofNat 1)],132,none,none⟩,⟨[.int .u32 (.ofNat 1)],132,none,none⟩,⟨[.int .u32 (.ofNat 1),.int .u32 (.ofNat 0)],132,none,none⟩],.bool false,[]⟩
noncomputable def T3:Ev.Tab:=Ev.dq T2 97 e3
theorem t3:Ev.c7 Tryz.prog T3:=Ev.dr gM mix t2 (n:=100000) (by kernel_rfl) (by kernel_rfl)
def e4:Ev.Ent:=⟨[.agg [.int .u64 (.ofNat 131)],.slice 0 0 1 (.known 1)],[⟨[.bool false,.slice 1 0 1 (.known 1)],24,none,none⟩,⟨[.int .u32 (.ofNat 1),.int .u32 (.ofNat 0)],132,none,none⟩],.tuple [.nilSlice,.bool true],[]⟩
noncomputable def T4:Ev.Tab:=Ev.dq T3 207 e4
theorem t4:Ev.c7 Tryz.prog T4:=Ev.dr gM mix t3 (n:=100000) (by kernel_rfl) (by kernel_rfl)
def e5:Ev.Ent:=⟨[.slice 0 0 3 (.more 0),.slice 1 0 1 (.more 0)],[⟨[.slice 2 0 1 (.more 0),.slice 3 0 1 (.more 0),.slice 4 0 1 (.more 0)],51,some 1,none⟩,⟨[.bool false,.nilSlice,.bool false,.slice 5 0 1 (.more 0)],26,some 4,none⟩,⟨[.bool true,.slice 6 0 1 (.more 0)],24,some 2,none⟩,⟨[.bool true,.slice 7 0 1 (.more 0)],24,some 2,none⟩,⟨[.bool false,.slice 8 0 1 (.more 0)],24,some 2,none⟩,⟨[.int .u32 (.ofNat 1)],132,some 1,none⟩,⟨[.int .u32 (.ofNat 1)],132,some 1,none⟩,⟨[.int .u32 (.ofNat 1)],132,some 1,none⟩,⟨[.int .u32 (.ofNat 1)],132,some 1,none⟩],.agg [.slice 9 0 3 (.known 3),.slice 10 0 1 (.more 0)],[⟨[.slice 11 0 1 (.known 1),.slice 12 0 1 (.known 1),.slice 13 0 1 (.known 1)],51,none,none⟩,⟨[.bool false,.nilSlice,.bool false,.slice 14 0 1 (.known 1)],26,some 4,none⟩,⟨[.bool true,.slice 15 0 1 (.known 1)],24,none,none⟩,⟨[.bool true,.slice 16 0 1 (.known 1)],24,none,none⟩,⟨[.bool false,.slice 17 0 1 (.known 1)],24,none,none⟩,⟨[.int .u32 (.ofNat 1)],132,none,none⟩,⟨[.int .u32 (.ofNat 1)],132,none,none⟩,⟨[.int .u32 (.ofNat 1)],132,none,none⟩,⟨[.int .u32 (.ofNat 1),.int .u32 (.ofNat 0)],132,none,none⟩]⟩
noncomputable def T5:Ev.Tab:=Ev.dq T4 57 e5
theorem t5:Ev.c7 Tryz.prog T5:=Ev.dr gM mix t4 (n:=100000) (by kernel_rfl) (by kernel_rfl)
def e6:Ev.Ent:=⟨[.slice 0 0 3 (.known 3),.slice 1 0 1 (.more 0),.int .i64 (.ofNat 1)],[⟨[.slice 2 0 1 (.known 1),.slice 3 0 1 (.known 1),.slice 4 0 1 (.known 1)],51,none,none⟩,⟨[.bool false,.nilSlice,.bool false,.slice 5 0 1 (.known 1)],26,some 4,none⟩,⟨[.bool true,.slice 6 0 1 (.known 1)],24,none,none⟩,⟨[.bool true,.slice 7 0 1 (.known 1)],24,none,none⟩,⟨[.bool false,.slice 8 0 1 (.known 1)],24,none,none⟩,⟨[.int .u32 (.ofNat 1)],132,none,none⟩,⟨[.int .u32 (.ofNat 1)],132,none,none⟩,⟨[.int .u32 (.ofNat 1)],132,none,none⟩,⟨[.int .u32 (.ofNat 1),.int .u32 (.ofNat 0)],132,none,none⟩],.int .i64 (.ofNat 66),[]⟩
noncomputable def T6:Ev.Tab:=Ev.dq T5 127 e6
theorem t6:Ev.c7 Tryz.prog T6:=Ev.dr gM mix t5 (n:=100000) (by kernel_rfl) (by kernel_rfl)
def e7:Ev.Ent:=⟨[.slice 0 0 3 (.more 0),.slice 1 0 3 (.more 0)],[⟨[.slice 2 0 1 (.more 0),.slice 3 0 1 (.more 0),.slice 4 0 1 (.more 0)],51,some 1,none⟩,⟨[.bool false,.nilSlice,.bool false,.slice 5 0 1 (.more 0),.bool false,.slice 6 0 1 (.more 0),.bool false,.slice 7 0 1 (.more 0),.bool false,.slice 8 0 1 (.more 0),.bool false,.slice 9 0 1 (.more 0)],26,some 4,none⟩,⟨[.bool true,.slice 10 0 1 (.more 0)],24,some 2,none⟩,⟨[.bool true,.slice 11 0 1 (.more 0)],24,some 2,none⟩,⟨[.bool false,.slice 12 0 1 (.more 0)],24,some 2,none⟩,⟨[.int .u32 (.ofNat 1)],132,some 1,none⟩,⟨[.int .u32 (.ofNat 1)],132,some 1,none⟩,⟨[.int .u32 (.ofNat 1)],132,some 1,none⟩,⟨[.int .u32 (.ofNat 7)],132,some 1,none⟩,⟨[.int .u32 (.ofNat 1)],132,some 1,none⟩,⟨[.int .u32 (.ofNat 1)],132,some 1,none⟩,⟨[.int .u32 (.ofNat 1)],132,some 1,none⟩,⟨[.int .u32 (.ofNat 1)],132,some 1,none⟩],.agg [.slice 13 0 3 (.known 3),.slice 14 0 3 (.more 0)],[⟨[.slice 15 0 1 (.known 1),.slice 16 0 1 (.known 1),.slice 17 0 1 (.known 1)],51,none,none⟩,⟨[.bool false,.nilSlice,.bool false,.slice 18 0 1 (.known 1),.bool false,.slice 19 0 1 (.known 1),.bool false,.slice 20 0 1 (.known 1),.bool false,.slice 21 0 1 (.known 1),.bool false,.slice 22 0 1 (.known 1)],26,some 4,none⟩,⟨[.bool true,.slice 23 0 1 (.known 1)],24,none,none⟩,⟨[.bool true,.slice 24 0 1 (.known 1)],24,none,none⟩,⟨[.bool false,.slice 25 0 1 (.known 1)],24,none,none⟩,⟨[.int .u32 (.ofNat 1)],132,none,none⟩,⟨[.int .u32 (.ofNat 1)],132,none,none⟩,⟨[.int .u32 (.ofNat 1)],132,none,none⟩,⟨[.int .u32 (.ofNat 7)],132,none,none⟩,⟨[.int .u32 (.ofNat 1)],132,none,none⟩,⟨[.int .u32 (.ofNat 1)],132,none,none⟩,⟨[.int .u32 (.ofNat 1)],132,none,none⟩,⟨[.int .u32 (.ofNat 1),.int .u32 (.ofNat 0)],132,none,none⟩]⟩
noncomputable def T7:Ev.Tab:=Ev.dq T6 57 e7
theorem t7:Ev.c7 Tryz.prog T7:=Ev.dr gM mix t6 (n:=100000) (by kernel_rfl) (by kernel_rfl)
def e8:Ev.Ent:=⟨[.slice 0 0 3 (.more 0)],[⟨[.bool false,.nilSlice,.bool false,.slice 1 0 1 (.known 1),.bool false,.slice 2 0 1 (.known 1),.bool false,.slice 3 0 1 (.known 1),.bool false,.slice 4 0 1 (.known 1),.bool false,.slice 5 0 1 (.known 1)],26,some 4,none⟩,⟨[.int .u32 (.ofNat 1)],132,none,none⟩,⟨[.int .u32 (.ofNat 1)],132,none,none⟩,⟨[.int .u32 (.ofNat 1)],132,none,none⟩,⟨[.int .u32 (.ofNat 7)],132,none,none⟩,⟨[.int .u32 (.ofNat 1)],132,none,none⟩],.agg [.int .i64 (.ofNat 3),.int .i64 (.ofNat 4)],[]⟩
noncomputable def T8:Ev.Tab:=Ev.dq T7 157 e8
theorem t8:Ev.c7 Tryz.prog T8:=Ev.dr gM mix t7 (n:=100000) (by kernel_rfl) (by kernel_rfl)
def e9:Ev.Ent:=⟨[.agg [.slice 0 0 3 (.known 3),.slice 1 0 3 (.more 0)]],[⟨[.slice 2 0 1 (.known 1),.slice 3 0 1 (.known 1),.slice 4 0 1 (.known 1)],51,none,none⟩,⟨[.bool false,.nilSlice,.bool false,.slice 5 0 1 (.known 1),.bool false,.slice 6 0 1 (.known 1),.bool false,.slice 7 0 1 (.known 1),.bool false,.slice 8 0 1 (.known 1),.bool false,.slice 9 0 1 (.known 1)],26,some 4,none⟩,⟨[.bool true,.slice 10 0 1 (.known 1)],24,none,none⟩,⟨[.bool true,.slice 11 0 1 (.known 1)],24,none,none⟩,⟨[.bool false,.slice 12 0 1 (.known 1)],24,none,none⟩,⟨[.int .u32 (.ofNat 1)],132,none,none⟩,⟨[.int .u32 (.ofNat 1)],132,none,none⟩,⟨[.int .u32 (.ofNat 1)],132,none,none⟩,⟨[.int .u32 (.ofNat 7)],132,none,none⟩,⟨[.int .u32 (.ofNat 1)],132,none,none⟩,⟨[.int .u32 (.ofNat 1)],132,none,none⟩,⟨[.int .u32 (.ofNat 1)],132,none,none⟩,⟨[.int .u32 (.ofNat 1),.int .u32 (.ofNat 0)],132,none,none⟩],.bool false,[]⟩
noncomputable def T9:Ev.Tab:=Ev.dq T8 97 e9
theorem t9:Ev.c7 Tryz.prog T9:=Ev.dr gM mix t8 (n:=100000) (by kernel_rfl) (by kernel_rfl)
def e10:Ev.Ent:=⟨[.slice 0 0 3 (.known 3),.int .i64 (.ofNat 0),.func (.func 132) [.agg [.slice 0 0 3 (.known 3),.slice 1 0 3 (.more 0)]] []],[⟨[.slice 2 0 1 (.known 1),.slice 3 0 1 (.known 1),.slice 4 0 1 (.known 1)],51,none,none⟩,⟨[.bool false,.nilSlice,.bool false,.slice 5 0 1 (.known 1),.bool false,.slice 6 0 1 (.known 1),.bool false,.slice 7 0 1 (.known 1),.bool false,.slice 8 0 1 (.known 1),.bool false,.slice 9 0 1 (.known 1)],26,some 4,none⟩,⟨[.bool true,.slice 10 0 1 (.known 1)],24,none,none⟩,⟨[.bool true,.slice 11 0 1 (.known 1)],24,none,none⟩,⟨[.bool false,.slice 12 0 1 (.known 1)],24,none,none⟩,⟨[.int .u32 (.ofNat 1)],132,none,none⟩,⟨[.int .u32 (.ofNat 1)],132,none,none⟩,⟨[.int .u32 (.ofNat 1)],132,none,none⟩,⟨[.int .u32 (.ofNat 7)],132,none,none⟩,⟨[.int .u32 (.ofNat 1)],132,none,none⟩,⟨[.int .u32 (.ofNat 1)],132,none,none⟩,⟨[.int .u32 (.ofNat 1)],132,none,none⟩,⟨[.int .u32 (.ofNat 1),.int .u32 (.ofNat 0)],132,none,none⟩],.bool false,[]⟩
noncomputable def T10:Ev.Tab:=Ev.dq T9 131 e10
theorem t10:Ev.c7 Tryz.prog T10:=Ev.dr gM mix t9 (n:=100000) (by kernel_rfl) (by kernel_rfl)
def e11:Ev.Ent:=⟨[.slice 0 0 3 (.more 0),.slice 1 0 3 (.more 0)],[⟨[.slice 2 0 1 (.more 0),.slice 3 0 1 (.more 0),.slice 4 0 1 (.more 0)],51,some 1,none⟩,⟨[.bool false,.nilSlice,.bool false,.slice 5 0 1 (.more 0),.bool false,.slice 6 0 1 (.more 0),.bool false,.slice 7 0 1 (.more 0),.bool false,.slice 8 0 1 (.more 0),.bool false,.slice 9 0 1 (.more 0)],26,some 4,none⟩,⟨[.bool true,.slice 10 0 1 (.more 0)],24,some 2,none⟩,⟨[.bool true,.slice 11 0 1 (.more 0)],24,some 2,none⟩,⟨[.bool false,.slice 12 0 1 (.more 0)],24,some 2,none⟩,⟨[.int .u32 (.ofNat 1)],132,some 1,none⟩,⟨[.int .u32 (.ofNat 1)],132,some 1,none⟩,⟨[.int .u32 (.ofNat 1)],132,some 1,none⟩,⟨[.int .u32 (.ofNat 7)],132,some 1,none⟩,⟨[.int .u32 (.ofNat 1)],132,some 1,none⟩,⟨[.int .u32 (.ofNat 1)],132,some 1,none⟩,⟨[.int .u32 (.ofNat 1)],132,some 1,none⟩,⟨[.int .u32 (.ofNat 1)],132,some 1,none⟩],.tuple [.nil,.int .i64 (.ofNat 6)],[]⟩
noncomputable def T11:Ev.Tab:=Ev.dq T10 22 e11
theorem t11:Ev.c7 Tryz.prog T11:=Ev.dr gM mix t10 (n:=100000) (by kernel_rfl) (by kernel_rfl)
end Go.Proofs.YtfnkomoickanfaaGreatDoor.Begun
namespace Go.Proofs.YtfnkomoickanfaaGreatDoor
open Go.RowKit
theorem tR(w:World)(hT:Ev.TZ w):Calls Tryz.prog 5 #[] w fun r w'=>r=.returned (.bool true)∧Below w.heap.size w w':=
 Ev.rP Begun.gM Begun.mix Begun.t11 (n:=100000) (by kernel_rfl) w hT
structure SQ(w:World)(g K E D B T:Nat)(zss:List (List Int))(h k s:Hdr):Prop where
 c0:w.cell? ⟨g,0,none⟩=some (.slice h.p h.n h.c)
 c1:w.cell? ⟨g,1,none⟩=some (.slice k.p k.n k.c)
 c2:w.cell? ⟨g,2,none⟩=some (.slice s.p s.n s.c)
 op:HR D (EZ K E) w B T zss h
 T:T≤w.heap.size
 nz:0<aD zss
 D6:D≤1000000
 E6:E≤1000000
theorem SQ.below{w w':World}{g K E D B T:Nat}{zss:List (List Int)}{h k s:Hdr}(H:SQ w g K E D B T zss h k s)(hb:Below w.heap.size w w'):SQ w' g K E D B T zss h k s:=
 ⟨cell_later hb H.c0,cell_later hb H.c1,cell_later hb H.c2,(bK (fO K E)).below H.op H.T hb,Nat.le_trans H.T hb.size,H.nz,H.D6,H.E6⟩
theorem g_{w:World}{g B T K E D:Nat}{zss:List (List Int)}{h k s:Hdr}(H:SQ w g K E D B T zss h k s):
  Calls Tryz.prog 41 #[.pointer (some ⟨g,0,none⟩)] w fun r w'=>r=.returned (.agg #[.slice h.p h.n h.c,.slice k.p k.n k.c,.slice s.p s.n s.c])∧Below w.heap.size w w':=by
 have hal:=af (o:=.cells #[.slice none 0 0,.slice none 0 0,.slice none 0 0] 84) (Below.refl w.heap.size w)
 have H1:=H.below hal
 have hv:(w.alloc (.cells #[.slice none 0 0,.slice none 0 0,.slice none 0 0] 84)).heap[w.heap.size]?=some (.cells #[.slice none 0 0,.slice none 0 0,.slice none 0 0] 84 (0,0)):=cV w _
 have hn:0<h.n:=by
  obtain⟨hs,kk⟩:=H.op
  have h1:=kk.tl
  have h2:=ee zss
  have h3:=H.nz
  omega
 have d0:=H1.c0
 have d1:=H1.c1
 have d2:=H1.c2
 clear H
 have r0:(w.alloc (.cells #[.slice none 0 0,.slice none 0 0,.slice none 0 0] 84)).cell? ⟨w.heap.size,0,none⟩=some (.slice none 0 0):=by rw[cell_of_row _ _ 0 _ _ _ hv];rfl
 have r1:(w.alloc (.cells #[.slice none 0 0,.slice none 0 0,.slice none 0 0] 84)).cell? ⟨w.heap.size,1,none⟩=some (.slice none 0 0):=by rw[cell_of_row _ _ 1 _ _ _ hv];rfl
 have r2:(w.alloc (.cells #[.slice none 0 0,.slice none 0 0,.slice none 0 0] 84)).cell? ⟨w.heap.size,2,none⟩=some (.slice none 0 0):=by rw[cell_of_row _ _ 2 _ _ _ hv];rfl
 have f0:=frozen_of_row _ w.heap.size 0 _ _ hv
 have f1:=frozen_of_row _ w.heap.size 1 _ _ hv
 have f2:=frozen_of_row _ w.heap.size 2 _ _ hv
 have HB:Hid (Below w.heap.size w (w.alloc (.cells #[.slice none 0 0,.slice none 0 0,.slice none 0 0] 84))):=hal
 clear H1 hv hal
 have e0:¬((h.n:Int)=0):=by omega
 go_enter Tryz.func41,Tryz.ntmps41
 go_wp2_with fail
 generalize w.alloc (.cells #[.slice none 0 0,.slice none 0 0,.slice none 0 0] 84)=W at *
 go_wp2
 refine bodyPost_ret (v:=.agg #[.slice h.p h.n h.c,.slice k.p k.n k.c,.slice s.p s.n s.c]) (by simp[results,Tryz.results41,go_sem,r0,r1,r2]) rfl ⟨rfl,?_⟩
 exact af (Below.refl _ _)
theorem sj(a b c:Value)(w:World):(Instr.field 84 (.agg #[a,b,c]) 0).run Tryz.prog w=.ok a w:=by kernel_rfl
theorem sk(a b c:Value)(w:World):(Instr.field 84 (.agg #[a,b,c]) 1).run Tryz.prog w=.ok b w:=by kernel_rfl
theorem uB{w:World}{g B T K E D:Nat}{zss:List (List Int)}{h k s:Hdr}(H:SQ w g K E D B T zss h k s):
  Calls Tryz.prog 14 #[.pointer (some ⟨g,0,none⟩)] w fun r w'=>r=.returned (.int .i64 ((aD zss:Int)-1))∧Below w.heap.size w w':=by
 have hr:=g_ H
 have HX:Hid (SQ w g K E D B T zss h k s):=H
 clear H
 go_enter Tryz.func14,Tryz.ntmps14
 go_wp2_with fail
 refine hr.mono ?_
 rintro r w1 ⟨rfl,hb1⟩
 have H2:=HX.out.below hb1
 have ho:=ox H2.op H2.T H2.D6 H2.E6
 have hf0:=sj
 clear hr H2
 go_wp2_with fail
 refine ho.mono ?_
 rintro r w2 ⟨rfl,hb2⟩
 clear ho
 go_wp2
 go_ret
 exact⟨rfl,ae hb1 hb2⟩
theorem zj{w:World}{g B T K E D:Nat}{zss:List (List Int)}{h k s:Hdr}(H:SQ w g K E D B T zss h k s):
  Calls Tryz.prog 15 #[.pointer (some ⟨g,0,none⟩)] w fun r w'=>r=.returned (.int .i64 (k.n:Int))∧Below w.heap.size w w':=by
 have hr:=g_ H
 clear H
 go_enter Tryz.func15,Tryz.ntmps15
 go_wp2_with fail
 refine hr.mono ?_
 rintro r w1 ⟨rfl,hb1⟩
 have hf1:=sk
 clear hr
 go_wp2
 go_ret
 exact⟨rfl,hb1⟩
theorem OpP.at{l:List (List Int)}{K E:Nat}{w w1:World}{r:Ending}{w':World}(h:OpP l K E w1 r w')(hb:Below w.heap.size w w1):∃p hs,r=.returned (.slice p (aD l) (aD l))∧NO w1.heap.size w' K E (otr l) p (aD l) hs∧Below w.heap.size w w':=by
 obtain⟨p,hs,h1,h2,h3⟩:=h
 exact⟨p,hs,h1,h2,ae hb h3⟩
theorem A2{w:World}{g B T K E D:Nat}{zss:List (List Int)}{h k s:Hdr}(H:SQ w g K E D B T zss h k s)(hD:D≤1000)(hK:K≤1000):
  Calls Tryz.prog 9 #[.pointer (some ⟨g,0,none⟩)] w fun r w'=>∃w1:World,w.heap.size≤w1.heap.size∧∃p hs,r=.returned (.slice p (aD ((List.range (aD zss)).map fun i=>tr (gt zss i))) (aD ((List.range (aD zss)).map fun i=>tr (gt zss i))))∧NO w1.heap.size w' K E (otr ((List.range (aD zss)).map fun i=>tr (gt zss i))) p (aD ((List.range (aD zss)).map fun i=>tr (gt zss i))) hs∧Below w.heap.size w w':=by
 generalize hl:(List.range (aD zss)).map (fun i=>tr (gt zss i))=l
 have hr:=g_ H
 have HX:Hid (SQ w g K E D B T zss h k s):=H
 clear H
 go_enter Tryz.func9,Tryz.ntmps9
 go_wp2_with fail
 refine hr.mono ?_
 rintro r w1 ⟨rfl,hb1⟩
 have H2:=HX.out.below hb1
 have ho:=yF H2.op H2.T hD H2.E6 hK
 have hf0:=sj
 rw[hl] at ho
 clear hr H2
 go_wp2_with fail
 refine ho.mono ?_
 rintro r w2 h2
 obtain⟨p,hs,rfl,h3,h4⟩:=h2.at hb1
 have HF:Hid (NO w1.heap.size w2 K E (otr l) p (aD l) hs∧Below w.heap.size w w2∧w.heap.size≤w1.heap.size):=⟨h3,h4,hb1.size⟩
 clear ho h3 h4 h2 hb1
 go_wp2
 go_ret
 exact⟨w1,HF.out.2.2,p,hs,rfl,HF.out.1,HF.out.2.1⟩
theorem uJ(w:World):AI w none 0 0 []:=⟨rfl,Nat.le_refl _,Nat.zero_le _,Nat.zero_le _,Rd.nil,fun j=>by simp[gx]⟩
theorem we{w:World}{K:Nat}{s t:Bool}{p q:Option Addr}{n nc m mc:Nat}{z:Rat}(h:AQ w K s p n nc t q m mc z)(hK:K≤500):
  Calls Tryz.prog 42 #[.agg #[.bool s,.slice p n nc,.bool t,.slice q m mc]] w fun e w'=>∃s' p' n' t' q' m',e=.returned (.agg #[.bool s',.slice p' n' n',.bool t',.slice q' m' m'])∧AQ w' (K+1) s' p' n' n' t' q' m' m' z∧(0<n'→az w.heap.size p')∧(0<m'→az w.heap.size q')∧Below w.heap.size w w':=by
 obtain⟨xs,ys,hX,hY,hnK,hmK,hz⟩:=h
 go_enter Tryz.func42,Tryz.ntmps42
 go_wp2_with fail
 have hA0:Bq ((w.alloc (.cells #[.bool s,.slice p n nc,.bool t,.slice q m mc] 26)).alloc (.cells #[.bool false,.slice none 0 0,.bool false,.slice none 0 0] 26)) w.heap.size (.bool s) (.slice p n nc) (.bool t) (.slice q m mc):=(Bq.new _ _ _ _ _ rfl).alloc _
 have hR:Bq ((w.alloc (.cells #[.bool s,.slice p n nc,.bool t,.slice q m mc] 26)).alloc (.cells #[.bool false,.slice none 0 0,.bool false,.slice none 0 0] 26)) (w.heap.size+1) (.bool false) (.slice none 0 0) (.bool false) (.slice none 0 0):=Bq.new _ _ _ _ _ (by simp)
 have hW:Below w.heap.size w ((w.alloc (.cells #[.bool s,.slice p n nc,.bool t,.slice q m mc] 26)).alloc (.cells #[.bool false,.slice none 0 0,.bool false,.slice none 0 0] 26)):=((Below.refl _ _).alloc (Nat.le_refl _) _).alloc (by simp) _
 generalize (w.alloc (.cells #[.bool s,.slice p n nc,.bool t,.slice q m mc] 26)).alloc (.cells #[.bool false,.slice none 0 0,.bool false,.slice none 0 0] 26)=W at *
 obtain⟨a0,a1,a2,a3,-,-,-,-⟩:=hA0
 have hX1:=hX.below hW
 have hY1:=hY.below hW
 go_region_held3 (fun w'=>w'.cell? ⟨w.heap.size,0,none⟩=some (.bool s)∧w'.cell? ⟨w.heap.size,1,none⟩=some (.slice p n nc)∧w'.cell? ⟨w.heap.size,2,none⟩=some (.bool t)∧w'.cell? ⟨w.heap.size,3,none⟩=some (.slice q m mc)) (first|with_reducible exact⟨a0,a1,a2,a3⟩|with_reducible exact bB ⟨a0,a1,a2,a3⟩ hV1|with_reducible exact bB ⟨a0,a1,a2,a3⟩ hV2|(simp[go_sem, *];done))
  (first
   |(go_at_call_of 84 (Value.agg #[.bool s,.slice p n nc]);refine(oV s false p none n nc 0 0 xs [] _ hX1.drew (uJ _)).mono ?_;rintro e v1 ⟨s1,p1,n1,z1,rfl,hA1,hn1,hv1⟩;have hV1:=aC hv1)
   |(go_at_call_of 84 (Value.agg #[.bool t,.slice q m mc]);refine(oV t false q none m mc 0 0 ys [] _ (hY1.below hV1) (uJ _)).mono ?_;rintro e v2 ⟨s2,p2,n2,z2,rfl,hA2,hn2,hv2⟩;have hV2:=ae hV1 hv2;have hR2:=hR.later hV2;obtain⟨r0,r1,r2,r3,f0,f1,f2,f3⟩:=hR2))
 clear a0 a1 a2 a3
 go_wp2
 have sR:=hR.lt
 have sV:=hV1.size
 have e0:ak false []=0:=rfl
 rw[e0,Int.add_zero] at hA1 hA2
 refine bodyPost_ret (v:=.agg #[.bool s1,.slice p1 n1 n1,.bool s2,.slice p2 n2 n2]) (by simp[results,Tryz.results42,go_sem,r0,r1,r2,r3]) rfl ⟨_,_,_,_,_,_,rfl,⟨z1,z2,?_,?_,by omega,by omega,?_⟩,?_,?_,?_⟩
 ·exact((hA1.below hv2).ai (by omega)).bq (fun _=>aT hA1.fr sR) _ _ _ _
 ·exact(hA2.ai (by omega)).bq (fun _=>aT hA2.fr (by omega)) _ _ _ _
 ·rw[hA1.v,hA2.v];exact hz
 ·exact fun _ a ha=>Nat.le_trans hW.size (hA1.fr a ha)
 ·exact fun _ a ha=>Nat.le_trans (Nat.le_trans hW.size sV) (hA2.fr a ha)
 ·exact cL (ae hW hV2) (by omega) _ _ _ _
end Go.Proofs.YtfnkomoickanfaaGreatDoor
