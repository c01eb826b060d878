/- LnLs: parts of the proof, joined. -/
import Derived.Test.YtbbapnpdfcgjnaaGreatDoorELnRd
import Derived.Test.YtbbapnpdfcgjnaaGreatDoorELnIt
open List renaming length_cons->sR, cons_append->sS, nil_append->sU
set_option maxHeartbeats 64000000
namespace Go.Proofs.YtbbapnpdfcgjnaaGreatDoor
namespace Ln
open Go.RowKit
def mn:Int->List (Nat×Bool)->List Int
 |_,[]=>[]
 |f,x::C=>if x.2=true then f::(x.1:Int)::mn (x.1:Int) C else mn f C
def lsE:Int->List (Nat×Bool)->Int
 |f,[]=>f
 |f,x::C=>if x.2=true then lsE (x.1:Int) C else lsE f C
theorem pA:∀(A:List (Nat×Bool))(x:Nat×Bool)(f:Int),mn f (A++[x])=mn f A++(if x.2=true then [lsE f A,(x.1:Int)]else [])
 |[],x,f=>by
  rw[sU,mn]
  by_cases h:x.2=true<;>simp[h,mn,lsE]
 |y::A,x,f=>by
  rw[sS,mn,mn,lsE]
  split
  ·rw[pA A x];rfl
  ·exact pA A x f
theorem pB:∀(A:List (Nat×Bool))(x:Nat×Bool)(f:Int),lsE f (A++[x])=if x.2=true then (x.1:Int)else lsE f A
 |[],x,f=>by rw[sU,lsE];rfl
 |y::A,x,f=>by
  rw[sS,lsE,lsE]
  split
  ·exact pB A x _
  ·exact pB A x f
theorem zaK:∀(A:List (Nat×Bool))(f:Int),(mn f A).length<=2*A.length
 |[],_=>Nat.le_refl _
 |x::A,f=>by
  rw[mn]
  split
  ·have:=zaK A (x.1:Int);rw[sR,sR,sR];omega
  ·have:=zaK A f;rw[sR];omega
theorem ml:∀(A:List (Nat×Bool))(f:Int),(mn f A).length=2*(jd f (A.map qR)).length/\∀(k:Nat)(p:Int×Int),(jd f (A.map qR))[k]?=some p->(mn f A)[k*2]?=some p.1/\(mn f A)[k*2+1]?=some p.2
 |[],f=>⟨rfl,fun k p h=>by simp[jd]at h⟩
 |x::A,f=>by
  rw[List.map_cons,mn,jd]
  by_cases hx:x.2=true
  ·have hx':(qR x).2=true:=hx
   obtain⟨h1,h2⟩:=ml A (x.1:Int);rw[if_pos hx,if_pos hx'];refine⟨by rw[sR,sR,sR,h1];show _=2*((jd (qR x).1 (A.map qR)).length+1);show 2*(jd (x.1:Int) (A.map qR)).length+1+1=2*((jd (x.1:Int) (A.map qR)).length+1);omega,fun k p h=>?_⟩
   cases k with
   |zero=>
    rw[List.getElem?_cons_zero]at h
    cases h
    exact⟨rfl,rfl⟩
   |succ k=>
    rw[List.getElem?_cons_succ]at h;obtain⟨h3,h4⟩:=h2 k p h;rw[show(k+1)*2=k*2+1+1 by omega]
    exact⟨h3,h4⟩
  ·have hx':¬(qR x).2=true:=hx
   rw[if_neg hx,if_neg hx'];exact ml A f
theorem zcQ:∀(C:List (Int×Bool))(f:Int)(p:Int×Int),(jd f C)[0]?=some p->p.1=f
 |[],f,p,h=>by simp[jd]at h
 |x::C,f,p,h=>by
  rw[jd]at h
  split at h
  ·cases h;rfl
  ·exact zcQ C f p h
theorem zqn{w:World}{q:Nat}{a b:Int}(h:w.heap[q]?=some (.cells #[.int .i64 a,.int .i64 b] 3)):Pt.RdI w (some ⟨q,0,none⟩) [a,b]:=fun k y hk=>by
 refine⟨_,rfl,Pt.ag h,?_⟩;rw[Addr.add_lit,Nat.zero_add,cell_of_row w q _ _ _ _ h]
 match k,hk with
 |0,hk=>cases hk;rfl
 |1,hk=>cases hk;rfl
 |k+2,hk=>simp at hk
theorem zaj(l:List UInt8)(hl:l.length<=80000)(w:World):
  Calls Tryz.prog 42 #[.string ⟨l.toArray⟩] w fun e w'=>∃vo vc,e=.returned (.slice vo (mn 0 (d9 l (rl l).length)).length vc)/\Pt.RdI w' vo (mn 0 (d9 l (rl l).length))/\((mn 0 (d9 l (rl l).length)).length=0\/∃g,vo=some ⟨g,0,none⟩)/\Below w.heap.size w w':=by
 have HC:=aa (kM l hl w);have hP9:(d9 l (rl l).length).length<=80000:=by
  have h1:=ziH l (rl l).length;have h2:=Pt.rv _ l (Nat.le_refl _);omega
 obtain⟨P,hP⟩:=am (d9 l (rl l).length);rw[<- hP]at HC hP9⊢;clear hP hl;go_enter Tryz.func42,Tryz.ntmps42;go_wp2_with fail;refine HC.o.mono ?_;rintro e w1 ⟨vo,vc,rfl,ho,hb⟩;obtain⟨vo',vc',hv,hr,_⟩:=ziG ho
 cases hv
 have HR:=aa hr;have HB1:=aa hb;obtain⟨n,hn⟩:=am P.length;rw[<- hn]at hP9⊢;have HN:=aa hn;clear ho hr hb hn HC;go_wp2;go_loopw [3,4,6] (fun x f y wr=>∃(i m:Nat)(uo:Option Addr)(uc:Nat),x=.slice uo m uc/\f=.int .i64 (lsE 0 (P.take i))/\y=.int .i64 i/\i<=n/\m<=2*i/\ae (m=(mn 0 (P.take i)).length)/\ae (wr.ownsRow w1.heap.size 3 1 (.slice uo m uc) m (Pt.bf (mn 0 (P.take i))))/\ae (Below w1.heap.size w1 wr)) (fun _ _ y _=>n-(intOf y).toNat)
 case atStart=>exact⟨0,0,none,0,rfl,rfl,rfl,Nat.zero_le _,Nat.zero_le _,aa rfl,aa (World.ownsRow_nil _ _ _ _),aa (Below.refl _ _)⟩
 case round=>
  obtain⟨i,m,uo,uc,rfl,rfl,rfl,hi,hmi,HM,HO,HBr⟩:=hrel
  by_cases hlt:i<n
  ·have i0:(0:Int)<=(i:Int):=by omega
   have i1:(i:Int)<(n:Int):=by omega
   have hil:i<P.length:=by have:=HN.o;omega
   obtain⟨x,hx⟩:=am (P[i]);have hxe:P[i]?=some x:=by rw[hx];exact List.getElem?_eq_getElem hil
   obtain⟨g,rfl,hg,q0,q1⟩:=HR.o i x hxe;have HTk:ae (P.take (i+1)=P.take i++[x]):=aa (by rw[List.take_add_one,hxe];rfl)
   obtain⟨f,hf⟩:=am (lsE 0 (P.take i));have HZ:ae (mn 0 (P.take (i+1))=mn 0 (P.take i)++(if x.2=true then [f,(x.1:Int)]else [])):=aa (by rw[HTk.o,pA,<- hf])
   have HEe:ae (lsE 0 (P.take (i+1))=if x.2=true then (x.1:Int)else f):=aa (by rw[HTk.o,pB,<- hf])
   obtain⟨a,ha⟩:=am x.1;obtain⟨b,hb⟩:=am x.2;rw[<- hb]at HZ HEe q1;rw[<- ha]at HZ HEe q0;rw[<- hf];have HS1:=aa (fun(W:World)(h:Below w1.heap.size w1 W)=>show W.cell? ⟨g,i*2,none⟩=some (.int .i64 (a:Nat))from(h.cell (p:=⟨g,i*2,none⟩) hg).trans q0)
   have c0:=HS1.o wr HBr.o;have c1:=(HBr.o.cell (p:=⟨g,i*2+1,none⟩) hg).trans q1;clear hx hxe hil ha hb hf hg q0 q1
   cases b with
   |false=>
    have HZ2:=aa (HZ.o.trans (by rw[if_neg (by simp),List.append_nil]))
    have HE2:=aa (HEe.o.trans (if_neg (by simp)))
    go_wp2;go_roundw
    case rel=>exact⟨i+1,m,uo,uc,rfl,by rw[HE2.o],by go_num,by omega,by omega,aa (by rw[HZ2.o];exact HM.o),aa (by rw[HZ2.o];exact HO.o),HBr⟩
    case measure=>simp[intOf];omega
   |true=>
    have HZ2:=aa (HZ.o.trans (by rw[if_pos rfl]))
    have HE2:=aa (HEe.o.trans (if_pos rfl));have HO5:ae ((wr.alloc (.cells #[.int .i64 f,.int .i64 (a:Int)] 3)).ownsRow w1.heap.size 3 1 (.slice uo m uc) m (Pt.bf (mn 0 (P.take i)))):=aa (HO.o.alloc _);have HD5:ae (Pt.RdI (wr.alloc (.cells #[.int .i64 f,.int .i64 (a:Int)] 3)) (some ⟨wr.heap.size,0,none⟩) [f,(a:Int)]):=aa (zqn (World.alloc_heap_new _ _));have HB5:ae (Below w1.heap.size w1 (wr.alloc (.cells #[.int .i64 f,.int .i64 (a:Int)] 3))):=aa (HBr.o.alloc HBr.o.size _);go_wp2_with ((at_builtin;refine Pt.cD rfl _ _ rfl w1.heap.size (.slice uo m uc) m (mn 0 (P.take i)) rfl HO5.o (some ⟨wr.heap.size,0,none⟩) 2 2 [f,(a:Int)] rfl HD5.o rfl (by omega) HB5.o.size ?_;intro vo2 vc2 w6 o6 gr6 hb6;have HO6:=aa o6;have HB6:=aa (HB5.o.trans (Pt.grown_below HO5.o gr6 HB5.o.size));have d0:=HS1.o w6 HB6.o;clear o6 gr6 hb6 c0 c1))
    clear HO HO5 HD5 HB5;go_roundw
    case rel=>exact⟨i+1,m+2,vo2,vc2,rfl,by rw[HE2.o],by go_num,by omega,by omega,aa (by rw[HZ2.o,List.length_append,<- HM.o];rfl),aa (by rw[HZ2.o];exact HO6.o),HB6⟩
    case measure=>simp[intOf];omega
  ·have i1:¬(i:Int)<(n:Int):=by omega
   obtain rfl:i=n:=by omega
   have htk:P.take i=P:=List.take_of_length_le (by rw[HN.o];exact Nat.le_refl _)
   have HQ:ae (∃vo' vc',Ending.returned (.slice uo m uc)=.returned (.slice vo' (mn 0 P).length vc')/\Pt.RdI wr vo' (mn 0 P)/\((mn 0 P).length=0\/∃g,vo'=some ⟨g,0,none⟩)/\Below w.heap.size w wr):=aa (by
    have h1:=HO.o;have h2:=HM.o;rw[htk]at h1 h2;exact⟨uo,uc,by rw[h2],Pt.dO h1 h2,by
     rcases h1.2 with ⟨_,h3⟩|⟨g,_,_,h3,_⟩
     ·exact .inl (by rw[<- h2];exact h3)
     ·cases h3
      exact .inr ⟨g,rfl⟩,HB1.o.trans (HBr.o.mono HB1.o.size)⟩)
   go_wp2;go_ret;obtain⟨vo',vc',h1,h2,h3⟩:=HQ.o;exact⟨vo',⟨vc',h1⟩,h2,by simpa using h3⟩
end Ln
end Go.Proofs.YtbbapnpdfcgjnaaGreatDoor
