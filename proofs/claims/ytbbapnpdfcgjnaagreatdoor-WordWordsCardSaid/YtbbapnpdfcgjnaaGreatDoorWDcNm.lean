/- DcNm, WdAny, WhMath, KdMath: parts of the proof, joined. -/
import Derived.Test.YtbbapnpdfcgjnaaGreatDoorWWdFun1
import Derived.Test.YtbbapnpdfcgjnaaGreatDoorWPtEv
import Derived.Test.YtbbapnpdfcgjnaaGreatDoorWTxMath
open List renaming drop_eq_getElem_cons->sD, getElem?_eq_getElem->sE, getElem?_map->sI, foldl_cons->sK, mem_cons->sL
open Bool renaming or_eq_true->sH
set_option maxHeartbeats 64000000
namespace Go.Proofs.YtbbapnpdfcgjnaaGreatDoor
namespace Dc
open Go.RowKit
theorem Tryz.info9:(Tryz.prog.info? 9).map (fun i=>(i.zero,i.size,i.bytes))=some (some (.string ⟨#[]⟩),1,16):=by kernel_rfl
def eT(U:List (List UInt8)):List Value:=U.map fun b=>.string ⟨b.toArray⟩
set_option maxRecDepth 100000 in
theorem zhj(U:List (List UInt8))(A:List Tr)(Q:Nat)(w:World)(h:Bk U A Q w)(h0:0<U.length)(h9:U.length<=1000):
  Calls Tryz.prog 46 #[.pointer (some ⟨Q,0,none⟩)] w fun e w'=>∃g nc,e=.returned (.slice (some ⟨g,0,none⟩) U.length nc)/\Pt.bu w' g nc (eT U)/\w.heap.size<=g/\Below w.heap.size w w':=by
 obtain⟨i0,hi,hz0,hz1,hz2⟩:=info_parts Tryz.info9;obtain⟨a,ac,z0,_⟩:=h.names 0 U[0] (sE h0);have hz:∀(j:Nat)(u:Value),(eT U)[j]?=some u->w.cell? (a.add j)=some u:=fun j u hj=>by
  unfold eT at hj;rw[sI]at hj;cases hb:U[j]? with
  |none=>rw[hb]at hj;cases hj
  |some b=>rw[hb]at hj;cases hj;obtain⟨a2,ac2,y0,y1⟩:=h.names j b hb;rw[z0]at y0;cases y0;exact y1
 have hab:a.block<w.heap.size:=World.block_lt_of_cell? w _ (hz 0 _ (show(eT U)[0]?=some (.string ⟨(U[0]).toArray⟩) by unfold eT;rw[sI,sE h0];rfl)) |> fun e=>by rwa [Pt.add_blk]at e
 have HZ:=aa (fun(o:Obj)=>fun(j:Nat)(u:Value)(hj:(eT U)[j]?=some u)=>(Pt.af (w:=w) (o:=o)).cell (p:=a.add j) (by rw[Pt.add_blk];exact hab) |>.trans (hz j u hj));have HL:ae ((eT U).length=U.length):=aa (by simp[eT]);have h1:∀u∈eT U,u.oneCell'=true:=fun u hu=>by obtain⟨b,_,rfl⟩:=List.mem_map.1 hu;rfl
 have H1:=aa h1;obtain⟨N,hN⟩:=aj U.length;rw[<-hN]at z0 h0 h9 HL;have HN:=aa hN;clear hz h1 h hN;have hQ:Q<w.heap.size:=World.block_lt_of_cell? w _ z0;have z1:(w.alloc (.cells #[] 9)).cell? ⟨Q,0,none⟩=some (.slice (some a) N ac):=((Pt.af (w:=w) (o:=.cells #[] 9)).cell (p:=⟨Q,0,none⟩) hQ).trans z0;rw[<-HN.o];go_enter Tryz.func46,Tryz.ntmps46;go_wp2_with (at_builtin;refine wpList_append_own _ rfl _ _ 66 rfl w.heap.size 9 i0 (.string ⟨#[]⟩) 1 16 Tryz.underlying66 hi hz0 hz1 hz2 rfl (by decide) _ 0 [] rfl (World.ownsRow_lit w #[] 0 (Nat.le_refl _) (by decide) (by simp)) a N ac (eT U) rfl (by rw[HL.o,Nat.mul_one]) (HZ.o _) H1.o (by unfold maxLen;omega) (by omega) (by simp) ?_);intro v' w2 hown hgrow _;have hB2:Below w.heap.size w w2:=(Pt.af (w:=w) (o:=.cells #[] 9)).grown hgrow (by simp) (fun k hk=>by
  have:w.heap.size=k:=by simpa[Value.ownBlock]using hk
  omega)
 have HB2:=aa hB2;have HO:=aa hown;clear hown hgrow hB2;go_wp2;go_ret;obtain⟨e1,h2⟩:=HO.o;rcases h2 with ⟨_,e2⟩|⟨g,cap,cur,rfl,k1,k2,k3,_,k5,k6⟩
 ·omega
 ·exact⟨g,cap,rfl,⟨cur,k2,by rw[k5,Nat.mul_one],by rw[HL.o];exact k3,by rw[HL.o];rw[Nat.mul_one]at k6;exact k6⟩,k1,HB2.o⟩
end Dc
namespace Dc
open Go.RowKit
def wdN(c:Int):List UInt8:=od.getD c.toNat []
set_option maxRecDepth 100000 in
theorem wdP_len:wdP.length<=12000:=by decide+kernel
set_option maxRecDepth 100000 in
theorem db12(w:World):Calls Tryz.prog 44 #[] w fun e w'=>Below w.heap.size w w'/\∃Q,e=.returned (.pointer (some ⟨Q,0,none⟩))/\Bk od wdW Q w':=by go_enter Tryz.func44,Tryz.ntmps44;go_wp2_with fail;refine(zis _ wdP w (by kernel_rfl) (.inl wdP_len) od wdS wdW zse zlL).mono ?_;rintro e w1 ⟨hb,Q,rfl,hk⟩;have HB:=aa hb;have HK:=aa hk;clear hb hk;go_wp2;go_ret;exact⟨HB.o,Q,rfl,HK.o⟩
end Dc
namespace Wd
open Go.RowKit
theorem rQ(s:List UInt8)(k:Nat)(x:Nat×Nat)(h:(rl s)[k]?=some x):aQ (s.drop (lz s k))=bf x.1:=by
 obtain⟨hk,hx⟩:=List.getElem?_eq_some_iff.1 h;have h1:=rl_drop s k (by omega);have hne:s.drop (lz s k)≠ []:=fun e=>by rw[e,iA,sD hk]at h1;cases h1
 rw[bD _ hne,sD hk,hx]at h1;have h2:dec (s.drop (lz s k))=x:=(List.cons.inj h1).1;unfold aQ;rw[h2]
theorem mo(r:Nat):∃c:Nat,bf (r:Int)=(c:Int)/\c<20:=by obtain⟨n,h1,h2⟩:=(zlK (r:Int)).nat;exact⟨n,h2,h1⟩
theorem ztb(c:Nat)(h:c<20)(k:Nat)(hk:k<20):(Dc.wdN (c:Int)==Dc.wdN (k:Int))=decide (c=k):=by
 have H:∀a:Fin 20,∀b:Fin 20,(Dc.wdN ((a:Nat):Int)==Dc.wdN ((b:Nat):Int))=decide ((a:Nat)=(b:Nat)):=by decide+kernel
 exact H ⟨c,h⟩ ⟨k,hk⟩
theorem zaZ(c:Nat)(h:c<20)(k:Nat)(hk:k<20)(hne:c≠k)(b:List UInt8)(hb:Dc.wdN (k:Int)=b):(Dc.wdN (c:Int)==b)=false:=by rw[<-hb,ztb c h k hk];exact decide_eq_false hne
section
variable (s:List UInt8) (p:Nat) (a b:Nat) (ha:bT (s.take p)=(a:Int)) (hb:aQ (s.drop p)=(b:Int))
include ha hb
end
end Wd
namespace Wd
open Go.RowKit
def cu(l:List UInt8):List Nat:=(rl l).map fun x=>(bf x.1).toNat
def qk(c:Nat):Nat:=if c=10\/c=9\/c=8 then 4 else if c=16 then 3 else if c=3\/c=1\/c=2 then 2 else if c=18 then 1 else 0
def odc(c:Nat):Bool:=decide (qk c=0)&& !aT (c:Int)
def kmx(L:List Nat):Nat:=L.foldl (fun k c=>max k (qk c)) 0
def str(L:List Nat):Bool:=L.foldl (fun b c=>b||odc c) false
def wkd(L:List Nat):Nat:=if kmx L=1/\str L=true then 0 else kmx L
theorem znW(L:List Nat)(c:Nat):kmx (L++[c])=max (kmx L) (qk c):=by simp[kmx]
theorem zmI(L:List Nat)(c:Nat):str (L++[c])=(str L||odc c):=by simp[str]
theorem znV(c:Nat):qk c<=4:=by unfold qk;(repeat' split)<;>omega
theorem zeW:∀(L:List Nat)(a v:Nat),v<=L.foldl (fun k c=>max k (qk c)) a ↔ v<=a\/∃c∈L,v<=qk c
 |[],a,v=>by simp
 |x::L,a,v=>by
  rw[sK,zeW L (max a (qk x)) v];simp only[sL,exists_eq_or_imp];have h:v<=max a (qk x) ↔ v<=a\/v<=qk x:=by omega
  rw[h,or_assoc]
theorem ziZ:∀(L:List Nat)(a:Bool),L.foldl (fun b c=>b||odc c) a=true ↔ a=true\/∃c∈L,odc c=true
 |[],a=>by simp
 |x::L,a=>by rw[sK,ziZ L (a||odc x)];simp only[sL,exists_eq_or_imp,sH,or_assoc]
theorem ql(L:List Nat)(v:Nat)(hv:1<=v):v<=kmx L ↔ ∃c∈L,v<=qk c:=by
 unfold kmx;rw[zeW];constructor
 ·rintro (h|h)
  ·omega
  ·exact h
 ·exact .inr
theorem znX(L:List Nat):kmx L<=4:=by
 rcases Nat.lt_or_ge 4 (kmx L)with h|h
 ·obtain⟨c,_,h2⟩:=(ql L 5 (by omega)).1 h;have:=znV c;omega
 ·exact h
def dU(L:List Nat)(k:Nat):Bool:=decide (k∈L)
def pln(c:Nat):Bool:=c==18||c==4||c==6||c==5
def plA(L:List Nat):Bool:=L.all pln
def rkd(L:List Nat):Nat:=
 if (dU L 10||dU L 9||dU L 8)=true then 4 else if dU L 16=true then 3 else if (dU L 3||dU L 1||dU L 2)=true then 2 else if (dU L 18&&plA L)=true then 1 else 0
theorem zoj(L:List Nat)(c k:Nat):dU (L++[c]) k=(dU L k||decide (k=c)):=by unfold dU;rw[<-Bool.decide_or];simp
theorem zns(L:List Nat)(c:Nat):plA (L++[c])=(plA L&&pln c):=by simp[plA]
theorem kof4(c:Nat):4<=qk c ↔ c=10\/c=9\/c=8:=by unfold qk;(repeat' split)<;>omega
theorem kof3(c:Nat):3<=qk c ↔ (c=10\/c=9\/c=8)\/c=16:=by unfold qk;(repeat' split)<;>omega
theorem kof2(c:Nat):2<=qk c ↔ (c=10\/c=9\/c=8)\/c=16\/(c=3\/c=1\/c=2):=by unfold qk;(repeat' split)<;>omega
theorem kof1(c:Nat):1<=qk c ↔ (c=10\/c=9\/c=8)\/c=16\/(c=3\/c=1\/c=2)\/c=18:=by unfold qk;(repeat' split)<;>omega
theorem zgT(L:List Nat)(hL:∀c∈L,c<20):wkd L=rkd L:=by
 have g4:=ql L 4 (by omega);have g3:=ql L 3 (by omega);have g2:=ql L 2 (by omega);have g1:=ql L 1 (by omega);have gl:=znX L;have ex:∀{p q:Nat->Prop},(∀c,p c ↔ q c)->((∃c∈L,p c) ↔ ∃c∈L,q c):=fun h=>⟨fun⟨c,h1,h2⟩=>⟨c,h1,(h c).1 h2⟩,fun⟨c,h1,h2⟩=>⟨c,h1,(h c).2 h2⟩⟩;rw[ex kof4]at g4;rw[ex kof3]at g3;rw[ex kof2]at g2;rw[ex kof1]at g1;have m4:(dU L 10||dU L 9||dU L 8)=true ↔ ∃c∈L,c=10\/c=9\/c=8:=by
  unfold dU;simp only[sH,decide_eq_true_eq];constructor
  ·rintro ((h|h)|h)
   ·exact⟨10,h,.inl rfl⟩
   ·exact⟨9,h,.inr (.inl rfl)⟩
   ·exact⟨8,h,.inr (.inr rfl)⟩
  ·rintro ⟨c,h,rfl|rfl|rfl⟩
   ·exact .inl (.inl h)
   ·exact .inl (.inr h)
   ·exact .inr h
 have m3:dU L 16=true ↔ 16∈L:=by unfold dU;simp
 have m2:(dU L 3||dU L 1||dU L 2)=true ↔ ∃c∈L,c=3\/c=1\/c=2:=by
  unfold dU;simp only[sH,decide_eq_true_eq];constructor
  ·rintro ((h|h)|h)
   ·exact⟨3,h,.inl rfl⟩
   ·exact⟨1,h,.inr (.inl rfl)⟩
   ·exact⟨2,h,.inr (.inr rfl)⟩
  ·rintro ⟨c,h,rfl|rfl|rfl⟩
   ·exact .inl (.inl h)
   ·exact .inl (.inr h)
   ·exact .inr h
 unfold rkd wkd;by_cases h4:∃c∈L,c=10\/c=9\/c=8
 ·rw[if_pos (m4.2 h4)];have:=g4.2 h4;rw[if_neg (by omega)];omega
 rw[if_neg (fun e=>h4 (m4.1 e))];have n4:¬4<=kmx L:=fun e=>h4 (g4.1 e);by_cases h3:16∈L
 ·rw[if_pos (m3.2 h3)];have:=g3.2 ⟨16,h3,.inr rfl⟩;rw[if_neg (by omega)];omega
 rw[if_neg (fun e=>h3 (m3.1 e))];have n3:¬3<=kmx L:=fun e=>by
  obtain⟨c,h1,h2|rfl⟩:=g3.1 e
  ·exact h4 ⟨c,h1,h2⟩
  ·exact h3 h1
 by_cases h2:∃c∈L,c=3\/c=1\/c=2
 ·rw[if_pos (m2.2 h2)];obtain⟨c,h5,h6⟩:=h2;have:=g2.2 ⟨c,h5,.inr (.inr h6)⟩;rw[if_neg (by omega)];omega
 rw[if_neg (fun e=>h2 (m2.1 e))];have n2:¬2<=kmx L:=fun e=>by
  obtain⟨c,h1,h5|rfl|h5⟩:=g2.1 e
  ·exact h4 ⟨c,h1,h5⟩
  ·exact h3 h1
  ·exact h2 ⟨c,h1,h5⟩
 by_cases h1:18∈L
 ·have k1:=g1.2 ⟨18,h1,.inr (.inr (.inr rfl))⟩;have e18:dU L 18=true:=by unfold dU;simpa using h1
  rw[e18,Bool.true_and];have hk:kmx L=1:=by omega
  have hs:str L=true ↔ ¬plA L=true:=by
   unfold str plA;rw[ziZ,List.all_eq_true];constructor
   ·rintro (h|⟨c,h5,h6⟩) h7
    ·cases h
    ·have H:∀a:Fin 20,odc (a:Nat)=true->pln (a:Nat)=true->False:=by decide+kernel
     exact H ⟨c,hL c h5⟩ h6 (h7 c h5)
   ·intro h;refine .inr ?_;simp only[Classical.not_forall]at h;obtain⟨c,h5,h6⟩:=h;refine⟨c,h5,?_⟩;have q4:¬(c=10\/c=9\/c=8):=fun e=>h4 ⟨c,h5,e⟩;have q3:c≠16:=fun e=>h3 (e ▸ h5);have q2:¬(c=3\/c=1\/c=2):=fun e=>h2 ⟨c,h5,e⟩;have H:∀a:Fin 20,¬((a:Nat)=10\/(a:Nat)=9\/(a:Nat)=8)->(a:Nat)≠16->¬((a:Nat)=3\/(a:Nat)=1\/(a:Nat)=2)->¬pln (a:Nat)=true->odc (a:Nat)=true:=by decide+kernel
    exact H ⟨c,hL c h5⟩ q4 q3 q2 h6
  by_cases hp:plA L=true
  ·rw[if_pos hp,if_neg (fun e=>absurd hp (hs.1 e.2)),hk]
  ·rw[if_neg hp,if_pos ⟨hk,hs.2 hp⟩]
 ·have e18:dU L 18=false:=by unfold dU;simpa using h1
  have k0:¬1<=kmx L:=fun e=>by
   obtain⟨c,h5,h6|rfl|h6|rfl⟩:=g1.1 e
   ·exact h4 ⟨c,h5,h6⟩
   ·exact h3 h5
   ·exact h2 ⟨c,h5,h6⟩
   ·exact h1 h5
  rw[e18,Bool.false_and,if_neg (by omega)];simp;omega
end Wd
end Go.Proofs.YtbbapnpdfcgjnaaGreatDoor
