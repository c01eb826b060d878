/- Proved:WordWords answers true for every text,every place and every number:the words that Words hands on are,one behind the other and as often as it is gone over,those that the document finds,Count tells how many,and After and Before tell the first one that begins at the place or behind it and the last one that ends at it or ahead of it (texts of more than seventy bytes are only looked at by the closing check);and the arguments read behind the call as they did. Condition:the listed package-level variables of Go's library (the two tables of package unicode/utf8) begin as the program's text lays them (the card ties them). -/
import Derived.ShutString
import Derived.Test.YtbbapnpdfcgjnaaGreatDoorTie
import Derived.Test.YtbbapnpdfcgjnaaGreatDoorCards
import Derived.Test.YtbbapnpdfcgjnaaGreatDoorWWwW
import Derived.Test.YtbbapnpdfcgjnaaGreatDoorWWdLaid
namespace Go.Proofs.YtbbapnpdfcgjnaaGreatDoor
open Go.ChangeShapes Go.WideShapes Go.ChangeAt Go.RowKit
open Go.ChangeMaps (open_string shut_string)
theorem mM:laidOutB Tryz.prog=true:=by kernel_rfl
set_option maxHeartbeats 2000000 in
set_option maxRecDepth 100000 in
theorem mj (os:Os) (started:os.Started) (H:Type) (enc:TypeId×Value->H):
  ReturnsInHanded {} Tryz.checked os 6 .any (fun w args=>(Rows.wordWordsSpec.pre enc Tryz.prog Tryz.f6 [] false w args/\laidMetH Tryz.prog zat w)/\sizedMet enc Tryz.prog Tryz.f6 (OpenSpec.ofChange Rows.wordWordsSpec) false w args)
   (Rows.wordWordsSpec.post enc Tryz.prog Tryz.f6 false true false false):=by
 refine zvz (C:=Tryz.checked) (X:=fun w _=>laidMetH Tryz.prog zat w) (fun _ _ _ hh h=>h.of_heap hh) ownk started (by kernel_rfl) Tryz.func6
  (ChangeSpec.witness_shaped (enc:=enc) (C:=Tryz.checked) (os:=os) (X:=fun w _=>laidMetH Tryz.prog zat w) false (World.laidAll Tryz.prog os zat) #[.string ⟨#[]⟩,.int .i64 0,.int .i64 0] 8 (World.laidAll_os _ _ _)
   (World.shaped_of_ZipB (by kernel_rfl) (by kernel_rfl)) (by kernel_rfl) (by kernel_rfl) (by kernel_rfl)
   (by rw[MakeChecks.laidMetH_plain _ _ _ (by kernel_rfl)];exact laidMet_laidAll _ (by kernel_rfl) (by kernel_rfl))) ?_
 intro W base args ds gs before hval0 hW hsh hsz0 hL;have hval:∀(j:Nat) t v,Tryz.f6.params[j]?=some t->args[j]?=some v->Value.okWide Tryz.prog W .any base t v:=hval0;have hW':=hW;obtain⟨p,q,hA0,hV,rfl,hfz,hnd⟩:=hW;have hA:DataW.TrodAll enc Tryz.prog W 0 (fun _=>true) true Tryz.f6.params.toList args.toList ds p:=hA0;rw[Tryz.params6]at hA hval;obtain⟨v0,v1,v2,d0,d1,d2,p0,p1,p2,rfl,rfl,rfl,h0,h1,h2⟩:=trodAll_three hA;obtain⟨rfl,rfl⟩:=trodVars_none hV;have hsz:(DataW.weightsEach Tryz.prog [9,3,3] [d0,d1,d2]).all (·<=reachBytes)=true:=hsz0;have k0:=h0;have k1:=h1;have k2:=h2;have lt0:∀x∈p0,x.block<W.heap.size:=by obtain⟨m,hm⟩:=k0;exact DataW.trod_lt m _ _ _ hm
 have lt1:∀x∈p1,x.block<W.heap.size:=by obtain⟨m,hm⟩:=k1;exact DataW.trod_lt m _ _ _ hm
 have lt2:∀x∈p2,x.block<W.heap.size:=by obtain⟨m,hm⟩:=k2;exact DataW.trod_lt m _ _ _ hm
 have htb:=zbg hL hsh;have ht2:Wd.na W:=⟨kT hL,by obtain⟨c,h1,_⟩:=htb _ (List.mem_cons_of_mem _ (List.mem_cons_self ..));exact(Array.getElem?_eq_some_iff.1 h1).1⟩;obtain⟨s,rfl,rfl,rfl,ws⟩:=open_string Tryz.underlying9 (hval 0 9 v0 rfl rfl) h0;obtain⟨l,rfl⟩:∃l:List UInt8,s=⟨l.toArray⟩:=⟨s.data.toList,by simp⟩;obtain⟨z,rfl,_,wz1⟩:=open_int Tryz.underlying3 (hval 1 3 v1 rfl rfl) h1;obtain⟨st,rfl,_,wz2⟩:=open_int Tryz.underlying3 (hval 2 3 v2 rfl rfl) h2;clear hA0 hval0;refine(Wd.zqb l z st W ht2 htb).mono fun e W' ⟨he,bel⟩=>?_;subst he;exact⟨_,rfl,_,_,_,[],_,[],hW',trodAll_mk1 (shut_bool Tryz.underlying4 _),trodAll_mk3 (Below.trod mM (by kernel_rfl) (of_decide_eq_true (by kernel_rfl)) k0 bel lt0) (Below.trod mM (by kernel_rfl) (of_decide_eq_true (by kernel_rfl)) k1 bel lt1) (Below.trod mM (by kernel_rfl) (of_decide_eq_true (by kernel_rfl)) k2 bel lt2),rfl,bel.frame _,fun h=>by cases h⟩
theorem nW:Rows.WordWordsSaid:=
 OpenClaim.holds_of_wide 6 Tryz.f6 rfl rfl rfl rfl rfl rfl rfl ⟨rfl,rfl,rfl,rfl,rfl⟩ rfl rfl rfl rfl rfl (by kernel_rfl) Tryz.func6 (by kernel_rfl)
  (of_decide_eq_true (by kernel_rfl)) (by unfold Func.isWrapper;first|(rw[if_pos (by decide+kernel)];kernel_rfl)|(rw[if_neg (by decide+kernel)];exact⟨rfl,rfl⟩))
  (fun os started H enc _=>mj os started H enc)
theorem wordWords_proved:Rows.WordWordsCardSaid:=
 Claim7.holds_tied_plain_at .later [] [.data,.pinned] true Rows.wordWordsCard.stood.harness false
  nW (fun _ h=>by cases h) (by kernel_rfl) (fun _ h=>by cases h) wordWords_row_tie rfl ⟨rfl,rfl⟩ (by kernel_rfl) rfl
  (fun f fn hf hfn=>by
   obtain rfl:f=6:=Option.some.inj ((show Tryz.prog.funcNamed Rows.wordWordsRow.func=some 6 by kernel_rfl).symm.trans hf) |>.symm;obtain rfl:fn=Tryz.f6:=(Option.some.inj (Tryz.func6.symm.trans hfn)).symm;exact⟨by kernel_rfl,fun j t ht=>by
    rw[Tryz.params6]at ht;have hm:t∈ [9,3,3]:=by simpa using Array.mem_of_getElem? ht
    have hall:([9,3,3].all fun u=> !Tryz.prog.wantsStandIn u)=true:=by kernel_rfl
    exact(show Tryz.prog.wantsStandIn t=false by simpa using List.all_eq_true.1 hall t hm)⟩)
  (by kernel_rfl)
#print axioms wordWords_proved
end Go.Proofs.YtbbapnpdfcgjnaaGreatDoor
