/- Proved:LineChances answers true for every text:the chances that package line tells are those that the document finds by its rules,which it reads of their text,and by its database,each with whether it must be taken,and what the caller writes into them changes nothing (texts of more than sixty bytes are only looked at by the closing check);and the argument reads behind the call as it did. Condition:the listed package-level variables of Go's library (the two tables of package unicode/utf8) begin as the program's text lays them (the card ties them). -/
import Derived.ShutString
import Derived.Test.YtbbapnpdfcgjnaaGreatDoorTie
import Derived.Test.YtbbapnpdfcgjnaaGreatDoorCards
import Derived.Test.YtbbapnpdfcgjnaaGreatDoorNLcW
import Derived.Test.YtbbapnpdfcgjnaaGreatDoorNWdLaid
namespace Go.Proofs.YtbbapnpdfcgjnaaGreatDoor
open Go.ChangeShapes Go.WideShapes Go.ChangeAt Go.RowKit
open Go.ChangeMaps (open_string shut_string)
theorem zjL:laidOutB Tryz.prog=true:=by kernel_rfl
set_option maxHeartbeats 2000000 in
set_option maxRecDepth 100000 in
theorem jU (os:Os) (started:os.Started) (H:Type) (enc:TypeId × Value->H):
  ReturnsInHanded {} Tryz.checked os 7 .any (fun w args=>(Rows.lineChancesSpec.pre enc Tryz.prog Tryz.f7 [] false w args/\laidMetH Tryz.prog qW w)/\sizedMet enc Tryz.prog Tryz.f7 (OpenSpec.ofChange Rows.lineChancesSpec) false w args)
   (Rows.lineChancesSpec.post enc Tryz.prog Tryz.f7 false true false false):=by
 refine zvw (C:=Tryz.checked) (X:=fun w _=>laidMetH Tryz.prog qW w) (fun _ _ _ hh h=>h.of_heap hh) ownk started (by kernel_rfl) Tryz.func7
  (ChangeSpec.witness_shaped (enc:=enc) (C:=Tryz.checked) (os:=os) (X:=fun w _=>laidMetH Tryz.prog qW w) false (World.laidAll Tryz.prog os qW) #[.string ⟨#[]⟩] 8 (World.laidAll_os _ _ _)
   (World.shaped_of_ZipB (by kernel_rfl) (by kernel_rfl)) (by kernel_rfl) (by kernel_rfl) (by kernel_rfl)
   (by rw[MakeChecks.laidMetH_plain _ _ _ (by kernel_rfl)];exact laidMet_laidAll _ (by kernel_rfl) (by kernel_rfl))) ?_
 intro W base args ds gs before hval0 hW hsh hsz0 hL;have hval:∀(j:Nat) t v,Tryz.f7.params[j]? =some t->args[j]? =some v->Value.okWide Tryz.prog W .any base t v:=hval0;have hW':=hW;obtain⟨p,q,hA0,hV,rfl,hfz,hnd⟩:=hW;have hA:DataW.TrodAll enc Tryz.prog W 0 (fun _=>true) true Tryz.f7.params.toList args.toList ds p:=hA0
 rw[Tryz.params7] at hA hval;obtain⟨v0,d0,rfl,rfl,h0⟩:=trodAll_one hA;obtain⟨rfl,rfl⟩:=trodVars_none hV;have hsz:(DataW.weightsEach Tryz.prog [9] [d0]).all (·<=reachBytes)=true:=hsz0
 have k0:=h0;have lt0:∀x∈p,x.block<W.heap.size:=by obtain⟨m,hm⟩:=k0;exact DataW.trod_lt m _ _ _ hm
 have htb:=rV hL hsh;have ht2:Ln.Tb W:=⟨kg hL,by
  obtain⟨c,h1,_⟩:=htb _ (List.mem_cons_of_mem _ (List.mem_cons_self ..));exact(Array.getElem?_eq_some_iff.1 h1).1⟩
 obtain⟨s,rfl,rfl,rfl,ws⟩:=open_string Tryz.underlying9 (hval 0 9 v0 rfl rfl) h0;obtain⟨l,rfl⟩:∃l:List UInt8,s=⟨l.toArray⟩:=⟨s.data.toList,by simp⟩
 clear hA0 hval0;refine(Ln.zqb l W ht2 htb).mono fun e W' ⟨he,bel⟩=>?_
 subst he;exact⟨_,rfl,_,_,_,[],_,[],hW',trodAll_mk1 (shut_bool Tryz.underlying4 _),trodAll_mk1 (Below.trod zjL (by kernel_rfl) (of_decide_eq_true (by kernel_rfl)) k0 bel lt0),rfl,bel.frame _,fun h=>by cases h⟩
theorem kH:Rows.LineChancesSaid:=
 OpenClaim.holds_of_wide 7 Tryz.f7 rfl rfl rfl rfl rfl rfl rfl ⟨rfl,rfl,rfl,rfl,rfl⟩ rfl rfl rfl rfl rfl (by kernel_rfl) Tryz.func7 (by kernel_rfl)
  (of_decide_eq_true (by kernel_rfl)) (by unfold Func.isWrapper;first | (rw[if_pos (by decide+kernel)];kernel_rfl) | (rw[if_neg (by decide+kernel)];exact⟨rfl,rfl⟩))
  (fun os started H enc _=>jU os started H enc)
theorem lineChances_proved:Rows.LineChancesCardSaid:=
 Claim7.holds_tied_plain_at .later [] [.data,.pinned] true Rows.lineChancesCard.stood.harness false
  kH (fun _ h=>by cases h) (by kernel_rfl) (fun _ h=>by cases h) lineChances_row_tie rfl ⟨rfl,rfl⟩ (by kernel_rfl) rfl
  (fun f fn hf hfn=>by
   obtain rfl:f=7:=Option.some.inj ((show Tryz.prog.funcNamed Rows.lineChancesRow.func=some 7 by kernel_rfl).symm.trans hf) |>.symm
   obtain rfl:fn=Tryz.f7:=(Option.some.inj (Tryz.func7.symm.trans hfn)).symm;exact⟨by kernel_rfl,fun j t ht=>by
    rw[Tryz.params7] at ht;have hm:t∈ [9]:=by simpa using Array.mem_of_getElem? ht
    have hall:([9].all fun u=> !Tryz.prog.wantsStandIn u)=true:=by kernel_rfl
    exact(show Tryz.prog.wantsStandIn t=false by simpa using List.all_eq_true.1 hall t hm)⟩)
  (by kernel_rfl)
#print axioms lineChances_proved
end Go.Proofs.YtbbapnpdfcgjnaaGreatDoor
