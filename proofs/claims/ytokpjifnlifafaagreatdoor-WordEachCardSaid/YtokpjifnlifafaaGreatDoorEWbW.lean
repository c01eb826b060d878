/- WbW: parts of the proof, joined. -/
import Derived.Test.YtokpjifnlifafaaGreatDoorEWdCut
import Derived.Test.YtokpjifnlifafaaGreatDoorEWdLv
set_option maxHeartbeats 64000000
namespace Go.Proofs.YtokpjifnlifafaaGreatDoor
namespace Wd
open Go.RowKit Wt
theorem wbs_len (l:List UInt8):(wbs' l).length<=l.length+1:=by
 unfold wbs'
 split
 ·exact Nat.zero_le _
 ·have h:∀{p e:Nat} {P:List (Nat × Nat)},Br.Chn p e P->P.length+p<=e:=by
   intro p e P h
   induction h with
   | nil=>simp
   | cons h1 _ ih=>rw[List.length_cons];omega
  have h2:=h (wp_ch0 l);unfold wbd Br.bds;rw[List.length_cons,List.length_map];omega
end Wd
end Go.Proofs.YtokpjifnlifafaaGreatDoor
