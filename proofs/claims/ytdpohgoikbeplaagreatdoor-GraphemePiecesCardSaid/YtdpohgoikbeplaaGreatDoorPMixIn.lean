/- MixIn, MixW: parts of the proof, joined. -/
import Derived.OrdersIn
import Derived.RangeFuncCalls
import Derived.TacticsIn
import Derived.Test.YtdpohgoikbeplaaGreatDoorPMix
namespace Go.Proofs.YtdpohgoikbeplaaGreatDoor
def OnlyN (Q : Exit -> Act -> World -> Prop) : Exit -> Act -> World -> Prop
 | .normal, a, w => Q .normal a w
 | _, _, _ => False
theorem OnlyN.imp {Q : Exit -> Act -> World -> Prop} : ∀ (e : Exit) (a : Act) (w : World), OnlyN Q e a w -> Q e a w := fun e a w h => by
 cases e <;> first | exact h | exact (h : False).elim
theorem OnlyN.in {Q : Exit -> Act -> World -> Prop} {a : Act} {w : World} (h : Q .normal a w) : OnlyN Q .normal a w := h
section
variable {P : Program} {ops : Array Oper} {Q : Exit -> Act -> World -> Prop} {md : Region.Mode}
theorem operIn_of {o : Oper} {a : Act} {w : World} {K : Act -> World -> Prop} (l n : Nat) (hnd : ∀ c, o.op ≠ .defer c) (h : o.wp P a w K Q) : o.wpIn (Fence.wide.inRound l) n P a w K Q := by
 unfold Oper.wpIn
 refine ⟨fun _ _ => trivial, ?_⟩
 rw [Oper.semAt_eq _ _ _ hnd]
 unfold Oper.wp at h
 generalize (execOp a.eval o).run P w = r at *
 cases r with
 | ok x w' =>
  cases x <;> simp only [Oper.uponIn, Oper.upon] at h ⊢
  case value => exact h
  case skip => exact h
  case defer => exact h
  case enter => exact ⟨fun hd => by simp [Fence.wide] at hd, CallsIn.inRound l (callsIn_wide.2 h)⟩
  case row => exact ⟨fun hd => by simp [Fence.wide] at hd, fun c cs _ => let ⟨v, w', r, s⟩ := h c cs; ⟨v, w', r, stepsIn_wide.2 s⟩⟩
 | halt x w' => cases x <;> simp only [Oper.uponIn, Oper.upon] at h ⊢ <;> exact h
theorem wpAnyIn_of (l n : Nat) (hnd : ∀ (j : Nat) (o : Oper), ops[j]? = some o -> ∀ c, o.op ≠ .defer c) (hQ : ¬ LetsOut Q) : ∀ (f : Nat) (listed : Array Bool) (a : Act) (w : World), wpAny P md ops Q f listed a w -> wpAnyIn (Fence.wide.inRound l) n P md ops Q f listed a w
 | 0, _, _, _, h => h
 | f + 1, listed, a, w, h => by
  refine ⟨h.1, fun i hi => ?_⟩
  have h1 := h.2 i hi
  unfold wpOp at h1
  unfold wpOpIn
  cases ho : ops[i]? with
  | none =>
   simp only [ho] at h1 ⊢
   exact wpAnyIn_of l n hnd hQ f _ _ _ h1
  | some o =>
   simp only [ho] at h1 ⊢
   split
   ·rename_i hw
    simp only [hw, if_true] at h1
    rcases h1 with h1 | h1
    ·exact operIn_of l n (hnd i o ho) (Oper.wp_mono (fun a' w' h' => wpAnyIn_of l n hnd hQ f _ a' w' h') h1)
    ·exact absurd h1.2 hQ
   ·rename_i hw
    simp only [hw] at h1
    exact ⟨fun _ _ => trivial, wpAnyIn_of l n hnd hQ f _ _ _ h1⟩
theorem wpIn_region_mix {id : Nat} {a : Act} {w : World} {l : List Oper} (lp m : Nat) (ord : List (Nat × Bool)) (S : World -> Prop) (fin : Nat -> Bool) (hm : P.follows .mixedOrders = true) (hsel : Region.noSelect l.toArray = true) (hnd : l.all (fun o => match o.op with | .defer _ => false | _ => true) = true) (hs : ∀ j, fin j = true -> j < l.length)
  (hlen : ord.length = l.length) (hB : Region.mixB .any l.toArray fin ord (Array.replicate l.length false) = true) (hS : S w.drew)
  (h : wpMix P l.toArray (OnlyN Q) S fin ord a w.drew) : (Code.region id l.toArray true).wpIn (Fence.wide.inRound lp) m P Q a w := by
 refine Code.wpIn_mono OnlyN.imp ?_
 refine wpIn_region_any hm (wpAnyIn_of lp m (fun j o ho c hc => ?_) (fun ⟨_, _, hq⟩ => hq) _ _ _ _ (anyT_any (S := S) (fin := fin) _ _ _ _ ?_))
 ·have h5 := List.all_eq_true.1 hnd o (List.mem_of_getElem? (i := j) (by simpa using ho))
  rw [hc] at h5
  cases h5
 ·have H := anyT_mix (P := P) (ops := l.toArray) (Q := OnlyN Q) (md := .any) (S := S) (fin := fin) hsel (by simpa using hs) (fun _ _ _ _ _ h => h) ord (Array.replicate l.length false) a w.drew hB (fun _ => hS) h
  rw [hlen] at H
  simpa using H
end
end Go.Proofs.YtdpohgoikbeplaaGreatDoor
namespace Go.Proofs.YtdpohgoikbeplaaGreatDoor
section
variable {P : Program} {ops : Array Oper} {Q : Exit -> Act -> World -> Prop} {md : Region.Mode}
theorem operIn_ofW {o : Oper} {a : Act} {w : World} {K : Act -> World -> Prop} (n : Nat) (hnd : ∀ c, o.op ≠ .defer c) (h : o.wp P a w K Q) : o.wpIn Fence.wide n P a w K Q := by
 unfold Oper.wpIn
 refine ⟨fun _ _ => trivial, ?_⟩
 rw [Oper.semAt_eq _ _ _ hnd]
 unfold Oper.wp at h
 generalize (execOp a.eval o).run P w = r at *
 cases r with
 | ok x w' =>
  cases x <;> simp only [Oper.uponIn, Oper.upon] at h ⊢
  case value => exact h
  case skip => exact h
  case defer => exact h
  case enter => exact ⟨fun hd => by simp [Fence.wide] at hd, callsIn_wide.2 h⟩
  case row => exact ⟨fun hd => by simp [Fence.wide] at hd, fun c cs _ => let ⟨v, w', r, s⟩ := h c cs; ⟨v, w', r, stepsIn_wide.2 s⟩⟩
 | halt x w' => cases x <;> simp only [Oper.uponIn, Oper.upon] at h ⊢ <;> exact h
theorem wpAnyIn_ofW (n : Nat) (hnd : ∀ (j : Nat) (o : Oper), ops[j]? = some o -> ∀ c, o.op ≠ .defer c) (hQ : ¬ LetsOut Q) : ∀ (f : Nat) (listed : Array Bool) (a : Act) (w : World), wpAny P md ops Q f listed a w -> wpAnyIn Fence.wide n P md ops Q f listed a w
 | 0, _, _, _, h => h
 | f + 1, listed, a, w, h => by
  refine ⟨h.1, fun i hi => ?_⟩
  have h1 := h.2 i hi
  unfold wpOp at h1
  unfold wpOpIn
  cases ho : ops[i]? with
  | none =>
   simp only [ho] at h1 ⊢
   exact wpAnyIn_ofW n hnd hQ f _ _ _ h1
  | some o =>
   simp only [ho] at h1 ⊢
   split
   ·rename_i hw
    simp only [hw, if_true] at h1
    rcases h1 with h1 | h1
    ·exact operIn_ofW n (hnd i o ho) (Oper.wp_mono (fun a' w' h' => wpAnyIn_ofW n hnd hQ f _ a' w' h') h1)
    ·exact absurd h1.2 hQ
   ·rename_i hw
    simp only [hw] at h1
    exact ⟨fun _ _ => trivial, wpAnyIn_ofW n hnd hQ f _ _ _ h1⟩
theorem wpIn_region_mixW {id : Nat} {a : Act} {w : World} {l : List Oper} (m : Nat) (ord : List (Nat × Bool)) (S : World -> Prop) (fin : Nat -> Bool) (hm : P.follows .mixedOrders = true) (hsel : Region.noSelect l.toArray = true) (hnd : l.all (fun o => match o.op with | .defer _ => false | _ => true) = true) (hs : ∀ j, fin j = true -> j < l.length)
  (hlen : ord.length = l.length) (hB : Region.mixB .any l.toArray fin ord (Array.replicate l.length false) = true) (hS : S w.drew)
  (h : wpMix P l.toArray (OnlyN Q) S fin ord a w.drew) : (Code.region id l.toArray true).wpIn Fence.wide m P Q a w := by
 refine Code.wpIn_mono OnlyN.imp ?_
 refine wpIn_region_any hm (wpAnyIn_ofW m (fun j o ho c hc => ?_) (fun ⟨_, _, hq⟩ => hq) _ _ _ _ (anyT_any (S := S) (fin := fin) _ _ _ _ ?_))
 ·have h5 := List.all_eq_true.1 hnd o (List.mem_of_getElem? (i := j) (by simpa using ho))
  rw [hc] at h5
  cases h5
 ·have H := anyT_mix (P := P) (ops := l.toArray) (Q := OnlyN Q) (md := .any) (S := S) (fin := fin) hsel (by simpa using hs) (fun _ _ _ _ _ h => h) ord (Array.replicate l.length false) a w.drew hB (fun _ => hS) h
  rw [hlen] at H
  simpa using H
end
end Go.Proofs.YtdpohgoikbeplaaGreatDoor
