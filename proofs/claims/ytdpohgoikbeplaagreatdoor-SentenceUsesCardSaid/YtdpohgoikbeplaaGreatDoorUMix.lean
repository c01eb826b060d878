/- Mix: parts of the proof, joined. -/
import Derived.Deep.RegionHeld3
import Derived.Test.YtdpohgoikbeplaaGreatDoorUHeld
namespace Go.Proofs.YtdpohgoikbeplaaGreatDoor
section
variable {P : Program} {ops : Array Oper} {Q : Exit -> Act -> World -> Prop} {md : Region.Mode} {S : World -> Prop} {fin : Nat -> Bool}
def Region.mixB (md : Region.Mode) (ops : Array Oper) (fin : Nat -> Bool) : List (Nat × Bool) -> Array Bool -> Bool
 | [], listed => Region.ready md ops listed == []
 | (k, true) :: r, listed => (Region.ready md ops listed).contains k && Region.free md ops listed k && Region.finB md ops fin k && Region.mixB md ops fin r (listed.setIfInBounds k true)
 | (k, false) :: r, listed => (Region.ready md ops listed == [k]) && (!fin k || r.all fun x => !x.2) && Region.mixB md ops fin r (listed.setIfInBounds k true)
def wpMix (P : Program) (ops : Array Oper) (Q : Exit -> Act -> World -> Prop) (S : World -> Prop) (fin : Nat -> Bool) : List (Nat × Bool) -> Act -> World -> Prop
 | [], a, w => Q .normal a w
 | (k, true) :: r, a, w => ∃ o v, ops[k]? = some o /\ YieldsIf P ops S o v a /\ wpMix P ops Q S fin r (a.put o.dst v) w
 | (k, false) :: r, a, w => ∃ o, ops[k]? = some o /\ if Region.wanted o (yielded ops a.tmps) = true then o.wp P a w (fun a' w' => (fin k = false -> S w') /\ wpMix P ops Q S fin r a' w') Q else (fin k = false -> S w) /\ wpMix P ops Q S fin r (a.put o.dst undef) w
theorem anyT_mix (hsel : Region.noSelect ops = true) (hs : ∀ j, fin j = true -> j < ops.size) (hQ : ∀ c (a : Act) d v w, Q (.panic c) (a.put d v) w -> Q (.panic c) a w) :
  ∀ (l : List (Nat × Bool)) (listed : Array Bool) (a : Act) (w : World), Region.mixB md ops fin l listed = true -> (l.any (fun x => x.2) = true -> S w) -> wpMix P ops Q S fin l a w -> anyT P md ops Q S fin l.length listed a w
 | [], listed, a, w, hB, _, h => ⟨by simpa [Region.mixB] using hB, h⟩
 | (k, true) :: r, listed, a, w, hB, hS, h => by
  simp only [Region.mixB, Bool.and_eq_true] at hB
  obtain ⟨⟨⟨hr, hf⟩, hfb⟩, hB'⟩ := hB
  obtain ⟨hf1, hf2⟩ := finB_spec hs hfb
  obtain ⟨o, v, h0, hy, hK⟩ := h
  have hSw : S w := hS (by simp)
  exact anyT_first h0 (Region.noSelect_spec hsel) (fun c a w => hQ c a _ _ w) hf1 hf2 r.length listed a w (Region.free_spec h0 hf) (by simpa using hr) hy hSw
   (anyT_mix hsel hs hQ r _ _ w hB' (fun _ => hSw) hK)
 | (k, false) :: r, listed, a, w, hB, hS, h => by
  simp only [Region.mixB, Bool.and_eq_true, beq_iff_eq] at hB
  obtain ⟨⟨hr, hfr⟩, hB'⟩ := hB
  obtain ⟨o, h0, h⟩ := h
  refine ⟨fun h1 => (by rw [hr] at h1; cases h1), fun i hi => ?_⟩
  rw [hr] at hi
  have hik : i = k := by simpa using hi
  subst hik; have hw : wpOp P ops Q i (fun a' w' => (fin i = false -> S w') /\ wpMix P ops Q S fin r a' w') a w := by
   unfold wpOp
   simp only [h0]
   split
   ·rename_i hc
    rw [if_pos hc] at h
    exact .inl h
   ·rename_i hc
    rw [if_neg hc] at h
    exact h
  refine wpOp_mono (fun a' w' h' => ⟨h'.1, anyT_mix hsel hs hQ r _ a' w' hB' (fun hn => ?_) h'.2⟩) hw
  cases hfi : fin i with
  | false => exact h'.1 hfi
  | true =>
   rw [hfi] at hfr
   obtain ⟨x, hx, hx2⟩ := List.any_eq_true.1 hn
   have h5 := List.all_eq_true.1 (show (r.all fun x => !x.2) = true by simpa using hfr) x hx
   rw [hx2] at h5
   cases h5
theorem wp_region_mix {id : Nat} {a : Act} {w : World} {l : List Oper} (ord : List (Nat × Bool)) (S : World -> Prop) (fin : Nat -> Bool) (hm : P.follows .mixedOrders = true) (hsel : Region.noSelect l.toArray = true) (hs : ∀ j, fin j = true -> j < l.length)
  (hlen : ord.length = l.length) (hB : Region.mixB .any l.toArray fin ord (Array.replicate l.length false) = true) (hS : S w.drew)
  (h : wpMix P l.toArray (NoPanic Q) S fin ord a w.drew) : (Code.region id l.toArray true).wp P Q a w := by
 refine wp_region_noPanic (wp_region_any hm (anyT_any (S := S) (fin := fin) _ _ _ _ ?_))
 have H := anyT_mix (P := P) (ops := l.toArray) (Q := NoPanic Q) (md := .any) (S := S) (fin := fin) hsel (by simpa using hs) (fun _ _ _ _ _ h => h) ord (Array.replicate l.length false) a w.drew hB (fun _ => hS) h
 rw [hlen] at H
 simpa using H
theorem mix_free {o : Oper} {k : Nat} {r : List (Nat × Bool)} {a : Act} {w : World} (v : Value) (h0 : ops[k]? = some o) (hw : Region.wanted o (yielded ops a.tmps) = true) (h1 : ∀ w, S w -> (execOp a.eval o).run P w = .ok (.value v) w) (h2 : wpMix P ops Q S fin r (a.put o.dst v) w) : wpMix P ops Q S fin ((k, true) :: r) a w :=
 ⟨o, v, h0, .inl ⟨hw, h1⟩, h2⟩
theorem mix_pass {o : Oper} {k : Nat} {r : List (Nat × Bool)} {a : Act} {w : World} (h0 : ops[k]? = some o) (hw : Region.wanted o (yielded ops a.tmps) = false) (h2 : wpMix P ops Q S fin r (a.put o.dst undef) w) : wpMix P ops Q S fin ((k, true) :: r) a w :=
 ⟨o, undef, h0, .inr ⟨hw, rfl⟩, h2⟩
theorem mix_go {o : Oper} {k : Nat} {r : List (Nat × Bool)} {a : Act} {w : World} (h0 : ops[k]? = some o) (hw : Region.wanted o (yielded ops a.tmps) = true) (h : ∀ K : Act -> World -> Prop, (∀ a w, (fin k = false -> S w) -> wpMix P ops Q S fin r a w -> K a w) -> o.wp P a w K Q) : wpMix P ops Q S fin ((k, false) :: r) a w := by
 refine ⟨o, h0, ?_⟩
 rw [if_pos hw]
 exact h _ fun _ _ h1 h2 => ⟨h1, h2⟩
theorem mix_end {a : Act} {w : World} (h : Q .normal a w) : wpMix P ops Q S fin [] a w := h
end
end Go.Proofs.YtdpohgoikbeplaaGreatDoor
