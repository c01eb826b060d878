/- What the library's sort leaves of valid ranges: a sorted list that holds the same ranges. -/
import Derived.Test.YtfahbdlcokoghabGreatDoorCompare
namespace Go.Proofs.YtfahbdlcokoghabGreatDoor
open Go.RowKit Go.Shelf Go.Lib Go.Sort

theorem srt_of : ∀ (l : List Rg) (b : Int), (∀ g, g ∈ l → b ≤ g.1 ∧ g.1 ≤ g.2 ∧ g.2 ≤ top) → l.Pairwise (fun x y => x.1 ≤ y.1) → srt b l
  | [], _, _, _ => trivial
  | g :: l, b, hv, hp => by
    have hg := hv g List.mem_cons_self
    rw [List.pairwise_cons] at hp
    exact ⟨hg.1, hg.2.1, hg.2.2, srt_of l g.1 (fun x hx => ⟨hp.1 x hx, (hv x (List.mem_cons_of_mem _ hx)).2⟩) hp.2⟩
theorem sorted_list (d d' : Array Rg) (hp : PermIn 0 d.size d d') (hs : SortedIn (ltOf fun x y : Rg => Lib.compareInt x.1 y.1) 0 d.size d') (hv : ∀ g, g ∈ d.toList → 0 ≤ g.1 ∧ g.1 ≤ g.2 ∧ g.2 ≤ top) :
    srt 0 d'.toList ∧ d'.toList.length = d.toList.length ∧ ∀ r, isin r d'.toList ↔ isin r d.toList := by
  obtain ⟨h1, _, h3⟩ := hp
  have e1 : d'.extract 0 d.size = d' := by rw [← h1]; exact Array.extract_size
  have e2 : d.extract 0 d.size = d := Array.extract_size
  rw [e1, e2] at h3
  refine ⟨srt_of _ 0 (fun g hg => hv g (h3.mem_iff.1 hg)) ?_, by simp [h1], fun r => isin_perm h3 r⟩
  rw [List.pairwise_iff_getElem]
  intro i j hi hj hij
  have hi' : i < d'.size := by simpa using hi
  have hj' : j < d'.size := by simpa using hj
  have h := hs i j (Nat.zero_le _) hij (by omega)
  rw [lt_lo] at h
  have g1 : d'[i]! = d'.toList[i] := by simp [hi']
  have g2 : d'[j]! = d'.toList[j] := by simp [hj']
  rw [g1, g2] at h
  have := of_decide_eq_false h
  omega
end Go.Proofs.YtfahbdlcokoghabGreatDoor

