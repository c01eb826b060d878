/- The contracts of cmp.Compare at runes and of the comparison by which sorted sorts. -/
import Derived.Test.YtohhokjlgihbgaaGreatDoorFPut
import Derived.Test.YtohhokjlgihbgaaGreatDoorFSortLay
namespace Go.Proofs.YtohhokjlgihbgaaGreatDoor
open Go.RowKit Go.Shelf Go.Lib Go.Sort

set_option maxHeartbeats 400000 in
theorem nan_any (a : Int) (w : World) : Calls Tryz.prog 81 #[.int .i32 a] w fun e w' => e = .returned (.bool false) ∧ w' = w := by
  go_enter Tryz.func81, Tryz.ntmps81
  go_wp2
  go_ret
  exact ⟨rfl, rfl⟩
set_option maxHeartbeats 400000 in
theorem compare_any (a b : Int) (w : World) : Calls Tryz.prog 52 #[.int .i32 a, .int .i32 b] w fun e w' => e = .returned (.int .i64 (Lib.compareInt a b)) ∧ w' = w := by
  by_cases h1 : a < b
  · have HR := hid (show Lib.compareInt a b = -1 by unfold Lib.compareInt; simp [h1])
    go_enter Tryz.func52, Tryz.ntmps52
    go_wp2_with (go_at_call 81; refine (nan_any _ _).mono ?_; rintro e w' ⟨rfl, hw⟩; obtain rfl := hw.symm; clear hw)
    go_ret
    exact ⟨by rw [HR.out]; rfl, rfl⟩
  by_cases h2 : b < a
  · have HR := hid (show Lib.compareInt a b = 1 by unfold Lib.compareInt; simp [h1, h2])
    go_enter Tryz.func52, Tryz.ntmps52
    go_wp2_with (go_at_call 81; refine (nan_any _ _).mono ?_; rintro e w' ⟨rfl, hw⟩; obtain rfl := hw.symm; clear hw)
    go_ret
    exact ⟨by rw [HR.out]; rfl, rfl⟩
  · have HR := hid (show Lib.compareInt a b = 0 by unfold Lib.compareInt; simp [h1, h2])
    go_enter Tryz.func52, Tryz.ntmps52
    go_wp2_with (go_at_call 81; refine (nan_any _ _).mono ?_; rintro e w' ⟨rfl, hw⟩; obtain rfl := hw.symm; clear hw)
    go_ret
    exact ⟨by rw [HR.out]; rfl, rfl⟩

set_option maxHeartbeats 1000000 in
/-- The comparison: two blocks are laid. -/
theorem closure_any (x y : Rg) (W : World) : Calls Tryz.prog 127 #[.agg #[.int .i32 x.1, .int .i32 x.2], .agg #[.int .i32 y.1, .int .i32 y.2]] W fun e w' => e = .returned (.int .i64 (Lib.compareInt x.1 y.1)) ∧ ∃ q os', w' = grow (W.drewN q) os' := by
  have hcon := fun W' => compare_any x.1 y.1 W'
  generalize Lib.compareInt x.1 y.1 = r at hcon ⊢
  go_enter Tryz.func127, Tryz.ntmps127
  go_wp2_with (go_at_call 52; refine (hcon _).mono ?_; rintro e w' ⟨rfl, rfl⟩)
  go_ret
  exact ⟨rfl, 0, _, by rw [alloc_eq_grow, alloc_eq_grow, grow_grow]; rfl⟩
theorem cmp_lays (blk off size : Nat) (w : World) : CmpLays Tryz.prog 127 #[] rgc 2 (fun x y => Lib.compareInt x.1 y.1) blk off size w :=
  fun _ _ _ _ x y => closure_any x y _
theorem lt_lo (x y : Rg) : ltOf (fun x y : Rg => Lib.compareInt x.1 y.1) x y = decide (x.1 < y.1) := by
  unfold ltOf Lib.compareInt
  by_cases h1 : x.1 < y.1
  · simp [h1]
  · by_cases h2 : y.1 < x.1 <;> simp [h1, h2]
theorem swo_lo : SWO (ltOf fun x y : Rg => Lib.compareInt x.1 y.1) where
  irrefl x := by rw [lt_lo]; simp
  trans x y z h1 h2 := by rw [lt_lo] at *; simp at *; omega
  ntrans x y z h1 h2 := by rw [lt_lo] at *; simp at *; omega
/-- The library's sort at a slice of ranges: a permutation, by rising first numbers. -/
theorem sort_any (blk off cap : Nat) (d : Array Rg) (w : World) (hH : HoldsK rgc 2 w blk off d) (hblk : blk < w.heap.size) (hsz : d.size < 4611686018427387904) :
    Calls Tryz.prog 126 #[.slice (some ⟨blk, off, none⟩) d.size cap, .func (.func 127) #[] #[]] w fun e w' => e = .returned (.tuple #[]) ∧ ∃ d' n os, PermIn 0 d.size d d' ∧ SortedIn (ltOf fun x y : Rg => Lib.compareInt x.1 y.1) 0 d.size d' ∧ w' = sortWorldK rgc 2 w blk off n d' os := by
  have eg : ∀ args w, (callFunc 127 args).run Tryz.prog w = .ok (.enter 127 args) w := enters_of Tryz.func127 (by kernel_rfl) rfl
  have hcon := AnyQ.slices_SortFunc Tryz.sortR 2 Tryz.isAgg84 Tryz.sizeOf84 rgc (fun _ => rfl) (fun x v hv => rgc_one x v hv) (fun x y => Lib.compareInt x.1 y.1) swo_lo 127 #[] blk off cap d w eg (cmp_lays blk off d.size w) hH hblk hsz
  exact hcon
end Go.Proofs.YtohhokjlgihbgaaGreatDoor
/- What the library's sort leaves of valid ranges: a sorted list that holds the same ranges. -/
namespace Go.Proofs.YtohhokjlgihbgaaGreatDoor
open Go.RowKit Go.Shelf Go.Lib Go.Sort

theorem srt_of : ∀ (l : List Rg) (b : Int), (∀ g, g ∈ l → b ≤ g.1 ∧ g.1 ≤ g.2 ∧ g.2 ≤ top) → l.Pairwise (fun x y => x.1 ≤ y.1) → srt b l
  | [], _, _, _ => trivial
  | g :: l, b, hv, hp => by
    have hg := hv g List.mem_cons_self
    rw [List.pairwise_cons] at hp
    exact ⟨hg.1, hg.2.1, hg.2.2, srt_of l g.1 (fun x hx => ⟨hp.1 x hx, (hv x (List.mem_cons_of_mem _ hx)).2⟩) hp.2⟩
theorem sorted_list (d d' : Array Rg) (hp : PermIn 0 d.size d d') (hs : SortedIn (ltOf fun x y : Rg => Lib.compareInt x.1 y.1) 0 d.size d') (hv : ∀ g, g ∈ d.toList → 0 ≤ g.1 ∧ g.1 ≤ g.2 ∧ g.2 ≤ top) :
    srt 0 d'.toList ∧ d'.toList.length = d.toList.length ∧ ∀ r, isin r d'.toList ↔ isin r d.toList := by
  obtain ⟨h1, _, h3⟩ := hp
  have e1 : d'.extract 0 d.size = d' := by rw [← h1]; exact Array.extract_size
  have e2 : d.extract 0 d.size = d := Array.extract_size
  rw [e1, e2] at h3
  refine ⟨srt_of _ 0 (fun g hg => hv g (h3.mem_iff.1 hg)) ?_, by simp [h1], fun r => isin_perm h3 r⟩
  rw [List.pairwise_iff_getElem]
  intro i j hi hj hij
  have hi' : i < d'.size := by simpa using hi
  have hj' : j < d'.size := by simpa using hj
  have h := hs i j (Nat.zero_le _) hij (by omega)
  rw [lt_lo] at h
  have g1 : d'[i]! = d'.toList[i] := by simp [hi']
  have g2 : d'[j]! = d'.toList[j] := by simp [hj']
  rw [g1, g2] at h
  have := of_decide_eq_false h
  omega
end Go.Proofs.YtohhokjlgihbgaaGreatDoor
/- The world behind the library's sort: what lies below stays, the row reads as the sorted list. -/
namespace Go.Proofs.YtohhokjlgihbgaaGreatDoor
open Go.RowKit Go.Shelf Go.Lib Go.Sort

theorem sort_below (B : Nat) (w : World) (blk off n : Nat) (d : Array Rg) (os : Array Obj) (h1 : B ≤ blk) (h2 : B ≤ w.heap.size) : RowKit.Below B w (sortWorldK rgc 2 w blk off n d os) := by
  refine ⟨rfl, rfl, rfl, ?_, fun k hk => ?_⟩
  · show w.heap.size ≤ ((w.heap.modify blk (onCells (putCells id off (flatK rgc 2 d)))) ++ os).size
    simp
  · show ((w.heap.modify blk (onCells (putCells id off (flatK rgc 2 d)))) ++ os)[k]? = w.heap[k]?
    rw [Array.getElem?_append_left (by simp; omega), Array.getElem?_modify, if_neg (by omega)]
theorem flat_at (d : Array Rg) (k : Nat) (hk : k < d.size) : (flatK rgc 2 d)[k * 2]! = .int .i32 d[k]!.1 ∧ (flatK rgc 2 d)[k * 2 + 1]! = .int .i32 d[k]!.2 := by
  constructor
  · rw [get_flatK rgc 2 d (k * 2) (by omega), show k * 2 / 2 = k by omega, show k * 2 % 2 = 0 by omega]; rfl
  · rw [get_flatK rgc 2 d (k * 2 + 1) (by omega), show (k * 2 + 1) / 2 = k by omega, show (k * 2 + 1) % 2 = 1 by omega]; rfl
theorem holds_reads {w : World} {blk : Nat} {d : Array Rg} (h : HoldsK rgc 2 w blk 0 d) (hb : blk < w.heap.size) : RdR w (some ⟨blk, 0, none⟩) d.toList := fun k g hk => by
  have hk' : k < d.size := by simpa using (List.getElem?_eq_some_iff.1 hk).1
  have hg : d[k]! = g := by
    have e := (List.getElem?_eq_some_iff.1 hk).2
    simpa [hk'] using e
  obtain ⟨f0, f1⟩ := flat_at d k hk'
  rw [hg] at f0 f1
  have c0 := (h (k * 2) (by rw [size_flatK]; omega)).1
  have c1 := (h (k * 2 + 1) (by rw [size_flatK]; omega)).1
  rw [f0, Nat.zero_add] at c0
  rw [f1, Nat.zero_add] at c1
  have ea : (⟨blk, 0, none⟩ : Addr).add (k * 2) = ⟨blk, k * 2, none⟩ := by unfold Addr.add; split <;> simp_all
  exact ⟨_, rfl, hb, by rw [ea]; exact c0, by rw [ea]; exact c1⟩
theorem row_holds {w : World} {B g n cap : Nat} {l : List Rg} (h : w.ownsRow B 84 2 (.slice (some ⟨g, 0, none⟩) n cap) l.length (rgcs l)) : HoldsK rgc 2 w g 0 l.toArray := fun j hj => by
  rw [size_flatK] at hj
  have hk : j / 2 < l.length := by simp at hj; omega
  have hl : l[j / 2]? = some l[j / 2] := List.getElem?_eq_getElem hk
  obtain ⟨c0, c1⟩ := row_cell h (j / 2) l[j / 2] hl
  obtain ⟨f0, f1⟩ := flat_at l.toArray (j / 2) (by simpa using hk)
  have hd : l.toArray[j / 2]! = l[j / 2] := by simp [hk]
  rw [hd] at f0 f1
  refine ⟨?_, row_frozen h _⟩
  rw [Nat.zero_add]
  show _ = some ((flatK rgc 2 l.toArray)[j]!)
  rcases Nat.mod_two_eq_zero_or_one j with e | e
  · have ej : j = j / 2 * 2 := by omega
    rw [← ej] at c0 f0
    rw [f0]; exact c0
  · have ej : j = j / 2 * 2 + 1 := by omega
    rw [← ej] at c1 f1
    rw [f1]; exact c1
/-- The library's sort at a row of the call's own. -/
theorem sort_row (B g cap : Nat) (l : List Rg) (w : World) (h : w.ownsRow B 84 2 (.slice (some ⟨g, 0, none⟩) l.length cap) l.length (rgcs l)) (hB : B ≤ w.heap.size) (hgB : B ≤ g) (hg : g < w.heap.size) (hl : l.length ≤ 1000000) (hv : ∀ x, x ∈ l → 0 ≤ x.1 ∧ x.1 ≤ x.2 ∧ x.2 ≤ top) :
    Calls Tryz.prog 126 #[.slice (some ⟨g, 0, none⟩) l.length cap, .func (.func 127) #[] #[]] w fun e w' => e = .returned (.tuple #[]) ∧ ∃ s : List Rg, s.length = l.length ∧ srt 0 s ∧ (∀ r, isin r s ↔ isin r l) ∧ RdR w' (some ⟨g, 0, none⟩) s ∧ RowKit.Below B w w' := by
  have hH := row_holds h
  have hs := sort_any g 0 cap l.toArray w hH hg (by simp; omega)
  rw [List.size_toArray] at hs
  refine hs.mono ?_
  rintro e w' ⟨he, d', n, os, hp, hso, rfl⟩
  rw [← List.size_toArray] at hp hso
  obtain ⟨h1, h2, h3⟩ := sorted_list l.toArray d' hp hso (by simpa using hv)
  refine ⟨he, d'.toList, by simpa using h2, h1, by simpa using h3, holds_reads (holdsK_sortWorldK_c rgc 2 w g 0 l.toArray d' n os hH hg (by simpa using h2)) (Nat.lt_of_lt_of_le hg (size_sortWorldK_c rgc 2 w g 0 n d' os)), sort_below B w g 0 n d' os hgB hB⟩
end Go.Proofs.YtohhokjlgihbgaaGreatDoor
