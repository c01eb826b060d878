/- The runes of a text with their places, and the runs of a set in a text: the mathematics. -/
import Derived.Lib.TrimU
import Derived.Test.YtohhokjlgihbgaaGreatDoorGg
import Derived.RangeFuncNested
import Derived.RangeFuncBound
import Derived.RangeFuncCalls
import Derived.RangeFuncLeaves
import Derived.Shelf.Abstract
import Derived.Shelf.RegionOpen
import Derived.OwnWalkIn
import Derived.TacticsInMore
import Derived.LoopNIn
import Derived.LoopIn
import Derived.Maps.AppendAt
import Derived.Laws.RangeAny
import Derived.Test.YtohhokjlgihbgaaGreatDoorGf
namespace Go.Proofs.YtohhokjlgihbgaaGreatDoor
open Go.RowKit

/-- The runes of a text from a place on, each with its place. -/
def plrF : Nat → List UInt8 → Nat → List (Nat × Int)
  | 0, _, _ => []
  | n + 1, l, t => if t < l.length then (t, ((Utf8.decode ⟨l.toArray⟩ t).1 : Int)) :: plrF n l (t + (Utf8.decode ⟨l.toArray⟩ t).2) else []
def plr (l : List UInt8) (t : Nat) : List (Nat × Int) := plrF (l.length - t) l t
theorem plrF_any (l : List UInt8) : ∀ (n m t : Nat), l.length - t ≤ n → l.length - t ≤ m → plrF n l t = plrF m l t
  | 0, 0, _, _, _ => rfl
  | 0, m + 1, t, h, _ => by unfold plrF; rw [if_neg (by omega)]
  | n + 1, 0, t, _, h => by unfold plrF; rw [if_neg (by omega)]
  | n + 1, m + 1, t, h, h' => by
    unfold plrF
    have hw := Lib.width_pos ⟨l.toArray⟩ t
    split
    · rw [plrF_any l n m (t + (Utf8.decode ⟨l.toArray⟩ t).2) (by omega) (by omega)]
    · rfl
theorem plr_step (l : List UInt8) (t : Nat) (h : t < l.length) : plr l t = (t, ((Utf8.decode ⟨l.toArray⟩ t).1 : Int)) :: plr l (t + (Utf8.decode ⟨l.toArray⟩ t).2) := by
  have hw := Lib.width_pos ⟨l.toArray⟩ t
  unfold plr
  rw [show l.length - t = (l.length - t - 1) + 1 by omega]
  conv => lhs; unfold plrF
  rw [if_pos h, plrF_any l (l.length - t - 1) (l.length - (t + (Utf8.decode ⟨l.toArray⟩ t).2)) _ (by omega) (by omega)]
theorem plr_end (l : List UInt8) (t : Nat) (h : ¬ t < l.length) : plr l t = [] := by
  unfold plr
  rw [show l.length - t = 0 by omega]; rfl
theorem plr_len (l : List UInt8) : ∀ (n t : Nat), l.length - t ≤ n → (plr l t).length ≤ l.length - t
  | 0, t, h => by rw [plr_end l t (by omega)]; simp
  | n + 1, t, h => by
    by_cases ht : t < l.length
    · have hw := Lib.width_pos ⟨l.toArray⟩ t
      have := plr_len l n (t + (Utf8.decode ⟨l.toArray⟩ t).2) (by omega)
      rw [plr_step l t ht]
      simp; omega
    · rw [plr_end l t ht]; simp

/-- The runs of a set: where each begins and ends; the place where the open one began. -/
def rnF (p : Int → Bool) (N : Nat) : Option Nat → List (Nat × Int) → List (Nat × Nat)
  | none, [] => []
  | some f, [] => [(f, N)]
  | none, x :: t => if p x.2 then rnF p N (some x.1) t else rnF p N none t
  | some f, x :: t => if p x.2 then rnF p N (some f) t else (f, x.1) :: rnF p N none t
def rnl (p : Int → Bool) (l : List UInt8) : List (Nat × Nat) := rnF p l.length none (plr l 0)

/-- Two places of a text, the second not ahead of the first. -/
abbrev Tw (l : List UInt8) := { x : Nat × Nat // x.1 ≤ x.2 ∧ x.2 ≤ l.length }
def tws (l : List UInt8) (xs : List (Nat × Nat)) : List (Tw l) := xs.filterMap fun x => if h : x.1 ≤ x.2 ∧ x.2 ≤ l.length then some ⟨x, h⟩ else none
theorem tws_cons (l : List UInt8) (x : Nat × Nat) (t : List (Nat × Nat)) (h : x.1 ≤ x.2 ∧ x.2 ≤ l.length) : tws l (x :: t) = ⟨x, h⟩ :: tws l t := by
  unfold tws
  rw [List.filterMap_cons]
  simp only [h, and_self, dite_true]
theorem tws_len (l : List UInt8) (xs : List (Nat × Nat)) : (tws l xs).length ≤ xs.length := List.length_filterMap_le ..
theorem rnF_len (p : Int → Bool) (N : Nat) : ∀ (xs : List (Nat × Int)) (f : Option Nat), (rnF p N f xs).length ≤ xs.length + 1
  | [], none => by simp [rnF]
  | [], some f => by simp [rnF]
  | x :: t, none => by
    unfold rnF
    split
    · have := rnF_len p N t (some x.1); simp; omega
    · have := rnF_len p N t none; simp; omega
  | x :: t, some f => by
    unfold rnF
    split
    · have := rnF_len p N t (some f); simp; omega
    · have := rnF_len p N t none; simp; omega
theorem rnl_len (p : Int → Bool) (l : List UInt8) : (tws l (rnl p l)).length ≤ l.length + 1 := by
  have h1 := tws_len l (rnl p l)
  have h2 := rnF_len p l.length (plr l 0) none
  have h3 := plr_len l l.length 0 (by omega)
  unfold rnl at h1 ⊢
  omega
/-- What is to come of the runs, at a place, with what is open. -/
def rst (p : Int → Bool) (l : List UInt8) (f : Option Nat) (t : Nat) : List (Tw l) := tws l (rnF p l.length f (plr l t))
theorem rst_in0 (p : Int → Bool) (l : List UInt8) (t : Nat) (h : t < l.length) (hp : p ((Utf8.decode ⟨l.toArray⟩ t).1 : Int) = true) : rst p l none t = rst p l (some t) (t + (Utf8.decode ⟨l.toArray⟩ t).2) := by
  unfold rst; rw [plr_step l t h, rnF, if_pos hp]
theorem rst_in1 (p : Int → Bool) (l : List UInt8) (f t : Nat) (h : t < l.length) (hp : p ((Utf8.decode ⟨l.toArray⟩ t).1 : Int) = true) : rst p l (some f) t = rst p l (some f) (t + (Utf8.decode ⟨l.toArray⟩ t).2) := by
  unfold rst; rw [plr_step l t h, rnF, if_pos hp]
theorem rst_out0 (p : Int → Bool) (l : List UInt8) (t : Nat) (h : t < l.length) (hp : p ((Utf8.decode ⟨l.toArray⟩ t).1 : Int) = false) : rst p l none t = rst p l none (t + (Utf8.decode ⟨l.toArray⟩ t).2) := by
  unfold rst; rw [plr_step l t h, rnF, if_neg (by rw [hp]; decide)]
theorem rst_out1 (p : Int → Bool) (l : List UInt8) (f t : Nat) (h : t < l.length) (hf : f ≤ t) (hp : p ((Utf8.decode ⟨l.toArray⟩ t).1 : Int) = false) : rst p l (some f) t = ⟨(f, t), hf, by show t ≤ l.length; omega⟩ :: rst p l none (t + (Utf8.decode ⟨l.toArray⟩ t).2) := by
  unfold rst
  rw [plr_step l t h, rnF, if_neg (by rw [hp]; decide)]
  exact tws_cons l (f, t) _ ⟨hf, by show t ≤ l.length; omega⟩
theorem rst_end0 (p : Int → Bool) (l : List UInt8) (t : Nat) (h : ¬ t < l.length) : rst p l none t = [] := by
  unfold rst; rw [plr_end l t h]; rfl
theorem rst_end1 (p : Int → Bool) (l : List UInt8) (f t : Nat) (h : ¬ t < l.length) (hf : f ≤ l.length) : rst p l (some f) t = [⟨(f, l.length), hf, Nat.le_refl _⟩] := by
  unfold rst
  rw [plr_end l t h, rnF]
  exact tws_cons l (f, l.length) [] ⟨hf, Nat.le_refl _⟩
/-- The place where a run began, as the program keeps it. -/
def frI : Option Nat → Int
  | none => -1
  | some f => f
end Go.Proofs.YtohhokjlgihbgaaGreatDoor
/- The contract of the iterator of Runs (package runes): it hands on the runs of a set in a text, in order. -/
namespace Go.Proofs.YtohhokjlgihbgaaGreatDoor
open Go.RowKit Go.Shelf
attribute [local go_sem] Oper.semAt_some

theorem run_next_at {P : Program} (w : World) (it : Nat) (s : ByteArray) (pos : Nat) (ty : TypeId) (hit : w.heap[it]? = some (.stringIter s pos)) (h : pos < s.size) :
    (Instr.next (.pointer (some ⟨it, 0, none⟩)) true ty).run P w = .ok (.tuple #[.bool true, .int .i64 pos, .int .i32 (Utf8.decode s pos).1]) (w.putObj it (.stringIter s (pos + (Utf8.decode s pos).2))) := by
  simp [Instr.next, getObj, setObj, Sem.run_bind, Sem.run, hit, Result.andThen, h, goInt, World.putObj]
theorem run_next_stop {P : Program} (w : World) (it : Nat) (s : ByteArray) (pos : Nat) (ty : TypeId) (hit : w.heap[it]? = some (.stringIter s pos)) (h : ¬ pos < s.size) :
    (Instr.next (.pointer (some ⟨it, 0, none⟩)) true ty).run P w = .ok (.tuple #[.bool false]) w := by
  simp [Instr.next, getObj, Sem.run, hit, h]

/-- What a body must leave as it was: the walks, and some blocks. -/
def Kr (K : Nat → Prop) (W W' : World) : Prop := KeepsWalks W W' ∧ ∀ k, K k → W'.heap[k]? = W.heap[k]?
theorem Kr_t {K : Nat → Prop} {A B C : World} (h : Kr K A B) (k : Kr K B C) : Kr K A C := ⟨h.1.trans k.1, fun i h1 => (k.2 i h1).trans (h.2 i h1)⟩
theorem Kr_b {K : Nat → Prop} {w : World} (hw : ∀ k, K k → k < w.heap.size) (W : World) (l : Nat) (o o' : Obj) (hl : w.heap.size ≤ l) (h : W.heap[l]? = some o) (_ : o.isCells = false) (hk : o.isWalk = false) : Kr K W (W.putObj l o') :=
  ⟨KeepsWalks.putObj _ h hk, fun k h2 => World.putObj_heap_other (by have := hw k h2; omega)⟩

/-- The blocks that the iterator of Runs reads. -/
def KR (Bs Bl : Nat) (so : Option Addr) (k : Nat) : Prop := k = Bs ∨ k = Bl ∨ ∃ a : Addr, so = some a ∧ a.block = k
/-- What the iterator of Runs has caught: the text and a normal form. -/
structure RunsAt (Bs Bl : Nat) (l : List UInt8) (so : Option Addr) (sc : Nat) (s : List Rg) (w : World) : Prop where
  bs : Boxed w Bs 9 (.string ⟨l.toArray⟩)
  bl : Boxed w Bl 47 (.slice so s.length sc)
  row : ∀ a : Addr, so = some a → ∃ c fz, w.heap[a.block]? = some (.cells c 84 fz)
  rd : RdR w so s
theorem RunsAt.lt {Bs Bl : Nat} {l : List UInt8} {so : Option Addr} {sc : Nat} {s : List Rg} {w : World} (h : RunsAt Bs Bl l so sc s w) : ∀ k, KR Bs Bl so k → k < w.heap.size := fun k hk => by
  rcases hk with rfl | rfl | ⟨a, h1, rfl⟩
  · exact h.bs.lt
  · exact h.bl.lt
  · obtain ⟨c, fz, hc⟩ := h.row a h1
    exact (Array.getElem?_eq_some_iff.1 hc).1
theorem RunsAt.keeps {Bs Bl : Nat} {l : List UInt8} {so : Option Addr} {sc : Nat} {s : List Rg} {w w' : World} (h : RunsAt Bs Bl l so sc s w) (hs : w.heap.size ≤ w'.heap.size) (hk : ∀ k, KR Bs Bl so k → w'.heap[k]? = w.heap[k]?) : RunsAt Bs Bl l so sc s w' where
  bs := (hk Bs (.inl rfl)).trans h.bs
  bl := (hk Bl (.inr (.inl rfl))).trans h.bl
  row := fun a ha => by
    obtain ⟨c, fz, hc⟩ := h.row a ha
    exact ⟨c, fz, (hk a.block (.inr (.inr ⟨a, ha, rfl⟩))).trans hc⟩
  rd := fun k g hg => by
    obtain ⟨a, h1, h2, h3, h4⟩ := h.rd k g hg
    have hb := hk a.block (.inr (.inr ⟨a, h1, rfl⟩))
    exact ⟨a, h1, Nat.lt_of_lt_of_le h2 hs, (World.cell?_of_block (w := w) (a := a.add (k * 2)) (by rw [add_blk]; exact hb)).trans h3, (World.cell?_of_block (w := w) (a := ⟨(a.add (k * 2)).block, (a.add (k * 2)).off + 1, none⟩) (by show _[(a.add (k * 2)).block]? = _[(a.add (k * 2)).block]?; rw [add_blk]; exact hb)).trans h4⟩
theorem RunsAt.below {Bs Bl B : Nat} {l : List UInt8} {so : Option Addr} {sc : Nat} {s : List Rg} {w w' : World} (h : RunsAt Bs Bl l so sc s w) (hb : Below B w w') (hB : w.heap.size ≤ B) : RunsAt Bs Bl l so sc s w' :=
  h.keeps hb.size (fun k h2 => hb.block k (Nat.lt_of_lt_of_le (h.lt k h2) hB))
theorem grown_below {w w' : World} (h : Below w.heap.size w w') : w.grownBy w' none := ⟨h.os, h.tape, h.output, h.size, fun k hk _ => h.block k hk⟩

def encR (l : List UInt8) (x : Tw l) : Array Value := #[.int .i64 (x.val.1 : Int), .int .i64 (x.val.2 : Int)]

end Go.Proofs.YtohhokjlgihbgaaGreatDoor
/- The contract of Runs (package runes). -/
namespace Go.Proofs.YtohhokjlgihbgaaGreatDoor
open Go.RowKit

end Go.Proofs.YtohhokjlgihbgaaGreatDoor
/- The contracts of spelling and item (package runes). -/
namespace Go.Proofs.YtohhokjlgihbgaaGreatDoor
open Go.RowKit

/-- The rune that is spelled at a place. -/
def spl (l : List UInt8) (p : Nat) : Int × Nat × Int :=
  if pre (l.drop p) [85, 43] = true then cdd l p else if pre (l.drop p) [39] = true then qtd l p else (0, p, 21)
theorem pre_len {l q : List UInt8} (h : pre l q = true) : q.length ≤ l.length := by
  unfold pre at h
  have := congrArg List.length (of_decide_eq_true h)
  rw [List.length_take] at this
  omega

set_option maxHeartbeats 1000000 in
theorem spelling_any (l : List UInt8) (p : Nat) (w : World) (hp : p ≤ l.length) (hl : l.length ≤ 1000000000000) (hT : Lib.Utf8Tabs 0 1 w) (h2 : 2 ≤ w.heap.size) :
    Calls Tryz.prog 117 #[.string ⟨l.toArray⟩, .int .i64 p] w fun e w' => e = .returned (spt (spl l p)) ∧ Below w.heap.size w w' := by
  have HT := hid hT
  clear hT
  have H1 := hid (fun b hb => has67 ((⟨l.toArray⟩ : ByteArray).extract p l.length) (l.drop p) [85, 43] b hb w (ext_drop l p))
  have H2 := hid (fun b hb => has67 ((⟨l.toArray⟩ : ByteArray).extract p l.length) (l.drop p) [39] b hb w (ext_drop l p))
  cases c1 : pre (l.drop p) [85, 43] with
  | true =>
    have HS := hid (show spl l p = cdd l p by unfold spl; rw [if_pos c1])
    have H1' := hid (H1.out true c1)
    have hlen := pre_len c1
    rw [List.length_drop] at hlen
    simp only [List.length_cons, List.length_nil] at hlen
    have HC := hid (coded_any l p w (by omega) hl)
    clear H1 H2 c1
    rw [HS.out]
    generalize cdd l p = y at HC ⊢
    obtain ⟨y1, y2, y3⟩ := y
    unfold spt at *
    clear HS
    go_enter Tryz.func117, Tryz.ntmps117
    go_wp2_with fail
    refine H1'.out.mono ?_
    rintro e w1 ⟨rfl, hw⟩
    obtain rfl := hw.symm
    go_wp2_with fail
    refine HC.out.mono ?_
    rintro e w2 ⟨rfl, hb⟩
    have HB := hid hb
    clear hb
    go_wp2
    go_ret3
    exact ⟨rfl, HB.out⟩
  | false =>
    have H1' := hid (H1.out false c1)
    cases c2 : pre (l.drop p) [39] with
    | true =>
      have HS := hid (show spl l p = qtd l p by unfold spl; rw [if_neg (by rw [c1]; decide), if_pos c2])
      have H2' := hid (H2.out true c2)
      have hlen := pre_len c2
      rw [List.length_drop] at hlen
      simp only [List.length_cons, List.length_nil] at hlen
      have HC := hid (quoted_any l p w (by omega) hl HT.out h2)
      clear H1 H2 c1 c2
      rw [HS.out]
      generalize qtd l p = y at HC ⊢
      obtain ⟨y1, y2, y3⟩ := y
      unfold spt at *
      clear HS
      go_enter Tryz.func117, Tryz.ntmps117
      go_wp2_with fail
      refine H1'.out.mono ?_
      rintro e w1 ⟨rfl, hw⟩
      obtain rfl := hw.symm
      go_wp2_with fail
      refine H2'.out.mono ?_
      rintro e w1 ⟨rfl, hw⟩
      obtain rfl := hw.symm
      go_wp2_with fail
      refine HC.out.mono ?_
      rintro e w2 ⟨rfl, hb⟩
      have HB := hid hb
      clear hb
      go_wp2
      go_ret3
      exact ⟨rfl, HB.out⟩
    | false =>
      have HS := hid (show spl l p = (0, p, 21) by unfold spl; rw [if_neg (by rw [c1]; decide), if_neg (by rw [c2]; decide)])
      have H2' := hid (H2.out false c2)
      clear H1 H2 c1 c2
      go_enter Tryz.func117, Tryz.ntmps117
      go_wp2_with fail
      refine H1'.out.mono ?_
      rintro e w1 ⟨rfl, hw⟩
      obtain rfl := hw.symm
      go_wp2_with fail
      refine H2'.out.mono ?_
      rintro e w1 ⟨rfl, hw⟩
      obtain rfl := hw.symm
      go_wp2
      go_ret3
      exact ⟨by rw [HS.out]; rfl, Below.refl _ _⟩

theorem cdd_le (l : List UInt8) (p : Nat) (hp : p + 2 ≤ l.length) : (cdd l p).2.1 ≤ l.length ∧ 0 ≤ (cdd l p).1 ∧ (cdd l p).1 ≤ 1114111 ∧ ((cdd l p).2.2 = 0 → p < (cdd l p).2.1) ∧ 0 ≤ (cdd l p).2.2 ∧ (cdd l p).2.2 ≤ 84 := by
  have h := hxn_le l (p + 2)
  unfold cdd
  split
  · refine ⟨?_, ?_, ?_, ?_, ?_, ?_⟩ <;> (dsimp only; omega)
  · split
    · refine ⟨?_, ?_, ?_, ?_, ?_, ?_⟩ <;> (dsimp only; omega)
    · refine ⟨?_, ?_, ?_, ?_, ?_, ?_⟩ <;> (dsimp only; omega)
theorem qtd_le (l : List UInt8) (p : Nat) (hp : p + 1 ≤ l.length) : (qtd l p).2.1 ≤ l.length ∧ 0 ≤ (qtd l p).1 ∧ (qtd l p).1 ≤ 1114111 ∧ ((qtd l p).2.2 = 0 → p < (qtd l p).2.1) ∧ 0 ≤ (qtd l p).2.2 ∧ (qtd l p).2.2 ≤ 84 := by
  have h := dec_in (l.drop (p + 1))
  rw [List.length_drop] at h
  unfold qtd
  split
  · refine ⟨?_, ?_, ?_, ?_, ?_, ?_⟩ <;> (dsimp only; omega)
  · rename_i hc
    split
    · refine ⟨?_, ?_, ?_, ?_, ?_, ?_⟩ <;> (dsimp only; omega)
    · have hne : l.drop (p + 1) ≠ [] := fun e => by
        apply hc; left; rw [e]; rfl
      have hr := dec_rune _ hne
      have h3 : ¬ p + 1 + (dec (l.drop (p + 1))).2 = l.length := fun e => hc (.inr (.inl e))
      refine ⟨?_, ?_, ?_, ?_, ?_, ?_⟩ <;> (dsimp only; omega)
theorem spl_le (l : List UInt8) (p : Nat) (hp : p ≤ l.length) : (spl l p).2.1 ≤ l.length ∧ 0 ≤ (spl l p).1 ∧ (spl l p).1 ≤ 1114111 ∧ ((spl l p).2.2 = 0 → p < (spl l p).2.1) ∧ 0 ≤ (spl l p).2.2 ∧ (spl l p).2.2 ≤ 84 := by
  unfold spl
  split
  · rename_i h
    have := pre_len h
    rw [List.length_drop] at this
    simp only [List.length_cons, List.length_nil] at this
    exact cdd_le l p (by omega)
  · split
    · rename_i h
      have := pre_len h
      rw [List.length_drop] at this
      simp only [List.length_cons, List.length_nil] at this
      exact qtd_le l p (by omega)
    · refine ⟨?_, ?_, ?_, ?_, ?_, ?_⟩ <;> (dsimp only; omega)

def itmF (l : List UInt8) (p : Nat) (x : Int × Nat × Int) (y : Nat → Int × Nat × Int) : Rg × Nat × Int :=
  if x.2.2 ≠ 0 then ((0, 0), x.2.1, x.2.2)
  else if x.2.1 = l.length ∨ l.getD x.2.1 0 ≠ 45 then ((x.1, x.1), x.2.1, 0)
  else if (y (x.2.1 + 1)).2.2 ≠ 0 then ((0, 0), (y (x.2.1 + 1)).2.1, (y (x.2.1 + 1)).2.2)
  else if (y (x.2.1 + 1)).1 < x.1 then ((0, 0), p, 20)
  else ((x.1, (y (x.2.1 + 1)).1), (y (x.2.1 + 1)).2.1, 0)
/-- The item at a place. -/
def itm (l : List UInt8) (p : Nat) : Rg × Nat × Int := itmF l p (spl l p) (spl l)
def itt (x : Rg × Nat × Int) : Value := .tuple #[.agg #[.int .i32 x.1.1, .int .i32 x.1.2], .int .i64 (x.2.1 : Nat), .int .i64 x.2.2]

theorem item_cells (w : World) (n : Nat) (a b : Int) (hk : w.heap[n]? = some (.cells #[.int .i32 0, .int .i32 0] 84 (0, 0))) :
    ((w.setCell ⟨n, 0, none⟩ (.int .i32 a)).setCell ⟨n, 1, none⟩ (.int .i32 b)).cell? ⟨n, 0, none⟩ = some (.int .i32 a) ∧ ((w.setCell ⟨n, 0, none⟩ (.int .i32 a)).setCell ⟨n, 1, none⟩ (.int .i32 b)).cell? ⟨n, 1, none⟩ = some (.int .i32 b) := by
  have h1 := Lib.heap_setCell_same (i := 0) hk (.int .i32 a)
  have h2 := Lib.heap_setCell_same (i := 1) h1 (.int .i32 b)
  exact ⟨by rw [cell_of_row _ n 0 _ 84 (0, 0) h2]; rfl, by rw [cell_of_row _ n 1 _ 84 (0, 0) h2]; rfl⟩

set_option maxHeartbeats 2000000 in
theorem item_any (l : List UInt8) (p : Nat) (w : World) (hp : p ≤ l.length) (hl : l.length ≤ 1000000000000) (hT : Lib.Utf8Tabs 0 1 w) (h2 : 2 ≤ w.heap.size) :
    Calls Tryz.prog 97 #[.string ⟨l.toArray⟩, .int .i64 p] w fun e w' => e = .returned (itt (itm l p)) ∧ Below w.heap.size w w' := by
  have HT := hid hT
  have HSZ := hid (show (⟨l.toArray⟩ : ByteArray).size = l.length by show l.toArray.size = _; simp)
  have hbA : Below w.heap.size w (w.alloc (.cells #[.int .i32 0, .int .i32 0] 84)) := (Below.refl _ _).alloc (Nat.le_refl _) _
  have hkA := World.alloc_heap_new w (.cells #[.int .i32 0, .int .i32 0] 84)
  obtain ⟨wA, hwA⟩ : ∃ wA, wA = w.alloc (.cells #[.int .i32 0, .int .i32 0] 84) := ⟨_, rfl⟩
  have hsA : wA.heap.size = w.heap.size + 1 := by rw [hwA]; simp
  rw [← hwA] at hbA hkA
  have hTA := tabs_below hT h2 hbA
  have HTA := hid hTA
  have HS1 := hid (spelling_any l p wA hp hl hTA (by omega))
  clear hTA
  have HS2 := hid (fun q hq w' hT' h2' => spelling_any l q w' hq hl hT' h2')
  obtain ⟨b1, b2, b3, b4, b5, b6⟩ := spl_le l p hp
  have HL2 := hid (fun q hq => spl_le l q hq)
  have HI := hid (show itm l p = itmF l p (spl l p) (spl l) from rfl)
  unfold itmF at HI
  clear hT
  obtain ⟨y, hy⟩ : ∃ y, y = spl l p := ⟨_, rfl⟩
  rw [← hy] at HS1 b1 b2 b3 b4 b5 b6 HI
  clear hy
  obtain ⟨lo, nx, er⟩ := y
  dsimp only at b1 b2 b3 b4 b5 b6
  by_cases c1 : er = 0
  · subst c1
    rw [if_neg (by simp)] at HI
    by_cases c2 : nx = l.length
    · rw [if_pos (.inl c2)] at HI
      subst c2
      clear HS2 HL2
      go_enter Tryz.func97, Tryz.ntmps97
      go_wp2_with fail
      rw [← hwA]
      refine HS1.out.mono ?_
      rintro e w1 ⟨rfl, hb1⟩
      have hk := (hb1.block w.heap.size (by omega)).trans hkA
      have x0 : w1.cell? ⟨w.heap.size, 0, none⟩ = some (.int .i32 0) := by rw [cell_of_row w1 w.heap.size 0 _ 84 (0, 0) hk]; rfl
      have x1 : w1.cell? ⟨w.heap.size, 1, none⟩ = some (.int .i32 0) := by rw [cell_of_row w1 w.heap.size 1 _ 84 (0, 0) hk]; rfl
      have f0 := frozen_of_row w1 w.heap.size 0 _ 84 hk
      have f1 := frozen_of_row w1 w.heap.size 1 _ 84 hk
      have HK := hid hk
      have HB1 := hid (hbA.trans (hb1.mono (by omega)))
      clear hb1 HS1 hk hkA hbA
      unfold spt
      go_wp2
      have hz := item_cells w1 w.heap.size (lo) (lo) HK.out
      refine bodyPost_ret (v := .tuple #[.agg #[.int .i32 (lo), .int .i32 (lo)], .int .i64 ((l.length : Nat)), .int .i64 (0)]) (by simp [results, Tryz.results97, go_sem, hz.1, hz.2]) rfl ⟨by rw [HI.out]; rfl, (HB1.out.setCell (p := ⟨w.heap.size, 0, none⟩) (Nat.le_refl _) _).setCell (p := ⟨w.heap.size, 1, none⟩) (Nat.le_refl _) _⟩
    · have hlt : nx < l.length := by omega
      have c2' : ((nx : Int) == (l.length : Int)) = false := beq_eq_false_iff_ne.2 (by omega)
      have hszk : nx < (⟨l.toArray⟩ : ByteArray).size := by rw [HSZ.out]; exact hlt
      have hq : (⟨l.toArray⟩ : ByteArray)[nx]'hszk = l[nx] := rfl
      have hgd : l.getD nx 0 = l[nx] := by simp [List.getD, List.getElem?_eq_getElem hlt]
      dsimp only at HI
      rw [hgd] at HI
      generalize l[nx] = c at *
      by_cases c3 : c = 45
      · subst c3
        rw [if_neg (by simp [c2])] at HI
        have HS2' := hid (fun w' hT' h2' => HS2.out (nx + 1) (by omega) w' hT' h2')
        obtain ⟨d1, d2, d3, d4, d5, d6⟩ := HL2.out (nx + 1) (by omega)
        clear HS2 HL2
        obtain ⟨z, hz⟩ : ∃ z, z = spl l (nx + 1) := ⟨_, rfl⟩
        rw [← hz] at HS2' d1 d2 d3 d4 d5 d6 HI
        clear hz hgd
        obtain ⟨hi', nz, ez⟩ := z
        dsimp only at d1 d2 d3 d4 d5 d6 HI
        go_enter Tryz.func97, Tryz.ntmps97
        go_wp2_with fail
        rw [← hwA]
        refine HS1.out.mono ?_
        rintro e w1 ⟨rfl, hb1⟩
        have hk := (hb1.block w.heap.size (by omega)).trans hkA
        have HB1 := hid (hbA.trans (hb1.mono (by omega)))
        have hsz1 := hb1.size
        have HS3 := hid (HS2'.out w1 (tabs_below HTA.out (by omega) hb1) (by omega))
        clear hb1 HS1 HS2' hkA hbA
        unfold spt at *
        go_wp2_with fail
        refine HS3.out.mono ?_
        rintro e w2 ⟨rfl, hb2⟩
        replace hk := (hb2.block w.heap.size (by omega)).trans hk
        have x0 : w2.cell? ⟨w.heap.size, 0, none⟩ = some (.int .i32 0) := by rw [cell_of_row w2 w.heap.size 0 _ 84 (0, 0) hk]; rfl
        have x1 : w2.cell? ⟨w.heap.size, 1, none⟩ = some (.int .i32 0) := by rw [cell_of_row w2 w.heap.size 1 _ 84 (0, 0) hk]; rfl
        have f0 := frozen_of_row w2 w.heap.size 0 _ 84 hk
        have f1 := frozen_of_row w2 w.heap.size 1 _ 84 hk
        have HK := hid hk
        have HB2 := hid (HB1.out.trans (hb2.mono HB1.out.size))
        clear hb2 HS3 hk
        by_cases c4 : ez = 0
        · subst c4
          rw [if_neg (by simp)] at HI
          by_cases c5 : hi' < lo
          · rw [if_pos c5] at HI
            go_wp2
            have hz := item_cells w2 w.heap.size (0) (0) HK.out
            refine bodyPost_ret (v := .tuple #[.agg #[.int .i32 (0), .int .i32 (0)], .int .i64 ((p : Nat)), .int .i64 (20)]) (by simp [results, Tryz.results97, go_sem, hz.1, hz.2]) rfl ⟨by rw [HI.out]; rfl, (HB2.out.setCell (p := ⟨w.heap.size, 0, none⟩) (Nat.le_refl _) _).setCell (p := ⟨w.heap.size, 1, none⟩) (Nat.le_refl _) _⟩
          · rw [if_neg c5] at HI
            go_wp2
            have hz := item_cells w2 w.heap.size (lo) (hi') HK.out
            refine bodyPost_ret (v := .tuple #[.agg #[.int .i32 (lo), .int .i32 (hi')], .int .i64 ((nz : Nat)), .int .i64 (0)]) (by simp [results, Tryz.results97, go_sem, hz.1, hz.2]) rfl ⟨by rw [HI.out]; rfl, (HB2.out.setCell (p := ⟨w.heap.size, 0, none⟩) (Nat.le_refl _) _).setCell (p := ⟨w.heap.size, 1, none⟩) (Nat.le_refl _) _⟩
        · rw [if_pos c4] at HI
          have c4' : (ez == 0) = false := beq_eq_false_iff_ne.2 c4
          go_wp2
          have hz := item_cells w2 w.heap.size (0) (0) HK.out
          refine bodyPost_ret (v := .tuple #[.agg #[.int .i32 (0), .int .i32 (0)], .int .i64 ((nz : Nat)), .int .i64 (ez)]) (by simp [results, Tryz.results97, go_sem, hz.1, hz.2]) rfl ⟨by rw [HI.out]; rfl, (HB2.out.setCell (p := ⟨w.heap.size, 0, none⟩) (Nat.le_refl _) _).setCell (p := ⟨w.heap.size, 1, none⟩) (Nat.le_refl _) _⟩
      · rw [if_pos (.inr c3)] at HI
        have c3' : ((c.toNat : Int) == 45) = false := beq_eq_false_iff_ne.2 (fun e => c3 (UInt8.toNat_inj.1 (by show c.toNat = 45; omega)))
        clear HS2 HL2 hgd c3
        go_enter Tryz.func97, Tryz.ntmps97
        go_wp2_with fail
        rw [← hwA]
        refine HS1.out.mono ?_
        rintro e w1 ⟨rfl, hb1⟩
        have hk := (hb1.block w.heap.size (by omega)).trans hkA
        have x0 : w1.cell? ⟨w.heap.size, 0, none⟩ = some (.int .i32 0) := by rw [cell_of_row w1 w.heap.size 0 _ 84 (0, 0) hk]; rfl
        have x1 : w1.cell? ⟨w.heap.size, 1, none⟩ = some (.int .i32 0) := by rw [cell_of_row w1 w.heap.size 1 _ 84 (0, 0) hk]; rfl
        have f0 := frozen_of_row w1 w.heap.size 0 _ 84 hk
        have f1 := frozen_of_row w1 w.heap.size 1 _ 84 hk
        have HK := hid hk
        have HB1 := hid (hbA.trans (hb1.mono (by omega)))
        clear hb1 HS1 hk hkA hbA
        unfold spt
        go_wp2
        have hz := item_cells w1 w.heap.size (lo) (lo) HK.out
        refine bodyPost_ret (v := .tuple #[.agg #[.int .i32 (lo), .int .i32 (lo)], .int .i64 ((nx : Nat)), .int .i64 (0)]) (by simp [results, Tryz.results97, go_sem, hz.1, hz.2]) rfl ⟨by rw [HI.out]; rfl, (HB1.out.setCell (p := ⟨w.heap.size, 0, none⟩) (Nat.le_refl _) _).setCell (p := ⟨w.heap.size, 1, none⟩) (Nat.le_refl _) _⟩
  · rw [if_pos c1] at HI
    have c1' : (er == 0) = false := beq_eq_false_iff_ne.2 c1
    clear HS2 HL2
    go_enter Tryz.func97, Tryz.ntmps97
    go_wp2_with fail
    rw [← hwA]
    refine HS1.out.mono ?_
    rintro e w1 ⟨rfl, hb1⟩
    have hk := (hb1.block w.heap.size (by omega)).trans hkA
    have x0 : w1.cell? ⟨w.heap.size, 0, none⟩ = some (.int .i32 0) := by rw [cell_of_row w1 w.heap.size 0 _ 84 (0, 0) hk]; rfl
    have x1 : w1.cell? ⟨w.heap.size, 1, none⟩ = some (.int .i32 0) := by rw [cell_of_row w1 w.heap.size 1 _ 84 (0, 0) hk]; rfl
    have f0 := frozen_of_row w1 w.heap.size 0 _ 84 hk
    have f1 := frozen_of_row w1 w.heap.size 1 _ 84 hk
    have HK := hid hk
    have HB1 := hid (hbA.trans (hb1.mono (by omega)))
    clear hb1 HS1 hk hkA hbA
    unfold spt
    go_wp2
    have hz := item_cells w1 w.heap.size (0) (0) HK.out
    refine bodyPost_ret (v := .tuple #[.agg #[.int .i32 (0), .int .i32 (0)], .int .i64 ((nx : Nat)), .int .i64 (er)]) (by simp [results, Tryz.results97, go_sem, hz.1, hz.2]) rfl ⟨by rw [HI.out]; rfl, (HB1.out.setCell (p := ⟨w.heap.size, 0, none⟩) (Nat.le_refl _) _).setCell (p := ⟨w.heap.size, 1, none⟩) (Nat.le_refl _) _⟩
end Go.Proofs.YtohhokjlgihbgaaGreatDoor
/- The contract of Parse (package runes). -/
namespace Go.Proofs.YtohhokjlgihbgaaGreatDoor
open Go.RowKit

theorem itm_le (l : List UInt8) (p : Nat) (hp : p ≤ l.length) : (itm l p).2.1 ≤ l.length ∧ ((itm l p).2.2 = 0 → p < (itm l p).2.1) ∧ 0 ≤ (itm l p).2.2 ∧ (itm l p).2.2 ≤ 84 := by
  obtain ⟨b1, b2, b3, b4, b5, b6⟩ := spl_le l p hp
  unfold itm itmF
  split
  · exact ⟨b1, fun h => b4 h, b5, b6⟩
  · rename_i h0
    have h0' : (spl l p).2.2 = 0 := Classical.not_not.1 h0
    split
    · have := b4 h0'
      refine ⟨?_, ?_, ?_, ?_⟩ <;> (dsimp only; omega)
    · rename_i h1
      have hn : ¬ (spl l p).2.1 = l.length := fun e => h1 (.inl e)
      obtain ⟨d1, d2, d3, d4, d5, d6⟩ := spl_le l ((spl l p).2.1 + 1) (by omega)
      have hb4 := b4 h0'
      split
      · exact ⟨d1, fun h => by have := d4 h; dsimp only; omega, d5, d6⟩
      · rename_i h2
        have h2' : (spl l ((spl l p).2.1 + 1)).2.2 = 0 := Classical.not_not.1 h2
        have hd4 := d4 h2'
        split
        · refine ⟨?_, ?_, ?_, ?_⟩ <;> (dsimp only; omega)
        · refine ⟨?_, ?_, ?_, ?_⟩ <;> (dsimp only; omega)

theorem ownsRow_below {w w' : World} {base : Nat} {e : TypeId} {size : Nat} {v : Value} {n : Nat} {xs : List Value} (h : w.ownsRow base e size v n xs) (hb : Below w.heap.size w w') : w'.ownsRow base e size v n xs := by
  refine ⟨h.1, ?_⟩
  rcases h.2 with h0 | ⟨g, cap, cur, hv, hbg, hg, hr⟩
  · exact .inl h0
  · exact .inr ⟨g, cap, cur, hv, hbg, (hb.block g (Array.getElem?_eq_some_iff.1 hg).1).trans hg, hr⟩
/-- What Parse answers: the list, the error and its place. -/
def parF : Nat → List UInt8 → Nat → List Rg → List Rg × Int × Nat
  | 0, _, _, _ => ([], 0, 0)
  | f + 1, l, p, acc =>
    if p = l.length then (nrm acc, 0, 0)
    else if l.getD p 0 = 32 then parF f l (p + 1) acc
    else if (itm l p).2.2 ≠ 0 then ([], (itm l p).2.2, (itm l p).2.1)
    else if (itm l p).2.1 < l.length ∧ l.getD (itm l p).2.1 0 ≠ 32 then ([], 21, (itm l p).2.1)
    else parF f l (itm l p).2.1 (acc ++ [(itm l p).1])
def par (l : List UInt8) : List Rg × Int × Nat := parF (l.length + 1) l 0 []
/-- Reading so far. -/
def Prs (l : List UInt8) (p : Nat) (acc : List Rg) : Prop := ∃ f, l.length - p < f ∧ parF f l p acc = par l
theorem Prs.start (l : List UInt8) : Prs l 0 [] := ⟨l.length + 1, by omega, rfl⟩
theorem Prs.done {l : List UInt8} {p : Nat} {acc : List Rg} (h : Prs l p acc) (hp : p = l.length) : par l = (nrm acc, 0, 0) := by
  obtain ⟨f, h1, h2⟩ := h
  obtain ⟨f, rfl⟩ : ∃ f', f = f' + 1 := ⟨f - 1, by omega⟩
  rw [← h2, parF, if_pos hp]
theorem Prs.blank {l : List UInt8} {p : Nat} {acc : List Rg} (h : Prs l p acc) (hp : p < l.length) (hb : l.getD p 0 = 32) : Prs l (p + 1) acc := by
  obtain ⟨f, h1, h2⟩ := h
  obtain ⟨f, rfl⟩ : ∃ f', f = f' + 1 := ⟨f - 1, by omega⟩
  rw [parF, if_neg (by omega), if_pos hb] at h2
  exact ⟨f, by omega, h2⟩
theorem Prs.wrong {l : List UInt8} {p : Nat} {acc : List Rg} (h : Prs l p acc) (hp : p < l.length) (hb : l.getD p 0 ≠ 32) (he : (itm l p).2.2 ≠ 0) : par l = ([], (itm l p).2.2, (itm l p).2.1) := by
  obtain ⟨f, h1, h2⟩ := h
  obtain ⟨f, rfl⟩ : ∃ f', f = f' + 1 := ⟨f - 1, by omega⟩
  rw [← h2, parF, if_neg (by omega), if_neg hb, if_pos he]
theorem Prs.stuck {l : List UInt8} {p : Nat} {acc : List Rg} (h : Prs l p acc) (hp : p < l.length) (hb : l.getD p 0 ≠ 32) (he : (itm l p).2.2 = 0) (hs : (itm l p).2.1 < l.length ∧ l.getD (itm l p).2.1 0 ≠ 32) : par l = ([], 21, (itm l p).2.1) := by
  obtain ⟨f, h1, h2⟩ := h
  obtain ⟨f, rfl⟩ : ∃ f', f = f' + 1 := ⟨f - 1, by omega⟩
  rw [← h2, parF, if_neg (by omega), if_neg hb, if_neg (fun e => e he), if_pos hs]
theorem Prs.more {l : List UInt8} {p : Nat} {acc : List Rg} (h : Prs l p acc) (hp : p < l.length) (hb : l.getD p 0 ≠ 32) (he : (itm l p).2.2 = 0) (hs : ¬ ((itm l p).2.1 < l.length ∧ l.getD (itm l p).2.1 0 ≠ 32)) : Prs l (itm l p).2.1 (acc ++ [(itm l p).1]) := by
  obtain ⟨f, h1, h2⟩ := h
  obtain ⟨f, rfl⟩ : ∃ f', f = f' + 1 := ⟨f - 1, by omega⟩
  have hm := (itm_le l p (by omega)).2.1 he
  rw [parF, if_neg (by omega), if_neg hb, if_neg (fun e => e he), if_neg hs] at h2
  exact ⟨f, by omega, h2⟩

set_option maxHeartbeats 2000000 in
set_option maxRecDepth 100000 in
theorem parse_any (l : List UInt8) (w : World) (hl : l.length ≤ 100000) (hT : Lib.Utf8Tabs 0 1 w) (h2 : 2 ≤ w.heap.size) :
    Calls Tryz.prog 67 #[.string ⟨l.toArray⟩] w fun e w' => ∃ v, e = .returned (.tuple #[v, .int .i64 (par l).2.1, .int .i64 ((par l).2.2 : Nat)]) ∧ w'.ownsRow w.heap.size 84 2 v (par l).1.length (rgcs (par l).1) ∧ Below w.heap.size w w' := by
  obtain ⟨i0, hi, hz0, hz1, hz2⟩ := info_parts Tryz.info84
  have HSZ := hid (show (⟨l.toArray⟩ : ByteArray).size = l.length by show l.toArray.size = _; simp)
  have HT := hid hT
  clear hT
  go_enter Tryz.func67, Tryz.ntmps67
  go_wp2
  go_step3
  go_wp2
  go_step3
  go_wp2
  go_loopw [5, 6] (fun v x wq => ∃ (p : Nat) (acc : List Rg), p ≤ l.length ∧ x = .int .i64 p ∧ Hid (wq.ownsRow w.heap.size 84 2 v acc.length (rgcs acc)) ∧ Hid (Prs l p acc) ∧ acc.length ≤ p ∧ Hid (Below w.heap.size w wq)) (fun _ x _ => l.length + 1 - (intOf x).toNat)
  case atStart => exact ⟨0, [], by omega, rfl, World.ownsRow_nil _ _ _ _, Prs.start l, by simp, Below.refl _ _⟩
  case round =>
    obtain ⟨p, acc, hp, rfl, HO, HP, hac, HB⟩ := hrel
    obtain ⟨wo, hwo⟩ : ∃ wo, wo = wr := ⟨_, rfl⟩
    rw [← hwo] at HO HB ⊢
    clear hwo
    go_wp2
    go_loopw [6] (fun x wq => ∃ q : Nat, p ≤ q ∧ q ≤ l.length ∧ x = .int .i64 q ∧ Hid (Prs l q acc) ∧ wq = wo) (fun x _ => l.length + 1 - (intOf x).toNat)
    case atStart => exact ⟨p, by omega, hp, rfl, HP, rfl⟩
    case round =>
      obtain ⟨q, hpq, hq, rfl, HQ, hw⟩ := hrel
      obtain rfl := hw.symm
      by_cases c1 : q = l.length
      · have HD := hid (HQ.out.done c1)
        obtain ⟨so, sc, hv, hrd⟩ := rdr_row HO.out
        subst hv
        have HN := hid (norm_any so sc acc wo hrd (by omega))
        subst c1
        clear hrd
        go_wp2_with fail
        refine HN.out.mono ?_
        rintro e w1 ⟨v1, rfl, o1, hb1⟩
        have HO1 := hid o1
        have HB1 := hid (HB.out.trans (hb1.mono HB.out.size))
        clear o1 hb1 HN
        go_wp2
        try rw [Exit.noGoto_ret]
        go_ret3
        refine ⟨v1, ?_, ?_, HB1.out⟩
        · rw [HD.out]; rfl
        · rw [HD.out]; exact ownsRow_base2 HO1.out HB.out.size
      · have hlt : q < l.length := by omega
        have c1' : ((q : Int) == (l.length : Int)) = false := beq_eq_false_iff_ne.2 (by omega)
        have hszq : q < (⟨l.toArray⟩ : ByteArray).size := by rw [HSZ.out]; exact hlt
        have hbq : (⟨l.toArray⟩ : ByteArray)[q]'hszq = l[q] := rfl
        have hgd : l.getD q 0 = l[q] := by simp [List.getD, List.getElem?_eq_getElem hlt]
        by_cases c2 : l[q] = 32
        · have HQ2 := hid (HQ.out.blank hlt (hgd.trans c2))
          rw [c2] at hbq
          clear hgd c2
          go_wp2
          go_roundw
          case rel => exact ⟨q + 1, by omega, by omega, by go_num, HQ2, trivial⟩
          case measure => simp [intOf]; omega
        · have hg2 : l.getD q 0 ≠ 32 := by rw [hgd]; exact c2
          have HW := hid (HQ.out.wrong hlt hg2)
          have HS := hid (HQ.out.stuck hlt hg2)
          have HM := hid (HQ.out.more hlt hg2)
          have hbs := HB.out.size
          obtain ⟨m1, m2, m3, m4⟩ := itm_le l q hq
          have HI := hid (item_any l q wo hq (by omega) (tabs_below HT.out h2 HB.out) (by omega))
          obtain ⟨c, hc⟩ : ∃ c, c = l[q] := ⟨_, rfl⟩
          rw [← hc] at hbq c2
          have c2' : ((c.toNat : Int) == 32) = false := beq_eq_false_iff_ne.2 (fun e => c2 (UInt8.toNat_inj.1 (by show c.toNat = 32; omega)))
          obtain ⟨y, hy⟩ : ∃ y, y = itm l q := ⟨_, rfl⟩
          rw [← hy] at HW HS HM HI m1 m2 m3 m4
          clear hy hc hgd hg2 c2
          obtain ⟨⟨g0, g1⟩, nx, er⟩ := y
          dsimp only at m1 m2 m3 m4 HW HS HM
          go_wp2_with fail
          refine HI.out.mono ?_
          rintro e w1 ⟨rfl, hb1⟩
          have HB1 := hid (HB.out.trans (hb1.mono hbs))
          have hbs1 := hb1.size
          have HO1 := hid (ownsRow_below HO.out hb1)
          clear hb1 HI
          unfold itt
          dsimp only
          by_cases c3 : er = 0
          · subst c3
            have m2' := m2 rfl
            by_cases c4 : nx < l.length
            · have hszn : nx < (⟨l.toArray⟩ : ByteArray).size := by rw [HSZ.out]; exact c4
              have hbn : (⟨l.toArray⟩ : ByteArray)[nx]'hszn = l[nx] := rfl
              have hgn : l.getD nx 0 = l[nx] := by simp [List.getD, List.getElem?_eq_getElem c4]
              by_cases c5 : l[nx] = 32
              · have HM2 := hid (HM.out rfl (fun h => h.2 (hgn.trans c5)))
                rw [c5] at hbn
                clear HW HS HM hgn c5
                have c4' : (nx : Int) < (l.length : Int) := by omega
                go_wp2_with (at_builtin; refine wpList_append_own _ rfl _ _ 47 rfl w.heap.size 84 i0 (.agg #[.int .i32 0, .int .i32 0]) 2 8 Tryz.underlying47 hi hz0 hz1 hz2 rfl (by decide) _ acc.length (rgcs acc) rfl ((HO1.out.alloc _).alloc _) ⟨w1.heap.size + 1, 0, none⟩ 1 1 (rgc (g0, g1)) rfl rfl ?c1 ?c2 ?c3 ?c4 ?c5 ?_)
                case c1 => exact fun j u h => h
                case c2 => exact rgc_one _
                case c3 => unfold maxLen; omega
                case c4 => omega
                case c5 => omega
                intro v2 w2 o2 gr2 _
                have HO2 := hid (show w2.ownsRow w.heap.size 84 2 v2 (acc ++ [(g0, g1)]).length (rgcs (acc ++ [(g0, g1)])) by rw [rgcs_snoc, len_snoc]; exact o2)
                have HB2 := hid (((HB1.out.alloc (by omega) (.cells #[.int .i32 g0, .int .i32 g1] 84)).alloc (by simp; omega) (.cells #[.int .i32 g0, .int .i32 g1] 84)).grown gr2 (by simp; omega) (fun j hj => (HO1.out.lt j hj).1))
                clear o2 gr2
                go_wp2
                go_roundw
                case rel => exact ⟨nx, acc ++ [(g0, g1)], m1, rfl, HO2, HM2, by rw [len_snoc]; omega, HB2⟩
                case measure => simp [intOf]; omega
              · have HS2 := hid (HS.out rfl ⟨c4, by rw [hgn]; exact c5⟩)
                obtain ⟨d, hd⟩ : ∃ d, d = l[nx] := ⟨_, rfl⟩
                rw [← hd] at hbn c5
                have c5' : ((d.toNat : Int) == 32) = false := beq_eq_false_iff_ne.2 (fun e => c5 (UInt8.toNat_inj.1 (by show d.toNat = 32; omega)))
                have c4' : (nx : Int) < (l.length : Int) := by omega
                clear HW HS HM hgn c5 hd
                go_wp2
                try rw [Exit.noGoto_ret]
                go_ret3
                refine ⟨.slice none 0 0, ?_, ?_, HB1.out.alloc (by omega) _⟩
                · rw [HS2.out]; rfl
                · rw [HS2.out]; exact World.ownsRow_nil _ _ _ _
            · have HM2 := hid (HM.out rfl (fun h => c4 h.1))
              clear HW HS HM
              have c4' : ¬ (nx : Int) < (l.length : Int) := by omega
              go_wp2_with (at_builtin; refine wpList_append_own _ rfl _ _ 47 rfl w.heap.size 84 i0 (.agg #[.int .i32 0, .int .i32 0]) 2 8 Tryz.underlying47 hi hz0 hz1 hz2 rfl (by decide) _ acc.length (rgcs acc) rfl ((HO1.out.alloc _).alloc _) ⟨w1.heap.size + 1, 0, none⟩ 1 1 (rgc (g0, g1)) rfl rfl ?c1 ?c2 ?c3 ?c4 ?c5 ?_)
              case c1 => exact fun j u h => h
              case c2 => exact rgc_one _
              case c3 => unfold maxLen; omega
              case c4 => omega
              case c5 => omega
              intro v2 w2 o2 gr2 _
              have HO2 := hid (show w2.ownsRow w.heap.size 84 2 v2 (acc ++ [(g0, g1)]).length (rgcs (acc ++ [(g0, g1)])) by rw [rgcs_snoc, len_snoc]; exact o2)
              have HB2 := hid (((HB1.out.alloc (by omega) (.cells #[.int .i32 g0, .int .i32 g1] 84)).alloc (by simp; omega) (.cells #[.int .i32 g0, .int .i32 g1] 84)).grown gr2 (by simp; omega) (fun j hj => (HO1.out.lt j hj).1))
              clear o2 gr2
              go_wp2
              go_roundw
              case rel => exact ⟨nx, acc ++ [(g0, g1)], m1, rfl, HO2, HM2, by rw [len_snoc]; omega, HB2⟩
              case measure => simp [intOf]; omega
          · have HW2 := hid (HW.out c3)
            have c3' : (er == 0) = false := beq_eq_false_iff_ne.2 c3
            clear HW HS HM
            go_wp2
            try rw [Exit.noGoto_ret]
            go_ret3
            refine ⟨.slice none 0 0, ?_, ?_, HB1.out.alloc (by omega) _⟩
            · rw [HW2.out]; rfl
            · rw [HW2.out]; exact World.ownsRow_nil _ _ _ _
end Go.Proofs.YtohhokjlgihbgaaGreatDoor
