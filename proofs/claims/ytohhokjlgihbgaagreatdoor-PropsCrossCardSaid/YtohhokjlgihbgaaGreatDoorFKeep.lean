/- The contract of Keep (package runes): the bytes of a text that belong to runes of a set. -/
import Derived.Test.YtohhokjlgihbgaaGreatDoorFRuns
import Derived.Test.YtohhokjlgihbgaaGreatDoorFShelf
import Derived.Test.YtohhokjlgihbgaaGreatDoorFPInt
namespace Go.Proofs.YtohhokjlgihbgaaGreatDoor
open Go.RowKit Go.Shelf
attribute [local go_sem] Oper.semAt_some

/-- The bytes between places. -/
def kps (l : List UInt8) (xs : List (Tw l)) : List UInt8 := xs.flatMap fun x => (l.drop x.val.1).take (x.val.2 - x.val.1)
theorem kps_snoc (l : List UInt8) (xs : List (Tw l)) (x : Tw l) : kps l (xs ++ [x]) = kps l xs ++ (l.drop x.val.1).take (x.val.2 - x.val.1) := by
  unfold kps; simp
theorem kps_len (l : List UInt8) (xs : List (Tw l)) : (kps l xs).length ≤ xs.length * l.length := by
  unfold kps
  induction xs with
  | nil => simp
  | cons x xs ih =>
    have h2 := x.property.2
    have h3 : ((l.drop x.val.1).take (x.val.2 - x.val.1)).length ≤ l.length := by rw [List.length_take, List.length_drop]; omega
    simp only [List.flatMap_cons, List.length_append, List.length_cons, Nat.add_mul]
    omega
theorem write_any (B b : Nat) (T u : List UInt8) (s : ByteArray) (w : World) (h : Lib.IsBuilderF 96 5 B b (Lib.byteCells T) w) (hs : s = ⟨u.toArray⟩) (hlen : T.length + u.length ≤ 140737488355328) (hBw : B ≤ w.heap.size) :
    Calls Tryz.prog 53 #[.pointer (some ⟨b, 0, none⟩), .string s] w fun e w' => (∃ v, e = .returned v) ∧ Lib.IsBuilderF 96 5 B b (Lib.byteCells (T ++ u)) w' ∧ Below B w w' ∧ Lib.OthersKept 5 (some b) w w' := by
  subst hs
  have hc : Lib.byteCells T ++ Lib.strCells ⟨u.toArray⟩ = Lib.byteCells (T ++ u) := by
    unfold Lib.byteCells Lib.strCells
    simp
  refine (Any.Builder_WriteString_k Tryz.lays166 Tryz.Builder_Extra_166 B b (Lib.byteCells T) ⟨u.toArray⟩ w h ?_ hBw).mono ?_
  · rw [Lib.byteCells_length]
    show _ + u.toArray.size ≤ _
    simpa using hlen
  · rintro e w' ⟨rfl, h1, h2, h3⟩
    rw [hc] at h1
    exact ⟨⟨_, rfl⟩, .inr h1, h2, h3⟩
theorem string_any (B b : Nat) (T : List UInt8) (w : World) (h : Lib.IsBuilderF 96 5 B b (Lib.byteCells T) w) (hBw : B ≤ w.heap.size) :
    Calls Tryz.prog 56 #[.pointer (some ⟨b, 0, none⟩)] w fun e w' => e = .returned (.string ⟨T.toArray⟩) ∧ Below B w w' ∧ Lib.OthersKept 5 (some b) w w' :=
  (Any.Builder_String_any_k Tryz.lays169 Tryz.Builder_Extra_169 B b T w h hBw).mono fun _ _ h => ⟨h.1, h.2.2.1, h.2.2.2⟩
theorem others_keepsF {B b : Nat} {bs : List Value} {w w' : World} (hb : Lib.IsBuilderF 96 5 B b bs w) (hs : w.heap.size ≤ w'.heap.size) (h : Lib.OthersKept 5 (some b) w w') : KeepsOthers w w' :=
  ⟨hs, fun k o hk ho => h k o hk (fun e => by
    cases e
    rcases hb with ⟨_, v, h, _⟩ | ⟨_, v, h, _⟩
    all_goals rw [h] at hk; cases hk; cases ho) (fun c fz e => by subst e; cases ho)⟩
theorem kr_others {B b Bs Bl : Nat} {l : List UInt8} {so : Option Addr} {sc : Nat} {s : List Rg} {bs : List Value} {w w' : World} (hb : Lib.IsBuilderF 96 5 B b bs w) (hR : RunsAt Bs Bl l so sc s w) (h : Lib.OthersKept 5 (some b) w w') : ∀ k, KR Bs Bl so k → w'.heap[k]? = w.heap[k]? := fun k hk => by
  have one : ∀ (c : Array Value) (t : TypeId) (fz : Nat × Nat), w.heap[k]? = some (.cells c t fz) → t ≠ 96 → t ≠ 5 → w'.heap[k]? = w.heap[k]? := fun c t fz hc h1 h2 => by
    rw [hc]
    refine h k _ hc (fun e => ?_) (fun c' fz' e => by cases e; exact h2 rfl)
    cases e
    rcases hb with ⟨_, v, hv, _⟩ | ⟨_, v, hv, _⟩
    all_goals rw [hv] at hc; cases hc; exact h1 rfl
  rcases hk with rfl | rfl | ⟨a, h1, rfl⟩
  · exact one _ _ _ hR.bs (by decide) (by decide)
  · exact one _ _ _ hR.bl (by decide) (by decide)
  · obtain ⟨c, fz, hh⟩ := hR.row a h1
    exact one _ _ _ hh (by decide) (by decide)
theorem builderF_own {β : Type} (B b : Nat) (f : β → List Value) : Own (fun s W => Lib.IsBuilderF 96 5 B b (f s) W) := by
  have one : ∀ (p : Value) (s : β) (X Y : World) (row : Option Nat), Lib.BuilderAtF 96 5 B b p (f s) X → X.grownBy Y row → (∀ r, row = some r → ∃ o : Obj, X.heap[r]? = some o ∧ o.isCells = false) → Lib.BuilderAtF 96 5 B b p (f s) Y := by
    rintro p s X Y row ⟨h1, v, hv, hr, hne⟩ hg hrow
    have kept : ∀ (k : Nat) c t fz, X.heap[k]? = some (Obj.cells c t fz) → Y.heap[k]? = some (Obj.cells c t fz) := fun k c t fz hk =>
      (hg.block k (Array.getElem?_eq_some_iff.1 hk).1 (fun e => by
        obtain ⟨o, ho, hc⟩ := hrow k e.symm
        rw [hk] at ho; cases ho; cases hc)).trans hk
    refine ⟨h1, v, kept _ _ _ _ hv, ⟨hr.1, ?_⟩, hne⟩
    rcases hr.2 with h0 | ⟨g, cap, cur, fz, hv', hbg, hgg, hrr⟩
    · exact .inl h0
    · exact .inr ⟨g, cap, cur, fz, hv', hbg, kept _ _ _ _ hgg, hrr⟩
  rintro s X Y row h hg hrow
  exact h.imp (fun x => one _ s X Y row x hg hrow) (fun x => one _ s X Y row x hg hrow)
theorem runsAt_own {β : Type} (Bs Bl : Nat) (l : List UInt8) (so : Option Addr) (sc : Nat) (s : List Rg) : Own (fun (_ : β) W => RunsAt Bs Bl l so sc s W) := by
  rintro _ X Y row h hg hrow
  refine h.keeps hg.size (fun k hk => hg.block k (h.lt k hk) (fun e => ?_))
  obtain ⟨o, ho, hc⟩ := hrow k e.symm
  rcases hk with rfl | rfl | ⟨a, h1, rfl⟩
  · have := h.bs; unfold Boxed at this; rw [this] at ho; cases ho; cases hc
  · have := h.bl; unfold Boxed at this; rw [this] at ho; cases ho; cases hc
  · obtain ⟨c, fz, hh⟩ := h.row a h1
    rw [hh] at ho; cases ho; cases hc

end Go.Proofs.YtohhokjlgihbgaaGreatDoor
