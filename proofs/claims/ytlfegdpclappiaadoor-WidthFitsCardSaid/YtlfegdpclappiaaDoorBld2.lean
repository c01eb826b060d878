/- A Builder that is written: WriteString and String; what keeps it. -/
import Derived.Test.YtlfegdpclappiaaDoorGrLaw2
namespace Go.Proofs.YtlfegdpclappiaaDoor
open Go.RowKit Go.Shelf

theorem write_any (B b : Nat) (T u : List UInt8) (s : ByteArray) (w : World) (h : Lib.IsBuilderF 62 5 B b (Lib.byteCells T) w) (hs : s = ⟨u.toArray⟩) (hlen : T.length + u.length ≤ 140737488355328) (hBw : B ≤ w.heap.size) :
    Calls Tryd.prog 41 #[.pointer (some ⟨b, 0, none⟩), .string s] w fun e w' => (∃ v, e = .returned v) ∧ Lib.IsBuilderF 62 5 B b (Lib.byteCells (T ++ u)) w' ∧ Below B w w' ∧ Lib.OthersKept 5 (some b) w w' := by
  subst hs
  have hc : Lib.byteCells T ++ Lib.strCells ⟨u.toArray⟩ = Lib.byteCells (T ++ u) := by
    unfold Lib.byteCells Lib.strCells
    simp
  refine (Any.Builder_WriteString_k Tryd.lays166 Tryd.Builder_Extra_166 B b (Lib.byteCells T) ⟨u.toArray⟩ w h ?_ hBw).mono ?_
  · rw [Lib.byteCells_length]
    show _ + u.toArray.size ≤ _
    simpa using hlen
  · rintro e w' ⟨rfl, h1, h2, h3⟩
    rw [hc] at h1
    exact ⟨⟨_, rfl⟩, .inr h1, h2, h3⟩
theorem string_any (B b : Nat) (T : List UInt8) (w : World) (h : Lib.IsBuilderF 62 5 B b (Lib.byteCells T) w) (hBw : B ≤ w.heap.size) :
    Calls Tryd.prog 42 #[.pointer (some ⟨b, 0, none⟩)] w fun e w' => e = .returned (.string ⟨T.toArray⟩) ∧ Below B w w' ∧ Lib.OthersKept 5 (some b) w w' :=
  (Any.Builder_String_any_k Tryd.lays169 Tryd.Builder_Extra_169 B b T w h hBw).mono fun _ _ h => ⟨h.1, h.2.2.1, h.2.2.2⟩
theorem builderF_own {β : Type} (B b : Nat) (f : β → List Value) : Own (fun s W => Lib.IsBuilderF 62 5 B b (f s) W) := by
  have one : ∀ (p : Value) (s : β) (X Y : World) (row : Option Nat), Lib.BuilderAtF 62 5 B b p (f s) X → X.grownBy Y row → (∀ r, row = some r → ∃ o : Obj, X.heap[r]? = some o ∧ o.isCells = false) → Lib.BuilderAtF 62 5 B b p (f s) Y := by
    rintro p s X Y row ⟨h1, v, hv, hr, hne⟩ hg hrow
    have kept : ∀ (k : Nat) c t fz, X.heap[k]? = some (Obj.cells c t fz) → Y.heap[k]? = some (Obj.cells c t fz) := fun k c t fz hk =>
      (hg.block k (Array.getElem?_eq_some_iff.1 hk).1 (fun e => by
        obtain ⟨o, ho, hc⟩ := hrow k e.symm
        rw [hk] at ho; cases ho; cases hc)).trans hk
    refine ⟨h1, v, kept _ _ _ _ hv, ⟨hr.1, ?_⟩, hne⟩
    rcases hr.2 with h0 | ⟨g, cap, cur, fz, hv', hbg, hgg, hrr⟩
    · exact .inl h0
    · exact .inr ⟨g, cap, cur, fz, hv', hbg, kept _ _ _ _ hgg, hrr⟩
  rintro s X Y row h hg hrow
  exact h.imp (fun x => one _ s X Y row x hg hrow) (fun x => one _ s X Y row x hg hrow)
theorem bf_below {B b : Nat} {bs : List Value} {W W' : World} (h : Lib.IsBuilderF 62 5 B b bs W) (hb : Below W.heap.size W W') : Lib.IsBuilderF 62 5 B b bs W' :=
  builderF_own B b (fun (_ : Unit) => bs) () W W' none h (wgrown hb) (fun _ e => by cases e)
theorem bf_set {B b M : Nat} {bs : List Value} {W : World} {v v' : Value} {t : TypeId} (h : Lib.IsBuilderF 62 5 B b bs W) (hM : Boxed W M t v) (hne : M ≠ b) (ht : t ≠ 5) : Lib.IsBuilderF 62 5 B b bs (W.setCell ⟨M, 0, none⟩ v') := by
  have hg := grownBy_setCell' W M v'
  have one : ∀ (p : Value), Lib.BuilderAtF 62 5 B b p bs W → Lib.BuilderAtF 62 5 B b p bs (W.setCell ⟨M, 0, none⟩ v') := by
    rintro p ⟨h1, u, hv, hr, hnb⟩
    refine ⟨h1, u, (hg.block b (Array.getElem?_eq_some_iff.1 hv).1 (fun e => hne (by cases e; rfl))).trans hv, ⟨hr.1, ?_⟩, hnb⟩
    rcases hr.2 with h0 | ⟨g, cap, cur, fz, hv', hbg, hgg, hrr⟩
    · exact .inl h0
    · refine .inr ⟨g, cap, cur, fz, hv', hbg, (hg.block g (Array.getElem?_eq_some_iff.1 hgg).1 (fun e => ?_)).trans hgg, hrr⟩
      cases e
      have hx : W.heap[M]? = some (.cells #[v] t (0, 0)) := hM
      rw [hx] at hgg
      cases hgg
      exact ht rfl
  exact h.imp (one _) (one _)
theorem bf_block {B b : Nat} {bs : List Value} {W : World} (h : Lib.IsBuilderF 62 5 B b bs W) : ∃ c t, W.heap[b]? = some (.cells c t (0, 0)) := by
  rcases h with ⟨_, v, h, _⟩ | ⟨_, v, h, _⟩
  · exact ⟨_, _, h⟩
  · exact ⟨_, _, h⟩
end Go.Proofs.YtlfegdpclappiaaDoor
