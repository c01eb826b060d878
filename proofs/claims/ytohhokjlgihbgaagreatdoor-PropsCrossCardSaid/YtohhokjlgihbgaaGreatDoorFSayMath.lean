/- What say does to the ranges said so far: a range laid among them, joined with those that it meets; none, if one of these has another class. -/
import Derived.Test.YtohhokjlgihbgaaGreatDoorFBare
import Derived.Test.YtohhokjlgihbgaaGreatDoorFSearch
namespace Go.Proofs.YtohhokjlgihbgaaGreatDoor

/-- From the first range on that does not end ahead of it. -/
def sayD : List Tr → Tr → Option (Tr × List Tr)
  | [], g => some (g, [])
  | h :: R, g => if h.1 ≤ g.2.1 then (if h.2.2 = g.2.2 then sayD R (min g.1 h.1, max g.2.1 h.2.1, g.2.2) else none) else some (g, h :: R)
def sayR : List Tr → Tr → Option (List Tr)
  | [], g => some [g]
  | h :: R, g => if (h.2.1 : Int) < (g.1 : Int) then (sayR R g).map (h :: ·) else (sayD (h :: R) g).map fun x => x.1 :: x.2
theorem sayR_at : ∀ (S : List Tr) (g : Tr), sayR S g = (sayD (S.drop (ahd (g.1 : Int) S)) g).map fun x => S.take (ahd (g.1 : Int) S) ++ x.1 :: x.2
  | [], g => rfl
  | h :: R, g => by
    have ih := sayR_at R g
    unfold sayR
    by_cases hc : (h.2.1 : Int) < (g.1 : Int)
    · rw [if_pos hc, ih, show ahd (g.1 : Int) (h :: R) = ahd (g.1 : Int) R + 1 by show (if _ then _ else _) = _; rw [if_pos hc]]
      rw [List.drop_succ_cons, List.take_succ_cons]
      cases sayD (R.drop (ahd (g.1 : Int) R)) g with
      | none => rfl
      | some x => rfl
    · rw [if_neg hc, show ahd (g.1 : Int) (h :: R) = 0 by show (if _ then _ else _) = _; rw [if_neg hc]]
      rfl
theorem rs_mono : ∀ (L : List Tr) (a b : Nat), a ≤ b → Rs b L → Rs a L
  | [], _, _, _, _ => trivial
  | _ :: _, _, _, hab, h => ⟨Nat.le_trans hab h.1, h.2⟩
theorem sayD_rs : ∀ (D : List Tr) (g : Tr) (b : Nat) (x : Tr) (R : List Tr), Rs b D → b ≤ g.1 → g.1 ≤ g.2.1 → g.2.1 ≤ 1114111 → sayD D g = some (x, R) → b ≤ x.1 ∧ x.1 ≤ x.2.1 ∧ x.2.1 ≤ 1114111 ∧ Rs (x.2.1 + 1) R
  | [], g, b, x, R, _, h1, h2, h3, he => by
    simp only [sayD, Option.some.injEq, Prod.mk.injEq] at he
    obtain ⟨rfl, rfl⟩ := he
    exact ⟨h1, h2, h3, trivial⟩
  | h :: D, g, b, x, R, hR, h1, h2, h3, he => by
    obtain ⟨r1, r2, r3, r4⟩ := hR
    unfold sayD at he
    split at he
    · split at he
      · exact sayD_rs D (min g.1 h.1, max g.2.1 h.2.1, g.2.2) b x R (rs_mono D b (h.2.1 + 1) (by omega) r4) (by show b ≤ min g.1 h.1; omega) (by show min g.1 h.1 ≤ max g.2.1 h.2.1; omega) (by show max g.2.1 h.2.1 ≤ 1114111; omega) he
      · cases he
    · rename_i hc
      simp only [Option.some.injEq, Prod.mk.injEq] at he
      obtain ⟨rfl, rfl⟩ := he
      exact ⟨h1, h2, h3, by omega, r2, r3, r4⟩
theorem sayR_rs : ∀ (S : List Tr) (g : Tr) (b : Nat) (S' : List Tr), Rs b S → b ≤ g.1 → g.1 ≤ g.2.1 → g.2.1 ≤ 1114111 → sayR S g = some S' → Rs b S'
  | [], g, b, S', _, h1, h2, h3, he => by
    simp only [sayR, Option.some.injEq] at he
    subst he
    exact ⟨h1, h2, h3, trivial⟩
  | h :: S, g, b, S', hR, h1, h2, h3, he => by
    obtain ⟨r1, r2, r3, r4⟩ := hR
    unfold sayR at he
    split at he
    · rename_i hc
      cases hs : sayR S g with
      | none => rw [hs] at he; cases he
      | some T =>
        rw [hs] at he
        simp only [Option.map_some, Option.some.injEq] at he
        subst he
        exact ⟨r1, r2, r3, sayR_rs S g (h.2.1 + 1) T r4 (by omega) h2 h3 hs⟩
    · cases hs : sayD (h :: S) g with
      | none => rw [hs] at he; cases he
      | some x =>
        rw [hs] at he
        simp only [Option.map_some, Option.some.injEq] at he
        subst he
        obtain ⟨p1, p2, p3, p4⟩ := sayD_rs (h :: S) g b x.1 x.2 ⟨r1, r2, r3, r4⟩ h1 h2 h3 hs
        exact ⟨p1, p2, p3, p4⟩
end Go.Proofs.YtohhokjlgihbgaaGreatDoor
