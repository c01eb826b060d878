/- The contract of (*Table).Get (package kerfref03). -/
import Derived.Test.YtljlhlcoaajggaaRBuild
namespace Go.Proofs.Ytljlhlcoaajggaa
open Go.RowKit

/-- The class of a number, by ranges. -/
def gtR (r : Nat) (x : Int) : List Tr → Nat
  | [] => r
  | g :: A => if (g.1 : Int) ≤ x ∧ x ≤ (g.2.1 : Int) then g.2.2 else gtR r x A
theorem gtR_drop (r : Nat) (x : Int) (L : List Tr) (i : Nat) (hi : i < L.length) : gtR r x (L.drop i) = if ((L[i]).1 : Int) ≤ x ∧ x ≤ ((L[i]).2.1 : Int) then (L[i]).2.2 else gtR r x (L.drop (i + 1)) := by
  rw [List.drop_eq_getElem_cons hi]
  rfl
theorem gtR_low (r : Nat) : ∀ (A : List Tr) (b : Nat) (x : Int), x < (b : Int) → Ris b A → gtR r x A = r
  | [], _, _, _, _ => rfl
  | g :: A, b, x, hx, h => by
    obtain ⟨h1, h2, h3, h4, h5⟩ := h
    show (if (g.1 : Int) ≤ x ∧ x ≤ (g.2.1 : Int) then g.2.2 else gtR r x A) = r
    rw [if_neg (by omega)]
    exact gtR_low r A (g.2.1 + 1) x (by omega) h5
theorem gtR_high (r : Nat) : ∀ (A : List Tr) (b : Nat) (x : Int), (1114111 : Int) < x → Ris b A → gtR r x A = r
  | [], _, _, _, _ => rfl
  | g :: A, b, x, hx, h => by
    obtain ⟨h1, h2, h3, h4, h5⟩ := h
    show (if (g.1 : Int) ≤ x ∧ x ≤ (g.2.1 : Int) then g.2.2 else gtR r x A) = r
    rw [if_neg (by omega)]
    exact gtR_high r A (g.2.1 + 1) x hx h5
theorem gtR_clq (r : Nat) : ∀ (A : List Tr) (b x : Nat), b ≤ x → Ris b A → gtR r (x : Int) A = (clq r b A)[x - b]?.getD r
  | [], _, _, _, _ => rfl
  | g :: A, b, x, hx, h => by
    obtain ⟨h1, h2, h3, h4, h5⟩ := h
    show (if (g.1 : Int) ≤ (x : Int) ∧ (x : Int) ≤ (g.2.1 : Int) then g.2.2 else gtR r x A) = (List.replicate (g.1 - b) r ++ (List.replicate (g.2.1 + 1 - g.1) g.2.2 ++ clq r (g.2.1 + 1) A))[x - b]?.getD r
    by_cases q : x < g.1
    · rw [if_neg (by omega), gtR_low r A (g.2.1 + 1) x (by omega) h5, List.getElem?_append_left (by rw [List.length_replicate]; omega), List.getElem?_replicate, if_pos (by omega)]
      rfl
    · rw [List.getElem?_append_right (by rw [List.length_replicate]; omega), List.length_replicate]
      by_cases q2 : x ≤ g.2.1
      · rw [if_pos (by omega), List.getElem?_append_left (by rw [List.length_replicate]; omega), List.getElem?_replicate, if_pos (by omega)]
        rfl
      · rw [if_neg (by omega), List.getElem?_append_right (by rw [List.length_replicate]; omega), List.length_replicate, gtR_clq r A (g.2.1 + 1) x (by omega) h5]
        rw [show x - b - (g.1 - b) - (g.2.1 + 1 - g.1) = x - (g.2.1 + 1) by omega]
/-- By ranges or number by number: the same class. -/
theorem gtR_clA (r : Nat) (L : List Tr) (x : Nat) (hx : x < 1114112) (h : Ris 0 L) : gtR r (x : Int) L = (clA r L).getD x 0 := by
  rw [gtR_clq r L 0 x (Nat.zero_le _) h, Nat.sub_zero, List.getD_eq_getElem?_getD]
  unfold clA
  by_cases q : x < (clq r 0 L).length
  · rw [List.getElem?_append_left q, List.getElem?_eq_getElem q]
    rfl
  · rw [List.getElem?_append_right (by omega), List.getElem?_replicate, if_pos (by omega), List.getElem?_eq_none (by omega)]
    rfl
theorem RtAt.row {B P : Nat} {L : List Tr} {r : Nat} {w : World} (h : RtAt B P L r w) : ∃ ao ac, w.cell? ⟨P, 0, none⟩ = some (.slice ao L.length ac) ∧ w.cell? ⟨P, 1, none⟩ = some (.int .i64 (r : Int)) ∧ P < w.heap.size ∧ w.ownsRow B 36 3 (.slice ao L.length ac) L.length (rks L) := by
  obtain ⟨v, h1, h2⟩ := h
  obtain ⟨ao, ac, rfl⟩ := own_form h2
  exact ⟨ao, ac, by simp [World.cell?, h1], by simp [World.cell?, h1], lt_of_heap h1, h2⟩

set_option maxHeartbeats 6000000 in
set_option maxRecDepth 100000 in
theorem rget_any (B P : Nat) (L : List Tr) (r : Nat) (x : Int) (w : World) (h : RtAt B P L r w) (hl : L.length ≤ 1000000000) :
    Calls Try.prog 45 #[.pointer (some ⟨P, 0, none⟩), .int .i32 x] w fun e w' => e = .returned (.int .i64 ((gtR r x L : Nat) : Int)) ∧ w' = w := by
  obtain ⟨ao, ac, d0, d1, hP, ho⟩ := h.row
  have HA := hid (rd_own ho)
  obtain ⟨n, hn⟩ : ∃ n, n = L.length := ⟨_, rfl⟩
  rw [← hn] at hl d0
  have HN := hid hn
  clear h ho hn
  have HG0 := hid (show gtR r x L = gtR r x (L.drop 0) from rfl)
  go_enter Try.func45, Try.ntmps45
  go_wp2
  go_loopw [5] (fun y wr => ∃ (i : Nat), y = .int .i64 (i : Int) ∧ i ≤ n ∧ Hid (gtR r x L = gtR r x (L.drop i)) ∧ wr = w) (fun y _ => n - (intOf y).toNat)
  case atStart => exact ⟨0, rfl, by omega, HG0, rfl⟩
  case round =>
    obtain ⟨i, rfl, hi, HG, hw⟩ := hrel
    obtain rfl := hw.symm
    by_cases hlt : i < n
    · have hiL : i < L.length := by have h5 := HN.out; omega
      obtain ⟨a, rfl, _, a0, a1, a2⟩ := HA.out i (rkT L[i]) (by rw [List.getElem?_map, List.getElem?_eq_getElem hiL]; rfl)
      have i3 : (i : Int) < (n : Int) := by omega
      have i0 : (0 : Int) ≤ (i : Int) := by omega
      have HGD := hid (HG.out.trans (gtR_drop r x L i hiL))
      obtain ⟨g, hg⟩ : ∃ g, g = L[i] := ⟨_, rfl⟩
      rw [← hg] at a0 a1 a2 HGD
      obtain ⟨g0, g1, g2⟩ := g
      unfold rkT at a0 a1 a2
      dsimp only at a0 a1 a2 HGD
      clear hg hiL
      by_cases q0 : (g0 : Int) ≤ x
      · by_cases q1 : x ≤ (g1 : Int)
        · have HGZ := hid (HGD.out.trans (if_pos ⟨q0, q1⟩))
          go_wp2
          go_ret
          exact ⟨by rw [HGZ.out]; rfl, rfl⟩
        · have HGZ := hid (HGD.out.trans (if_neg (fun h => q1 h.2)))
          go_wp2
          go_roundw
          case rel => exact ⟨i + 1, by go_num, by omega, HGZ, trivial⟩
          case measure => simp [intOf]; omega
      · have HGZ := hid (HGD.out.trans (if_neg (fun h => q0 h.1)))
        go_wp2
        go_roundw
        case rel => exact ⟨i + 1, by go_num, by omega, HGZ, trivial⟩
        case measure => simp [intOf]; omega
    · have i3 : ¬ (i : Int) < (n : Int) := by omega
      have HGZ := hid (show gtR r x L = r by rw [HG.out, List.drop_of_length_le (by have h5 := HN.out; omega)]; rfl)
      go_wp2
      go_ret
      exact ⟨by rw [HGZ.out]; rfl, rfl⟩
end Go.Proofs.Ytljlhlcoaajggaa
