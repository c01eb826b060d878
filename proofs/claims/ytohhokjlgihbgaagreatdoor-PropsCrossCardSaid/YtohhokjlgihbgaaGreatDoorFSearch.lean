/- The contract of slices.BinarySearchFunc at ranges and a number: the first range that does not end ahead of it. -/
import Derived.Test.YtohhokjlgihbgaaGreatDoorFBare
import Derived.Test.YtohhokjlgihbgaaGreatDoorFCompare
namespace Go.Proofs.YtohhokjlgihbgaaGreatDoor
open Go.RowKit

set_option maxRecDepth 100000 in
theorem say1_any (g : Tr) (r : Int) (w : World) : Calls Tryz.prog 100 #[rkv (rkT g), .int .i32 r] w fun e w' => e = .returned (.int .i64 (Lib.compareInt (g.2.1 : Int) r)) ∧ Below w.heap.size w w' := by
  obtain ⟨lo, hh, cl⟩ := g
  unfold rkv rkT
  have HB := hid ((Below.refl w.heap.size w).alloc (Nat.le_refl _) (.cells #[.int .i32 (lo : Int), .int .i32 (hh : Int), .int .i64 (cl : Int)] 86))
  go_enter Tryz.func100, Tryz.ntmps100
  go_wp2_with (go_at_call 52; refine (compare_any _ _ _).mono ?_; rintro e w1 ⟨rfl, hw⟩; obtain rfl := hw.symm)
  go_ret
  exact ⟨rfl, HB.out⟩
set_option maxRecDepth 100000 in
theorem get1_any (g : Tr) (r : Int) (w : World) : Calls Tryz.prog 51 #[rkv (rkT g), .int .i32 r] w fun e w' => e = .returned (.int .i64 (Lib.compareInt (g.2.1 : Int) r)) ∧ Below w.heap.size w w' := by
  obtain ⟨lo, hh, cl⟩ := g
  unfold rkv rkT
  have HB := hid ((Below.refl w.heap.size w).alloc (Nat.le_refl _) (.cells #[.int .i32 (lo : Int), .int .i32 (hh : Int), .int .i64 (cl : Int)] 86))
  go_enter Tryz.func51, Tryz.ntmps51
  go_wp2_with (go_at_call 52; refine (compare_any _ _ _).mono ?_; rintro e w1 ⟨rfl, hw⟩; obtain rfl := hw.symm)
  go_ret
  exact ⟨rfl, HB.out⟩
theorem cmp_neg (a b : Int) : Lib.compareInt a b < 0 ↔ a < b := by
  unfold Lib.compareInt
  split
  · rename_i h; simp [h]
  · rename_i h
    split <;> simp [h]
theorem cmp_one (a b : Int) : -1 ≤ Lib.compareInt a b ∧ Lib.compareInt a b ≤ 1 := by
  unfold Lib.compareInt
  split
  · omega
  · split <;> omega
set_option maxRecDepth 100000 in
set_option maxHeartbeats 3000000 in
theorem search_say (ao : Option Addr) (ac : Nat) (L : List Tr) (r : Int) (s : Nat) (w : World) (ha : RdK w ao (L.map rkT)) (hl : L.length ≤ 1000000000) (hs : s ≤ L.length)
    (h1 : ∀ k x, k < s → L[k]? = some x → (x.2.1 : Int) < r) (h2 : ∀ k x, s ≤ k → L[k]? = some x → ¬ (x.2.1 : Int) < r) :
    Calls Tryz.prog 50 #[.slice ao L.length ac, .int .i32 r, .func (.func 100) #[] #[]] w fun e w' => (∃ d : Bool, e = .returned (.tuple #[.int .i64 (s : Int), .bool d])) ∧ Below w.heap.size w w' := by
  have HAB := hid (show ∀ W, Below w.heap.size w W → RdK W ao (L.map rkT) from fun W hW => ha.below hW)
  have H1 := hid h1
  have H2 := hid h2
  obtain ⟨n, hn⟩ : ∃ n, n = L.length := ⟨_, rfl⟩
  have HN := hid hn
  rw [← hn] at hl hs ⊢
  clear ha h1 h2 hn
  go_enter Tryz.func50, Tryz.ntmps50
  go_wp2
  go_loopw [9, 10] (fun x y wr => ∃ i j : Nat, x = .int .i64 (i : Int) ∧ y = .int .i64 (j : Int) ∧ i ≤ s ∧ s ≤ j ∧ j ≤ n ∧ Hid (Below w.heap.size w wr)) (fun x y _ => (intOf y).toNat - (intOf x).toNat)
  case atStart => exact ⟨0, n, rfl, rfl, by omega, hs, by omega, Below.refl _ _⟩
  case round =>
    obtain ⟨i, j, rfl, rfl, hi, hj, hjn, HB⟩ := hrel
    have hwz := HB.out.size
    by_cases hlt : i < j
    · have hlt' : (i : Int) < (j : Int) := by omega
      obtain ⟨m, hm⟩ : ∃ m, m = (i + j) / 2 := ⟨_, rfl⟩
      have hm1 : m < j := by omega
      have hm2 : i ≤ m := by omega
      have hmn : m < L.length := by have h5 := HN.out; omega
      obtain ⟨a, rfl, ha, a0, a1, a2⟩ := HAB.out wr HB.out m (rkT L[m]) (by rw [List.getElem?_map, List.getElem?_eq_getElem hmn]; rfl)
      have HX := hid (List.getElem?_eq_getElem hmn)
      have b1 : (m : Int) < (n : Int) := by omega
      have b0 : (0 : Int) ≤ (m : Int) := by omega
      have e1 : IntKind.i64.wrap ((i : Int) + (j : Int)) = ((i + j : Nat) : Int) := by rw [IntKind.wrap_i64]; omega
      have e2 : IntKind.u64.wrap ((i + j : Nat) : Int) = ((i + j : Nat) : Int) := by rw [IntKind.wrap_u64]; omega
      have e3 : ((i : Int) + (j : Int)) / 2 = (m : Int) := by omega
      unfold rkT at a0 a1 a2
      obtain ⟨gx, hx⟩ : ∃ gx, L[m] = gx := ⟨_, rfl⟩
      rw [hx] at a0 a1 a2 HX
      have HC := hid (say1_any gx r)
      obtain ⟨z0, z1, z2⟩ := gx
      dsimp only at a0 a1 a2
      unfold rkv rkT at HC
      dsimp only at HC
      have HCN := hid (cmp_neg (z1 : Int) r)
      have hc1 := cmp_one (z1 : Int) r
      obtain ⟨c, hce⟩ : ∃ c, c = Lib.compareInt (z1 : Int) r := ⟨_, rfl⟩
      rw [← hce] at HC HCN hc1
      clear hx hm hce
      go_wp2_with fail
      refine (HC.out wr).mono ?_
      rintro e w2 ⟨rfl, b2⟩
      have HB2 := hid (HB.out.trans (b2.mono hwz))
      clear b2 HC
      by_cases hc : c < 0
      · have HS := hid (show m < s from by
          rcases Nat.lt_or_ge m s with h5 | h5
          · exact h5
          · exact absurd (HCN.out.1 hc) (by have h7 := H2.out m _ h5 HX.out; dsimp only at h7; omega))
        have hms := HS.out
        go_wp2
        go_roundw
        case rel => exact ⟨m + 1, j, by go_num, rfl, by omega, hj, hjn, HB2⟩
        case measure => simp [intOf]; omega
      · have HS := hid (show s ≤ m from by
          rcases Nat.lt_or_ge m s with h5 | h5
          · exact absurd (HCN.out.2 (H1.out m _ h5 HX.out)) hc
          · exact h5)
        have hms := HS.out
        go_wp2
        go_roundw
        case rel => exact ⟨i, m, rfl, by go_num, hi, by omega, by omega, HB2⟩
        case measure => simp [intOf]; omega
    · have hlt' : ¬ (i : Int) < (j : Int) := by omega
      have his : i = s := by omega
      subst his
      by_cases hin : i < n
      · have hin' : (i : Int) < (n : Int) := by omega
        have b0 : (0 : Int) ≤ (i : Int) := by omega
        have hmn : i < L.length := by have h5 := HN.out; omega
        obtain ⟨a, rfl, ha, a0, a1, a2⟩ := HAB.out wr HB.out i (rkT L[i]) (by rw [List.getElem?_map, List.getElem?_eq_getElem hmn]; rfl)
        unfold rkT at a0 a1 a2
        obtain ⟨gx, hx⟩ : ∃ gx, L[i] = gx := ⟨_, rfl⟩
        rw [hx] at a0 a1 a2
        have HC := hid (say1_any gx r)
        obtain ⟨z0, z1, z2⟩ := gx
        dsimp only at a0 a1 a2
        unfold rkv rkT at HC
        dsimp only at HC
        obtain ⟨c, hce⟩ : ∃ c, c = Lib.compareInt (z1 : Int) r := ⟨_, rfl⟩
        rw [← hce] at HC
        clear hx hce
        go_wp2_with fail
        refine (HC.out wr).mono ?_
        rintro e w2 ⟨rfl, b2⟩
        have HB2 := hid (HB.out.trans (b2.mono hwz))
        clear b2 HC
        go_wp2
        go_ret2
        exact ⟨⟨_, rfl⟩, HB2.out⟩
      · have hin' : ¬ (i : Int) < (n : Int) := by omega
        go_wp2
        go_ret2
        first
          | exact ⟨⟨_, rfl⟩, HB.out⟩
          | exact ⟨.inl rfl, HB.out⟩
set_option maxRecDepth 100000 in
set_option maxHeartbeats 3000000 in
theorem search_get (ao : Option Addr) (ac : Nat) (L : List Tr) (r : Int) (s : Nat) (w : World) (ha : RdK w ao (L.map rkT)) (hl : L.length ≤ 1000000000) (hs : s ≤ L.length)
    (h1 : ∀ k x, k < s → L[k]? = some x → (x.2.1 : Int) < r) (h2 : ∀ k x, s ≤ k → L[k]? = some x → ¬ (x.2.1 : Int) < r) :
    Calls Tryz.prog 50 #[.slice ao L.length ac, .int .i32 r, .func (.func 51) #[] #[]] w fun e w' => (∃ d : Bool, e = .returned (.tuple #[.int .i64 (s : Int), .bool d])) ∧ Below w.heap.size w w' := by
  have HAB := hid (show ∀ W, Below w.heap.size w W → RdK W ao (L.map rkT) from fun W hW => ha.below hW)
  have H1 := hid h1
  have H2 := hid h2
  obtain ⟨n, hn⟩ : ∃ n, n = L.length := ⟨_, rfl⟩
  have HN := hid hn
  rw [← hn] at hl hs ⊢
  clear ha h1 h2 hn
  go_enter Tryz.func50, Tryz.ntmps50
  go_wp2
  go_loopw [9, 10] (fun x y wr => ∃ i j : Nat, x = .int .i64 (i : Int) ∧ y = .int .i64 (j : Int) ∧ i ≤ s ∧ s ≤ j ∧ j ≤ n ∧ Hid (Below w.heap.size w wr)) (fun x y _ => (intOf y).toNat - (intOf x).toNat)
  case atStart => exact ⟨0, n, rfl, rfl, by omega, hs, by omega, Below.refl _ _⟩
  case round =>
    obtain ⟨i, j, rfl, rfl, hi, hj, hjn, HB⟩ := hrel
    have hwz := HB.out.size
    by_cases hlt : i < j
    · have hlt' : (i : Int) < (j : Int) := by omega
      obtain ⟨m, hm⟩ : ∃ m, m = (i + j) / 2 := ⟨_, rfl⟩
      have hm1 : m < j := by omega
      have hm2 : i ≤ m := by omega
      have hmn : m < L.length := by have h5 := HN.out; omega
      obtain ⟨a, rfl, ha, a0, a1, a2⟩ := HAB.out wr HB.out m (rkT L[m]) (by rw [List.getElem?_map, List.getElem?_eq_getElem hmn]; rfl)
      have HX := hid (List.getElem?_eq_getElem hmn)
      have b1 : (m : Int) < (n : Int) := by omega
      have b0 : (0 : Int) ≤ (m : Int) := by omega
      have e1 : IntKind.i64.wrap ((i : Int) + (j : Int)) = ((i + j : Nat) : Int) := by rw [IntKind.wrap_i64]; omega
      have e2 : IntKind.u64.wrap ((i + j : Nat) : Int) = ((i + j : Nat) : Int) := by rw [IntKind.wrap_u64]; omega
      have e3 : ((i : Int) + (j : Int)) / 2 = (m : Int) := by omega
      unfold rkT at a0 a1 a2
      obtain ⟨gx, hx⟩ : ∃ gx, L[m] = gx := ⟨_, rfl⟩
      rw [hx] at a0 a1 a2 HX
      have HC := hid (get1_any gx r)
      obtain ⟨z0, z1, z2⟩ := gx
      dsimp only at a0 a1 a2
      unfold rkv rkT at HC
      dsimp only at HC
      have HCN := hid (cmp_neg (z1 : Int) r)
      have hc1 := cmp_one (z1 : Int) r
      obtain ⟨c, hce⟩ : ∃ c, c = Lib.compareInt (z1 : Int) r := ⟨_, rfl⟩
      rw [← hce] at HC HCN hc1
      clear hx hm hce
      go_wp2_with fail
      refine (HC.out wr).mono ?_
      rintro e w2 ⟨rfl, b2⟩
      have HB2 := hid (HB.out.trans (b2.mono hwz))
      clear b2 HC
      by_cases hc : c < 0
      · have HS := hid (show m < s from by
          rcases Nat.lt_or_ge m s with h5 | h5
          · exact h5
          · exact absurd (HCN.out.1 hc) (by have h7 := H2.out m _ h5 HX.out; dsimp only at h7; omega))
        have hms := HS.out
        go_wp2
        go_roundw
        case rel => exact ⟨m + 1, j, by go_num, rfl, by omega, hj, hjn, HB2⟩
        case measure => simp [intOf]; omega
      · have HS := hid (show s ≤ m from by
          rcases Nat.lt_or_ge m s with h5 | h5
          · exact absurd (HCN.out.2 (H1.out m _ h5 HX.out)) hc
          · exact h5)
        have hms := HS.out
        go_wp2
        go_roundw
        case rel => exact ⟨i, m, rfl, by go_num, hi, by omega, by omega, HB2⟩
        case measure => simp [intOf]; omega
    · have hlt' : ¬ (i : Int) < (j : Int) := by omega
      have his : i = s := by omega
      subst his
      by_cases hin : i < n
      · have hin' : (i : Int) < (n : Int) := by omega
        have b0 : (0 : Int) ≤ (i : Int) := by omega
        have hmn : i < L.length := by have h5 := HN.out; omega
        obtain ⟨a, rfl, ha, a0, a1, a2⟩ := HAB.out wr HB.out i (rkT L[i]) (by rw [List.getElem?_map, List.getElem?_eq_getElem hmn]; rfl)
        unfold rkT at a0 a1 a2
        obtain ⟨gx, hx⟩ : ∃ gx, L[i] = gx := ⟨_, rfl⟩
        rw [hx] at a0 a1 a2
        have HC := hid (get1_any gx r)
        obtain ⟨z0, z1, z2⟩ := gx
        dsimp only at a0 a1 a2
        unfold rkv rkT at HC
        dsimp only at HC
        obtain ⟨c, hce⟩ : ∃ c, c = Lib.compareInt (z1 : Int) r := ⟨_, rfl⟩
        rw [← hce] at HC
        clear hx hce
        go_wp2_with fail
        refine (HC.out wr).mono ?_
        rintro e w2 ⟨rfl, b2⟩
        have HB2 := hid (HB.out.trans (b2.mono hwz))
        clear b2 HC
        go_wp2
        go_ret2
        exact ⟨⟨_, rfl⟩, HB2.out⟩
      · have hin' : ¬ (i : Int) < (n : Int) := by omega
        go_wp2
        go_ret2
        first
          | exact ⟨⟨_, rfl⟩, HB.out⟩
          | exact ⟨.inl rfl, HB.out⟩
end Go.Proofs.YtohhokjlgihbgaaGreatDoor
/- The contract of Get (package props). -/
namespace Go.Proofs.YtohhokjlgihbgaaGreatDoor
open Go.RowKit

/-- The class of a number: that of the first range that does not end ahead of it. -/
def gtp (r : Int) : List Tr → Nat
  | [] => 0
  | g :: R => if (g.2.1 : Int) < r then gtp r R else g.2.2
/-- How many ranges end ahead of it. -/
def ahd (r : Int) : List Tr → Nat
  | [] => 0
  | g :: R => if (g.2.1 : Int) < r then ahd r R + 1 else 0
theorem ahd_le (r : Int) : ∀ A : List Tr, ahd r A ≤ A.length
  | [] => Nat.le_refl _
  | g :: R => by
    have ih := ahd_le r R
    show (if _ then _ else _) ≤ _
    split
    · simp; omega
    · simp
theorem ahd_lo (r : Int) : ∀ (A : List Tr) (k : Nat) (x : Tr), k < ahd r A → A[k]? = some x → (x.2.1 : Int) < r
  | [], _, _, h, _ => by simp [ahd] at h
  | g :: R, k, x, h, hx => by
    unfold ahd at h
    split at h
    · rename_i hg
      cases k with
      | zero => simp at hx; subst hx; exact hg
      | succ k => exact ahd_lo r R k x (by omega) (by simpa using hx)
    · omega
theorem ahd_hi (r : Int) : ∀ (A : List Tr) (_ : A.Pairwise fun x y => x.2.1 < y.2.1) (k : Nat) (x : Tr), ahd r A ≤ k → A[k]? = some x → ¬ (x.2.1 : Int) < r
  | [], _, k, x, _, hx => by simp at hx
  | g :: R, hp, k, x, h, hx => by
    obtain ⟨h1, h2⟩ := List.pairwise_cons.1 hp
    unfold ahd at h
    split at h
    · rename_i hg
      cases k with
      | zero => omega
      | succ k => exact ahd_hi r R h2 k x (by omega) (by simpa using hx)
    · rename_i hg
      cases k with
      | zero => simp at hx; subst hx; exact hg
      | succ k =>
        have h5 := h1 x (List.mem_of_getElem? (by simpa using hx : R[k]? = some x))
        omega
theorem gtp_at (r : Int) : ∀ (A : List Tr), (∃ g ∈ A, ¬ (g.2.1 : Int) < r) → ∃ x, A[ahd r A]? = some x ∧ gtp r A = x.2.2
  | [], h => by obtain ⟨g, hg, _⟩ := h; cases hg
  | g :: R, h => by
    by_cases hg : (g.2.1 : Int) < r
    · have hR : ∃ y ∈ R, ¬ (y.2.1 : Int) < r := by
        obtain ⟨y, hy, h5⟩ := h
        rcases List.mem_cons.1 hy with rfl | hy
        · exact absurd hg h5
        · exact ⟨y, hy, h5⟩
      obtain ⟨x, h1, h2⟩ := gtp_at r R hR
      refine ⟨x, ?_, ?_⟩
      · rw [show ahd r (g :: R) = ahd r R + 1 by show (if _ then _ else _) = _; rw [if_pos hg]]
        simpa using h1
      · show (if _ then _ else _) = _
        rw [if_pos hg, h2]
    · refine ⟨g, ?_, ?_⟩
      · rw [show ahd r (g :: R) = 0 by show (if _ then _ else _) = _; rw [if_neg hg]]
        rfl
      · show (if _ then _ else _) = _
        rw [if_neg hg]
/-- A rune that is none stands for the one instead. -/
def instd (r : Int) : Int := if r < 0 ∨ 1114111 < r then 65533 else r
set_option maxHeartbeats 1000000 in
set_option maxRecDepth 100000 in
theorem get_any (B P K : Nat) (U : List (List UInt8)) (nv : Value) (po : Option Addr) (pc : Nat) (A : List Tr) (r : Int) (w : World) (h : DbAt B P K U nv (.slice po A.length pc) w) (ha : RdK w po (A.map rkT)) (hl : A.length ≤ 10000000) (hp : A.Pairwise fun x y => x.2.1 < y.2.1) (he : ∃ g ∈ A, g.2.1 = 1114111) :
    Calls Tryz.prog 24 #[.pointer (some ⟨P, 0, none⟩), .int .i32 r] w fun e w' => e = .returned (.int .i64 (gtp (instd r) A : Nat)) ∧ Below w.heap.size w w' := by
  have c2 := h.c2
  have hin : instd r ≤ 1114111 := by unfold instd; split <;> omega
  obtain ⟨x, hx, hg⟩ := gtp_at (instd r) A (by obtain ⟨g, h5, h6⟩ := he; exact ⟨g, h5, by omega⟩)
  have HS := hid (search_get po pc A (instd r) (ahd (instd r) A) w ha (by omega) (ahd_le _ A) (ahd_lo (instd r) A) (ahd_hi (instd r) A hp))
  have hPl := lt_of_heap h.hP
  have HPB := hid (show ∀ W, Below w.heap.size w W → W.cell? ⟨P, 2, none⟩ = some (.slice po A.length pc) from fun W hW => (hW.cell (p := ⟨P, 2, none⟩) hPl).trans c2)
  have hsl := (List.getElem?_eq_some_iff.1 hx).1
  have HAB := hid (show ∀ W, Below w.heap.size w W → ∃ a : Addr, po = some a ∧ W.cell? ⟨(a.add (ahd (instd r) A * 3)).block, (a.add (ahd (instd r) A * 3)).off + 2, none⟩ = some (.int .i64 (x.2.2 : Int)) from fun W hW => by
    obtain ⟨a, e1, _, _, _, e4⟩ := (ha.below hW) (ahd (instd r) A) (rkT x) (by rw [List.getElem?_map, hx]; rfl)
    exact ⟨a, e1, e4⟩)
  rw [hg]
  obtain ⟨s, hse⟩ : ∃ s, s = ahd (instd r) A := ⟨_, rfl⟩
  obtain ⟨n, hn⟩ : ∃ n, n = A.length := ⟨_, rfl⟩
  rw [← hse] at HS HAB hsl
  rw [← hn] at HS HPB c2 hsl hl
  have s1 : (s : Int) < (n : Int) := by omega
  have s0 : (0 : Int) ≤ (s : Int) := by omega
  clear h ha hp he hx hg hse hn hin
  by_cases h0 : r < 0
  · have hi : instd r = 65533 := by unfold instd; rw [if_pos (.inl h0)]
    rw [hi] at HS
    clear hi
    go_enter Tryz.func24, Tryz.ntmps24
    go_wp2_with fail
    refine HS.out.mono ?_
    rintro e w1 ⟨⟨d, rfl⟩, b1⟩
    have HB1 := hid b1
    obtain ⟨a, rfl, a2⟩ := HAB.out w1 b1
    have c3 := HPB.out w1 b1
    clear b1 HS c2
    go_wp2
    go_ret
    exact ⟨rfl, HB1.out⟩
  by_cases h1 : 1114111 < r
  · have hi : instd r = 65533 := by unfold instd; rw [if_pos (.inr h1)]
    rw [hi] at HS
    clear hi
    go_enter Tryz.func24, Tryz.ntmps24
    go_wp2_with fail
    refine HS.out.mono ?_
    rintro e w1 ⟨⟨d, rfl⟩, b1⟩
    have HB1 := hid b1
    obtain ⟨a, rfl, a2⟩ := HAB.out w1 b1
    have c3 := HPB.out w1 b1
    clear b1 HS c2
    go_wp2
    go_ret
    exact ⟨rfl, HB1.out⟩
  · have hi : instd r = r := by unfold instd; rw [if_neg (by omega)]
    rw [hi] at HS
    clear hi
    go_enter Tryz.func24, Tryz.ntmps24
    go_wp2_with fail
    refine HS.out.mono ?_
    rintro e w1 ⟨⟨d, rfl⟩, b1⟩
    have HB1 := hid b1
    obtain ⟨a, rfl, a2⟩ := HAB.out w1 b1
    have c3 := HPB.out w1 b1
    clear b1 HS c2
    go_wp2
    go_ret
    exact ⟨rfl, HB1.out⟩
end Go.Proofs.YtohhokjlgihbgaaGreatDoor
