/- The contract of slices.BinarySearchFunc at ranges and apart. -/
import Derived.Test.YtljlhlcoaajggaaSmall
import Derived.Deep.RegionHeld3
namespace Go.Proofs.Ytljlhlcoaajggaa
open Go.RowKit

theorem RdK.alloc {w : World} {ao : Option Addr} {l : List Rk} (h : RdK w ao l) (o : Obj) : RdK (w.alloc o) ao l := h.below ((Below.refl _ _).alloc (Nat.le_refl _) o)
theorem apt_lt (a b : Rk) : apt a b < 0 ↔ apt a b = -1 := by
  unfold apt
  split
  · simp
  · split <;> simp

/-- Whether a range shares a number with another. -/
def hit (o : Option Rk) (g : Rk) : Bool := match o with | some x => apt x g == 0 | none => false

set_option maxRecDepth 100000 in
set_option maxHeartbeats 3000000 in
theorem search_any (ao : Option Addr) (ac : Nat) (L : List Rk) (g : Rk) (s : Nat) (w : World) (ha : RdK w ao L) (hl : L.length ≤ 1000000000) (hs : s ≤ L.length)
    (h1 : ∀ k x, k < s → L[k]? = some x → apt x g = -1) (h2 : ∀ k x, s ≤ k → L[k]? = some x → apt x g ≠ -1) :
    Calls Try.prog 36 #[.slice ao L.length ac, rkv g, .func (.func 37) #[] #[]] w fun e w' => e = .returned (.tuple #[.int .i64 (s : Int), .bool (hit L[s]? g)]) ∧ Below w.heap.size w w' := by
  obtain ⟨g0, g1, g2⟩ := g
  have HA := hid (ha.alloc (.cells #[.int .i32 g0, .int .i32 g1, .int .i64 g2] 36))
  have H1 := hid h1
  have H2 := hid h2
  have HB0 := hid (show Below w.heap.size w (w.alloc (.cells #[.int .i32 g0, .int .i32 g1, .int .i64 g2] 36)) from (Below.refl _ _).alloc (Nat.le_refl _) _)
  have HG := hid (heap_alloc_new w (.cells #[.int .i32 g0, .int .i32 g1, .int .i64 g2] 36))
  have HS0 := hid (World.size_alloc w (.cells #[.int .i32 g0, .int .i32 g1, .int .i64 g2] 36))
  unfold rkv
  clear ha h1 h2
  go_enter Try.func36, Try.ntmps36
  go_wp2
  obtain ⟨G, hG⟩ : ∃ G, G = w.heap.size := ⟨_, rfl⟩
  obtain ⟨w0, hw0⟩ : ∃ w0, w0 = w.alloc (.cells #[.int .i32 g0, .int .i32 g1, .int .i64 g2] 36) := ⟨_, rfl⟩
  rw [← hw0] at HA HB0 HG HS0 ⊢
  rw [← hG] at HB0 HG HS0 ⊢
  have HGE := hid hG
  clear hw0 hG
  go_loopw [9, 10] (fun x y wr => ∃ i j : Nat, x = .int .i64 (i : Int) ∧ y = .int .i64 (j : Int) ∧ i ≤ s ∧ s ≤ j ∧ j ≤ L.length ∧ Hid (Below w0.heap.size w0 wr)) (fun x y _ => (intOf y).toNat - (intOf x).toNat)
  case atStart => exact ⟨0, L.length, rfl, rfl, by omega, hs, by omega, Below.refl _ _⟩
  case round =>
    obtain ⟨i, j, rfl, rfl, hi, hj, hjn, HB⟩ := hrel
    have hwz := HB.out.size
    have hGz : G < wr.heap.size := by have h5 := HS0.out; omega
    have hGw := (HB.out.block G (by have h5 := HS0.out; omega)).trans HG.out
    have t0 : wr.cell? ⟨G, 0, none⟩ = some (.int .i32 g0) := by rw [cell_of_row wr G 0 _ 36 (0, 0) hGw]; rfl
    have t1 : wr.cell? ⟨G, 1, none⟩ = some (.int .i32 g1) := by rw [cell_of_row wr G 1 _ 36 (0, 0) hGw]; rfl
    have t2 : wr.cell? ⟨G, 2, none⟩ = some (.int .i64 g2) := by rw [cell_of_row wr G 2 _ 36 (0, 0) hGw]; rfl
    clear hGw
    by_cases hlt : i < j
    · have hlt' : (i : Int) < (j : Int) := by omega
      obtain ⟨m, hm⟩ : ∃ m, m = (i + j) / 2 := ⟨_, rfl⟩
      have hm1 : m < j := by omega
      have hm2 : i ≤ m := by omega
      have hmn : m < L.length := by omega
      obtain ⟨a, rfl, ha, a0, a1, a2⟩ := (HA.out.below HB.out) m L[m] (List.getElem?_eq_getElem hmn)
      have HX := hid (List.getElem?_eq_getElem hmn)
      have b1 : (m : Int) < (L.length : Int) := by omega
      have b0 : (0 : Int) ≤ (m : Int) := by omega
      have e1 : IntKind.i64.wrap ((i : Int) + (j : Int)) = ((i + j : Nat) : Int) := by rw [IntKind.wrap_i64]; omega
      have e2 : IntKind.u64.wrap ((i + j : Nat) : Int) = ((i + j : Nat) : Int) := by rw [IntKind.wrap_u64]; omega
      have HMM := hid hm
      obtain ⟨gx, hx⟩ : ∃ gx, L[m] = gx := ⟨_, rfl⟩
      rw [hx] at a0 a1 a2 HX
      obtain ⟨z0, z1, z2⟩ := gx
      dsimp only at a0 a1 a2
      have hab : (a.add (m * 3)).block < wr.heap.size := by rw [add_blk]; exact ha
      clear hx hm
      go_wp2
      rw [show ((i : Int) + (j : Int)) / 2 = (m : Int) from by have h5 := HMM.out; omega]
      go_region_held3 (fun w' => w'.cell? (a.add (m * 3)) = some (.int .i32 z0) ∧ w'.cell? ⟨(a.add (m * 3)).block, (a.add (m * 3)).off + 1, none⟩ = some (.int .i32 z1) ∧ w'.cell? ⟨(a.add (m * 3)).block, (a.add (m * 3)).off + 2, none⟩ = some (.int .i64 z2) ∧ w'.cell? ⟨G, 0, none⟩ = some (.int .i32 g0) ∧ w'.cell? ⟨G, 1, none⟩ = some (.int .i32 g1) ∧ w'.cell? ⟨G, 2, none⟩ = some (.int .i64 g2)) (first | exact HS2.out | go_keep)
        ((go_at_call 37; refine (apart_any (z0, z1, z2) (g0, g1, g2) _).mono ?_; rintro e w2 ⟨rfl, hb2⟩; have HS2 := hid (show w2.cell? (a.add (m * 3)) = some (.int .i32 z0) ∧ w2.cell? ⟨(a.add (m * 3)).block, (a.add (m * 3)).off + 1, none⟩ = some (.int .i32 z1) ∧ w2.cell? ⟨(a.add (m * 3)).block, (a.add (m * 3)).off + 2, none⟩ = some (.int .i64 z2) ∧ w2.cell? ⟨G, 0, none⟩ = some (.int .i32 g0) ∧ w2.cell? ⟨G, 1, none⟩ = some (.int .i32 g1) ∧ w2.cell? ⟨G, 2, none⟩ = some (.int .i64 g2) from ⟨(hb2.cell (p := a.add (m * 3)) hab).trans a0, (hb2.cell (p := ⟨(a.add (m * 3)).block, (a.add (m * 3)).off + 1, none⟩) hab).trans a1, (hb2.cell (p := ⟨(a.add (m * 3)).block, (a.add (m * 3)).off + 2, none⟩) hab).trans a2, (hb2.cell (p := ⟨G, 0, none⟩) hGz).trans t0, (hb2.cell (p := ⟨G, 1, none⟩) hGz).trans t1, (hb2.cell (p := ⟨G, 2, none⟩) hGz).trans t2⟩); have HB2 := hid (HB.out.trans ((show Below w0.heap.size wr w2 from (show Below w0.heap.size wr wr.drew from ⟨rfl, rfl, rfl, Nat.le_refl _, fun _ _ => rfl⟩).trans (hb2.mono hwz))))))
      have HZ1 := hid (show apt (z0, z1, z2) (g0, g1, g2) < 0 → m < s from fun hz => by
        rcases Nat.lt_or_ge m s with h5 | h5
        · exact h5
        · exact absurd ((apt_lt _ _).1 hz) (H2.out m _ h5 HX.out))
      have HZ2 := hid (show ¬ apt (z0, z1, z2) (g0, g1, g2) < 0 → s ≤ m from fun hz => by
        rcases Nat.lt_or_ge m s with h5 | h5
        · exact absurd ((apt_lt _ _).2 (H1.out m _ h5 HX.out)) hz
        · exact h5)
      obtain ⟨t, ht⟩ : ∃ t, t = apt (z0, z1, z2) (g0, g1, g2) := ⟨_, rfl⟩
      rw [← ht] at HZ1 HZ2 ⊢
      clear ht
      have ewm : IntKind.i64.wrap ((m : Int) + 1) = (m : Int) + 1 := by rw [IntKind.wrap_i64]; omega
      by_cases hz : t < 0
      · have h5 := HZ1.out hz
        go_wp2
        go_roundw
        case rel => exact ⟨m + 1, j, by go_num, rfl, by omega, by omega, by omega, HB2⟩
        case measure => simp [intOf]; omega
      · have h5 := HZ2.out hz
        go_wp2
        go_roundw
        case rel => exact ⟨i, m, rfl, rfl, by omega, by omega, by omega, HB2⟩
        case measure => simp [intOf]; omega
    · have hij : i = s := by omega
      subst hij
      have hlt' : ¬ (i : Int) < (j : Int) := by omega
      by_cases hn : i < L.length
      · obtain ⟨a, rfl, ha, a0, a1, a2⟩ := (HA.out.below HB.out) i L[i] (List.getElem?_eq_getElem hn)
        have HX := hid (List.getElem?_eq_getElem hn)
        have b1 : (i : Int) < (L.length : Int) := by omega
        have b0 : (0 : Int) ≤ (i : Int) := by omega
        obtain ⟨gx, hx⟩ : ∃ gx, L[i] = gx := ⟨_, rfl⟩
        rw [hx] at a0 a1 a2 HX
        obtain ⟨z0, z1, z2⟩ := gx
        dsimp only at a0 a1 a2
        have hab : (a.add (i * 3)).block < wr.heap.size := by rw [add_blk]; exact ha
        clear hx
        go_wp2
        go_region_held3 (fun w' => w'.cell? (a.add (i * 3)) = some (.int .i32 z0) ∧ w'.cell? ⟨(a.add (i * 3)).block, (a.add (i * 3)).off + 1, none⟩ = some (.int .i32 z1) ∧ w'.cell? ⟨(a.add (i * 3)).block, (a.add (i * 3)).off + 2, none⟩ = some (.int .i64 z2) ∧ w'.cell? ⟨G, 0, none⟩ = some (.int .i32 g0) ∧ w'.cell? ⟨G, 1, none⟩ = some (.int .i32 g1) ∧ w'.cell? ⟨G, 2, none⟩ = some (.int .i64 g2)) (first | exact HS2.out | go_keep)
          ((go_at_call 37; refine (apart_any (z0, z1, z2) (g0, g1, g2) _).mono ?_; rintro e w2 ⟨rfl, hb2⟩; have HS2 := hid (show w2.cell? (a.add (i * 3)) = some (.int .i32 z0) ∧ w2.cell? ⟨(a.add (i * 3)).block, (a.add (i * 3)).off + 1, none⟩ = some (.int .i32 z1) ∧ w2.cell? ⟨(a.add (i * 3)).block, (a.add (i * 3)).off + 2, none⟩ = some (.int .i64 z2) ∧ w2.cell? ⟨G, 0, none⟩ = some (.int .i32 g0) ∧ w2.cell? ⟨G, 1, none⟩ = some (.int .i32 g1) ∧ w2.cell? ⟨G, 2, none⟩ = some (.int .i64 g2) from ⟨(hb2.cell (p := a.add (i * 3)) hab).trans a0, (hb2.cell (p := ⟨(a.add (i * 3)).block, (a.add (i * 3)).off + 1, none⟩) hab).trans a1, (hb2.cell (p := ⟨(a.add (i * 3)).block, (a.add (i * 3)).off + 2, none⟩) hab).trans a2, (hb2.cell (p := ⟨G, 0, none⟩) hGz).trans t0, (hb2.cell (p := ⟨G, 1, none⟩) hGz).trans t1, (hb2.cell (p := ⟨G, 2, none⟩) hGz).trans t2⟩); have HB2 := hid (HB.out.trans ((show Below w0.heap.size wr w2 from (show Below w0.heap.size wr wr.drew from ⟨rfl, rfl, rfl, Nat.le_refl _, fun _ _ => rfl⟩).trans (hb2.mono hwz))))))

        have HH := hid (show hit L[i]? (g0, g1, g2) = (apt (z0, z1, z2) (g0, g1, g2) == 0) by rw [HX.out]; rfl)
        have HFB := hid (show Below w.heap.size w w2 by have h5 := HGE.out; rw [← h5]; exact HB0.out.trans (HB2.out.mono (by have h6 := HS0.out; omega)))
        obtain ⟨b, hb⟩ : ∃ b, b = (apt (z0, z1, z2) (g0, g1, g2) == 0) := ⟨_, rfl⟩
        rw [← hb] at HH ⊢
        clear hb
        go_wp2
        go_ret2
        exact ⟨by rw [HH.out]; rfl, HFB.out⟩
      · have hn' : ¬ (i : Int) < (L.length : Int) := by omega
        have HH := hid (show hit L[i]? (g0, g1, g2) = false by rw [List.getElem?_eq_none (by omega)]; rfl)
        have HFB := hid (show ∀ n, Below w.heap.size w (wr.drewN n) from fun n => by have h5 := HGE.out; rw [← h5]; exact (HB0.out.trans (HB.out.mono (by have h6 := HS0.out; omega))).trans ⟨rfl, rfl, rfl, Nat.le_refl _, fun _ _ => rfl⟩)
        go_wp2
        go_quiet (fail)
        go_wp2
        go_ret2
        exact ⟨by rw [HH.out]; rfl, HFB.out _⟩
end Go.Proofs.Ytljlhlcoaajggaa
