/- An automaton that came in, opened. -/
import Derived.Deep.SlicePairs
import Derived.Deep.Slices
import Derived.Deep.Strs
import Derived.ChangeSlices
import Derived.ChangeArms
import Derived.SizedLaws
import Derived.OpenShut
import Derived.Test.YtkmcbhdjecpmjaaDoorRows7
import Derived.Test.YtkmcbhdjecpmjaaDoorRdM
namespace Go.Proofs.YtkmcbhdjecpmjaaDoor
open Go.ChangeShapes Go.WideShapes Go.RowKit Go.Deep

theorem weights_all {H : Type} {P : Program} {e : TypeId} : ∀ {l : List (DataW H)} {d : DataW H} {n : Nat}, d ∈ l → n ∈ d.weights P e → n ∈ DataW.weightsAll P e l
  | _ :: _, _, _, .head _, hn => by simp only [DataW.weightsAll, List.mem_append]; exact Or.inl hn
  | _ :: _, _, _, .tail _ h, hn => by simp only [DataW.weightsAll, List.mem_append]; exact Or.inr (weights_all h hn)
theorem bytes3 : Tryd.prog.bytesOf 3 = 8 := by kernel_rfl
theorem bytes28 : Tryd.prog.bytesOf 28 = 24 := by kernel_rfl
theorem cell_lt {W : World} {a : Addr} {v : Value} (h : W.cell? a = some v) : a.block < W.heap.size := World.block_lt_of_cell? W a h

variable {H : Type} {enc : TypeId × Value → H} {W : World}
theorem ints_open {n : Nat} {v : Value} {x : DataW H × List MemPlace} (h : DataW.trod enc Tryd.prog W 0 (fun _ => true) true n 28 [v] = some x) (hw : ∀ q ∈ x.1.weights Tryd.prog 28, q ≤ reachBytes) :
    ∃ (ao : Option Addr) (cap : Nat) (l : List Int), v = .slice ao l.length cap ∧ RdI W ao l ∧ l.length ≤ most ∧ l.length ≤ cap ∧ (ao = none → cap = 0) := by
  rcases Go.ChangeShapes.open_ints Tryd.underlying28 Tryd.underlying3 (by kernel_rfl) h with ⟨hv, _⟩ | ⟨a, len, cap, zs, hv, _, hlc, _, hzl, hx, hcells, _⟩
  · cases hv
    exact ⟨none, 0, [], rfl, fun k z hk => (by cases hk), by unfold most; simp, Nat.le_refl _, fun _ => rfl⟩
  · cases hv
    have hle : len ≤ zs.length := by rw [hzl]; split <;> omega
    have hlen : (zs.take len).length = len := by rw [List.length_take]; omega
    refine ⟨some a, cap, zs.take len, by rw [hlen], fun k z hk => ?_, ?_, by rw [hlen]; exact hlc, fun h => by cases h⟩
    · rw [List.getElem?_take] at hk
      split at hk
      · have hkz : k < zs.length := (List.getElem?_eq_some_iff.1 hk).1
        have hc := hcells k hkz
        have hy : zs.getD k 0 = z := by simp [List.getD, hk]
        rw [hy] at hc
        have hlt := cell_lt hc
        rw [add_blk] at hlt
        exact ⟨a, rfl, hlt, hc⟩
      · cases hk
    · rw [hlen]
      have h1 := hw (zs.length * 8) (by
        rw [hx]
        have e : (lits .i64 (zs.take len) : List (DataW H)).length + (lits .i64 (zs.drop len) : List (DataW H)).length = zs.length := by simp [lits]; omega
        simp only [DataW.weights, Tryd.underlying28, bytes3, e]
        exact List.mem_cons_self)
      have h2 := reachBytes_lt
      unfold most
      have h3 : reachBytes ≤ 140737488355328 := by decide
      omega
theorem pair_le {n m b : Nat} (h : (n + m) * b ≤ reachBytes) (hb : 8 ≤ b) : n ≤ most := by
  have h3 : reachBytes ≤ 140737488355328 := by decide
  have h4 : n * 8 ≤ (n + m) * b := Nat.mul_le_mul (by omega) hb
  unfold most
  omega
theorem rows_open {n : Nat} {v : Value} {x : DataW H × List MemPlace} (h : DataW.trod enc Tryd.prog W 0 (fun _ => true) true n 30 [v] = some x) (hw : ∀ q ∈ x.1.weights Tryd.prog 30, q ≤ reachBytes) :
    ∃ (ao : Option Addr) (cap : Nat) (R : Rw), v = .slice ao R.length cap ∧ RdR W ao R ∧ R.length ≤ most := by
  rcases open_slice1 Tryd.underlying30 (by kernel_rfl) h with ⟨hv, _⟩ | ⟨a, len, cap, m', n, V, D, Pl, hv, _, hlc, _, hmm, hd, hcells⟩
  · cases hv
    exact ⟨none, 0, [], rfl, fun k z hk => (by cases hk), by unfold most; simp⟩
  · cases hv
    have hm' : m' = cap := hmm
    have hd' : x.1 = .slice ((List.range len).map D) ((List.range (m' - len)).map fun j => D (len + j)) := congrArg Prod.fst hd
    rw [hd'] at hw
    have hex : ∀ i : Fin len, ∃ g : List Int, (∃ co cc, V i.1 = .slice co g.length cc ∧ RdI W co g) ∧ g.length ≤ most := fun i => by
      obtain ⟨_, h0⟩ := hcells i.1 (by omega)
      obtain ⟨co, cc, l, e0, e1, e2, _, _⟩ := ints_open h0 fun q hq => hw q (by
        simp only [DataW.weights, Tryd.underlying30, List.mem_cons, List.mem_append]
        exact Or.inr (Or.inl (weights_all (d := D i) (List.mem_map.2 ⟨i.1, List.mem_range.2 i.2, rfl⟩) hq)))
      exact ⟨l, ⟨co, cc, e0, e1⟩, e2⟩
    refine ⟨some a, cap, List.ofFn fun i => Classical.choose (hex i), by rw [List.length_ofFn], fun k g hk => ?_, ?_⟩
    · rw [List.getElem?_ofFn] at hk
      split at hk
      · rename_i hil
        cases hk
        obtain ⟨⟨co, cc, e0, e1⟩, e2⟩ := Classical.choose_spec (hex ⟨k, hil⟩)
        obtain ⟨c0, _⟩ := hcells k (by omega)
        have hlt := cell_lt c0
        rw [add_blk] at hlt
        exact ⟨a, rfl, hlt, co, cc, c0.trans (congrArg some e0), e1, e2⟩
      · cases hk
    · rw [List.length_ofFn]
      refine pair_le (m := m' - len) (b := 24) (hw _ ?_) (by omega)
      simp only [DataW.weights, Tryd.underlying30, bytes28, List.length_map, List.length_range]
      exact List.mem_cons_self
/-- An automaton as the cells of a struct. -/
theorem dfa_open {n : Nat} {cs : List Value} {x : DataW H × List MemPlace} (hl : cs.length = 3) (h : DataW.trod enc Tryd.prog W 0 (fun _ => true) true n 32 cs = some x) (hw : ∀ q ∈ x.1.weights Tryd.prog 32, q ≤ reachBytes) :
    ∃ (c : Int) (no to : Option Addr) (nc tc : Nat) (R : Rw) (T : List Int), cs = [.int .i64 c, .slice no R.length nc, .slice to T.length tc] ∧ DRd W no R.length to T.length R T := by
  match cs, hl with
  | [v0, v1, v2], _ =>
  obtain ⟨y0, y1, y2, m, hx, _, h0, h1, h2⟩ := trod_struct3 Tryd.underlying32 h
  have e0 : ([v0, v1, v2].drop 0).take (Tryd.prog.cellsOf 3) = [v0] := by rw [show Tryd.prog.cellsOf 3 = 1 by kernel_rfl]; rfl
  have e1 : ([v0, v1, v2].drop 1).take (Tryd.prog.cellsOf 30) = [v1] := by rw [show Tryd.prog.cellsOf 30 = 1 by kernel_rfl]; rfl
  have e2 : ([v0, v1, v2].drop 2).take (Tryd.prog.cellsOf 28) = [v2] := by rw [show Tryd.prog.cellsOf 28 = 1 by kernel_rfl]; rfl
  have h0' : DataW.trod enc Tryd.prog W 0 (fun _ => true) true m 3 (([v0, v1, v2].drop 0).take (Tryd.prog.cellsOf 3)) = some y0 := h0
  have h1' : DataW.trod enc Tryd.prog W 0 (fun _ => true) true m 30 (([v0, v1, v2].drop 1).take (Tryd.prog.cellsOf 30)) = some y1 := h1
  have h2' : DataW.trod enc Tryd.prog W 0 (fun _ => true) true m 28 (([v0, v1, v2].drop 2).take (Tryd.prog.cellsOf 28)) = some y2 := h2
  rw [e0] at h0'
  rw [e1] at h1'
  rw [e2] at h2'
  have hww : ∀ q, q ∈ y1.1.weights Tryd.prog 30 ∨ q ∈ y2.1.weights Tryd.prog 28 → q ≤ reachBytes := fun q hq => hw q (by
    rw [hx]
    simp only [DataW.weights, Tryd.underlying32, DataW.weightsEach, List.map_cons, List.mem_append]
    rcases hq with h | h
    · exact .inr (.inl h)
    · exact .inr (.inr (.inl h)))
  obtain ⟨no, nc, R, g0, g1, g2⟩ := rows_open h1' fun q hq => hww q (.inl hq)
  obtain ⟨to, tc, T, k0, k1, k2, _, _⟩ := ints_open h2' fun q hq => hww q (.inr hq)
  obtain ⟨c, hc, _⟩ := DataW.trod_int Tryd.underlying3 h0'
  injection hc with hc' _
  exact ⟨c, no, to, nc, tc, R, T, by rw [g0, hc', k0], ⟨rfl, rfl, g1, k1, g2, k2⟩⟩
end Go.Proofs.YtkmcbhdjecpmjaaDoor
/- Bytes that came in, opened. -/
namespace Go.Proofs.YtkmcbhdjecpmjaaDoor
open Go.ChangeShapes Go.WideShapes Go.RowKit Go.Deep

theorem rdu_own {B n cap : Nat} {ao : Option Addr} {U : List Nat} {w : World} (h : w.ownsRow B 5 1 (.slice ao n cap) n (u8n U)) : RdU w ao U := by
  intro k c hk
  have hn : U.length = n := by have := h.1; rw [u8n_len] at this; omega
  have hkl := (List.getElem?_eq_some_iff.1 hk).1
  rcases h.2 with ⟨h', h0⟩ | ⟨q, cap', cur, h', hb, hg, hnc, hcm, hcs, htk⟩
  · omega
  · simp only [Value.slice.injEq, true_and] at h'
    obtain ⟨rfl, rfl⟩ := h'
    refine ⟨_, rfl, (h.lt q rfl).2, ?_⟩
    rw [Addr.add_lit, Nat.zero_add, h.cellAt _ (by omega)]
    unfold u8n
    rw [List.getElem?_map, hk]; rfl
/-- A slice of bytes that came in. -/
theorem bytes_open {H : Type} {enc : TypeId × Value → H} {W : World} {v : Value} {d : DataW H} {ps : List MemPlace} (h : DataW.Trod enc Tryd.prog W 0 (fun _ => true) true 59 v d ps) (hv : ∃ a b c, v = .slice a b c) :
    ∃ (ao : Option Addr) (cap : Nat) (b : List Nat), v = .slice ao b.length cap ∧ (ao = none → cap = 0) ∧ RdU W ao b ∧ (∀ c ∈ b, c < 256) ∧ b.length ≤ 9223372036854775807 ∧ b.length ≤ cap := by
  obtain ⟨sa, sl, sc, rfl⟩ := hv
  obtain ⟨m, hm⟩ := h
  rcases Go.ChangeShapes.open_ints Tryd.underlying59 Tryd.underlying5 (by kernel_rfl) hm with ⟨hv, _⟩ | ⟨a, len, cap, zs, hv, _, hlc, hcm, hzl, _, hcells, hwf⟩
  · have hv' : [Value.slice sa sl sc] = [.slice none 0 0] := hv
    cases hv'
    exact ⟨none, 0, [], rfl, fun _ => rfl, fun k z hk => (by cases hk), fun c hc => (by cases hc), by decide, Nat.le_refl _⟩
  · have hv' : [Value.slice sa sl sc] = [.slice (some a) len cap] := hv
    cases hv'
    have hle : sl ≤ zs.length := by rw [hzl]; split <;> omega
    have hcm' : sc ≤ 9223372036854775807 := by unfold maxLen at hcm; omega
    have hrg : ∀ z ∈ zs, 0 ≤ z ∧ z < 256 := fun z hz => by
      have h1 : (IntKind.u8.min ≤ z ∧ z ≤ IntKind.u8.max) := by simpa [Lit.wf] using hwf z hz
      have h2 : IntKind.u8.min = 0 := by decide
      have h3 : IntKind.u8.max = 255 := by decide
      rw [h2, h3] at h1
      omega
    refine ⟨some a, sc, (zs.take sl).map Int.toNat, by rw [List.length_map, List.length_take]; congr 1; omega, fun h => (by cases h), fun k c hk => ?_, fun c hc => ?_, by rw [List.length_map, List.length_take]; omega, by rw [List.length_map, List.length_take]; omega⟩
    · rw [List.getElem?_map, List.getElem?_take] at hk
      split at hk
      · cases hz : zs[k]? with
        | none => rw [hz] at hk; cases hk
        | some y =>
          rw [hz] at hk
          cases hk
          have hkl : k < zs.length := (List.getElem?_eq_some_iff.1 hz).1
          have hc := hcells k hkl
          have hy : zs.getD k 0 = y := by simp [List.getD, hz]
          rw [hy] at hc
          have hlt := World.block_lt_of_cell? W _ hc
          rw [add_blk] at hlt
          have hr := hrg y (List.mem_of_getElem? hz)
          exact ⟨a, rfl, hlt, by rw [Int.toNat_of_nonneg hr.1]; exact hc⟩
      · cases hk
    · obtain ⟨z, hz, rfl⟩ := List.mem_map.1 hc
      have hr := hrg z (List.mem_of_mem_take hz)
      omega
end Go.Proofs.YtkmcbhdjecpmjaaDoor
