/- How long a slice of ranges that came in can be. -/
import Derived.Test.YtfahbdlcokoghaaDoorLaid
import Derived.SizedLaws
namespace Go.Proofs.YtfahbdlcokoghaaDoor
open Go.ChangeShapes Go.WideShapes Go.ChangeAt Go.RowKit Go.Deep

theorem bytes30 : Tryd.prog.bytesOf 30 = 8 := by kernel_rfl
/-- A slice of ranges that came in, with its reach. -/
theorem ranges_size {H : Type} {enc : TypeId × Value → H} {W : World} {lo : Option Addr} {lc : Nat} {l : List Rg} {d : DataW H} {ps : List MemPlace} (h : DataW.Trod enc Tryd.prog W 0 (fun _ => true) true 22 (.slice lo l.length lc) d ps)
    (hsz : ∀ q ∈ d.weights Tryd.prog 22, q ≤ reachBytes) : l.length ≤ 1125899906842624 := by
  obtain ⟨m, hm⟩ := h
  rcases open_slice_pairs Tryd.underlying22 Tryd.underlying30 (by kernel_rfl) rfl rfl (by kernel_rfl) (by kernel_rfl) hm with ⟨hv, _⟩ | ⟨a, len, cap, m', n, V0, V1, D0, D1, P0, P1, hv, _, hlc, _, hmm, hd, hcells⟩
  · have hv' : [Value.slice lo l.length lc] = [.slice none 0 0] := hv
    injection hv' with hv' _
    injection hv' with _ e _
    omega
  · have hv' : [Value.slice lo l.length lc] = [.slice (some a) len cap] := hv
    injection hv' with hv' _
    injection hv' with _ e _
    have hd' : d = .slice ((List.range len).map fun i => .agg [D0 i, D1 i]) ((List.range (m' - len)).map fun j => .agg [D0 (len + j), D1 (len + j)]) := congrArg Prod.fst hd
    have hq : (len + (m' - len)) * 8 ∈ d.weights Tryd.prog 22 := by
      rw [hd']
      simp only [DataW.weights, Tryd.underlying22, bytes30, List.length_map, List.length_range]
      exact List.mem_cons_self
    have h1 := hsz _ hq
    have hr := reachBytes_lt
    omega
end Go.Proofs.YtfahbdlcokoghaaDoor
