/- The contracts of Get (where there is no rune), Rest and Blocks (package table). -/
import Derived.Test.YtljlhlcoaajggaaTbl
namespace Go.Proofs.Ytljlhlcoaajggaa
open Go.RowKit Go.Maps Go.WideMaps

theorem rest_row {w : World} {T rest : Nat} {fs : List Nat} {bv : Value} (h : w.heap[T]? = some (.cells (tbc fs bv rest).toArray 79 (0, 0))) (hf : fs.length = 8704) : w.cell? ⟨T, 8705, none⟩ = some (.int .u8 (rest : Int)) := cell_row w T 8705 _ 79 _ h (by
  have hl : (u16n fs).length = 8704 := by rw [u16n_len, hf]
  unfold tbc
  rw [List.getElem?_append_right (by omega), hl]
  rfl)
theorem TbAt.rest_cell {B T rest : Nat} {F : List (List Nat)} {w : World} (h : TbAt B T F rest w) : w.cell? ⟨T, 8705, none⟩ = some (.int .u8 (rest : Int)) := by
  obtain ⟨g, cap, hT, hr, ho, h8, hF⟩ := h
  exact rest_row hT (by rw [fst_len]; exact hF)
theorem get_out (B T rest : Nat) (F : List (List Nat)) (x : Int) (w : World) (h : TbAt B T F rest w) (hr : rest < 256) (hx : x < 0 ∨ 1114111 < x) :
    Calls Try.prog 34 #[.pointer (some ⟨T, 0, none⟩), .int .i32 x] w fun e w' => e = .returned (.int .i64 (rest : Int)) ∧ w' = w := by
  have d1 := h.rest_cell
  have e4 : IntKind.i64.wrap (rest : Int) = (rest : Int) := by rw [IntKind.wrap_i64]; omega
  clear h
  by_cases h0 : x < 0
  · clear hx
    go_enter Try.func34, Try.ntmps34
    go_wp2
    go_ret
    exact ⟨rfl, rfl⟩
  · have h1 : 1114111 < x := by omega
    clear hx
    go_enter Try.func34, Try.ntmps34
    go_wp2
    go_ret
    exact ⟨rfl, rfl⟩
theorem rest_any (B T rest : Nat) (F : List (List Nat)) (w : World) (h : TbAt B T F rest w) (hr : rest < 256) :
    Calls Try.prog 33 #[.pointer (some ⟨T, 0, none⟩)] w fun e w' => e = .returned (.int .i64 (rest : Int)) ∧ w' = w := by
  have d1 := h.rest_cell
  have e4 : IntKind.i64.wrap (rest : Int) = (rest : Int) := by rw [IntKind.wrap_i64]; omega
  clear h
  go_enter Try.func33, Try.ntmps33
  go_wp2
  go_ret
  exact ⟨rfl, rfl⟩
theorem blocks_any (B T rest : Nat) (F : List (List Nat)) (w : World) (h : TbAt B T F rest w) :
    Calls Try.prog 15 #[.pointer (some ⟨T, 0, none⟩)] w fun e w' => e = .returned (.int .i64 ((uq F).length : Int)) ∧ w' = w := by
  obtain ⟨g, cap, hT, hr, ho, h8, hF⟩ := h
  have d1 : w.cell? ⟨T, 8704, none⟩ = some (.slice (some ⟨g, 0, none⟩) (uq F).length cap) := tb_row hT (by rw [fst_len]; exact hF)
  clear hT hr
  go_enter Try.func15, Try.ntmps15
  go_wp2
  go_ret
  exact ⟨rfl, rfl⟩
end Go.Proofs.Ytljlhlcoaajggaa
