/- EditNil's calls at a nil tree. -/
import Derived.Test.YtkjnaamlhkldmabGrOv
namespace Go.Proofs.Ytkjnaamlhkldmab
open Ev Go.RowKit
theorem hid0 {p : Prop} (h : p) : Hid p := h
def chkV (v : Value) : Value → AW → Bool := fun u _ => match v, u with
  | .bool a, .bool b => a == b
  | .int k a, .int m b => decide (k = m) && a == b
  | .string s, .string t => s.data.toList == t.data.toList
  | .slice none n c, .slice none m d => Nat.beq n m && Nat.beq c d
  | _, _ => false
theorem chkV_ok {v u : Value} {A : AW} {μ : Mu} {x : Value} (h : chkV v u A = true) (hx : VR μ u x) : x = v := by
  unfold chkV at h
  split at h
  · simp only [VR] at hx; subst hx; rw [eq_of_beq h]
  · simp only [VR] at hx; subst hx
    rw [Bool.and_eq_true] at h
    rw [of_decide_eq_true h.1, eq_of_beq h.2]
  · rename_i s t
    simp only [VR] at hx; subst hx
    have := eq_of_beq h
    obtain ⟨s⟩ := s; obtain ⟨t⟩ := t
    have e : s = t := Array.toList_inj.1 this
    rw [e]
  · simp only [VR] at hx; subst hx
    rw [Bool.and_eq_true] at h
    rw [Nat.eq_of_beq_eq_true h.1, Nat.eq_of_beq_eq_true h.2]
  · cases h
theorem plainV {f : FuncId} {args : List Value} {v : Value} (ha : flatL args = true) (h : runC (evG Try.prog same7 1000000 (evDraw Try.prog same7) ovGr 60) [] f args (chkV v) = true) (w : World) :
    Calls Try.prog f ⟨args⟩ w fun e w' => e = .returned v ∧ Below w.heap.size w w' :=
  (closed_memC (evG_ok same7_ok (fun _ hc => evDraw_ok mixed same7_ok hc) ovGr_ok 60) rfl ha h w (fun _ h => by cases h)).mono fun e w' ⟨hb, x, u, μ, A, he, hc, hv, _⟩ => by
    rw [chkV_ok hc hv] at he
    exact ⟨he, hb⟩
theorem c_live (w : World) : Calls Try.prog 10 #[] w fun e w' => e = .returned (.bool true) ∧ Below w.heap.size w w' := plainV (args := []) rfl (by kernel_rfl) w
theorem c_undo (w : World) : Calls Try.prog 17 #[.pointer none] w fun e w' => e = .returned (.bool false) ∧ Below w.heap.size w w' := plainV (args := [.pointer none]) rfl (by kernel_rfl) w
theorem c_num (w : World) : Calls Try.prog 9 #[.int .i64 0] w fun e w' => e = .returned (.int .i64 0) ∧ Below w.heap.size w w' := plainV (args := [.int .i64 0]) rfl (by kernel_rfl) w
theorem c_text (w : World) : Calls Try.prog 21 #[.pointer none] w fun e w' => e = .returned (.string ⟨#[]⟩) ∧ Below w.heap.size w w' := plainV (args := [.pointer none]) rfl (by kernel_rfl) w
theorem c_node (w : World) : Calls Try.prog 26 #[.pointer none] w fun e w' => e = .returned (.int .i64 0) ∧ Below w.heap.size w w' := plainV (args := [.pointer none]) rfl (by kernel_rfl) w
theorem c_len (w : World) : Calls Try.prog 27 #[.pointer none] w fun e w' => e = .returned (.int .i64 0) ∧ Below w.heap.size w w' := plainV (args := [.pointer none]) rfl (by kernel_rfl) w
theorem c_kids (w : World) : Calls Try.prog 29 #[.pointer none] w fun e w' => e = .returned (.slice none 0 0) ∧ Below w.heap.size w w' := plainV (args := [.pointer none]) rfl (by kernel_rfl) w
theorem c_equal (w : World) : Calls Try.prog 24 #[.agg #[.int .i64 0, .slice none 0 0], .agg #[.int .i64 0, .slice none 0 0]] w fun e w' => e = .returned (.bool true) ∧ Below w.heap.size w w' :=
  plainV (args := [.agg #[.int .i64 0, .slice none 0 0], .agg #[.int .i64 0, .slice none 0 0]]) rfl (by kernel_rfl) w
theorem c_redo (n : Int) (w : World) : Calls Try.prog 19 #[.pointer none, .int .i64 n] w fun e w' => e = .returned (.bool false) ∧ Below w.heap.size w w' := by
  have mixed := mixed
  have HB := hid0 (Below.refl w.heap.size w)
  go_enter Try.func19, Try.ntmps19
  go_wp2
  go_region_o
  all_goals (go_wp2; go_ret; exact ⟨rfl, by first | exact HB.out | exact HB.out.drew | exact HB.out.drew.drew⟩)
theorem c_go (n : Int) (w : World) : Calls Try.prog 22 #[.pointer none, .int .i64 n] w fun e w' => e = .returned (.tuple #[.agg #[.int .i64 0, .slice none 0 0], .int .i64 0]) ∧ Below w.heap.size w w' := by
  have HB := hid0 ((Below.refl w.heap.size w).alloc (Nat.le_refl _) (.cells #[.int .i64 0, .slice none 0 0] 24))
  have HC := hid0 (World.alloc_heap_new w (.cells #[.int .i64 0, .slice none 0 0] 24))
  go_enter Try.func22, Try.ntmps22
  go_wp2
  refine bodyPost_ret (v := .tuple #[.agg #[.int .i64 0, .slice none 0 0], .int .i64 0]) ?_ rfl ⟨rfl, HB.out⟩
  have h := HC.out
  have c0 : (w.alloc (.cells #[.int .i64 0, .slice none 0 0] 24)).cell? ⟨w.heap.size, 0, none⟩ = some (.int .i64 0) := by rw [Lib.cell_of_heap h]; rfl
  have c1 : (w.alloc (.cells #[.int .i64 0, .slice none 0 0] 24)).cell? ⟨w.heap.size, 1, none⟩ = some (.slice none 0 0) := by rw [Lib.cell_of_heap h]; rfl
  simp only [results, show Try.f22.results = #[.cell 4 24, .tmp 5] from rfl]
  go_simp
theorem c_do (a b : Value) (w : World) : Calls Try.prog 15 #[.pointer none, .agg #[a, b]] w fun e w' => e = .returned (.tuple #[.int .i64 0, .int .i64 0]) ∧ Below w.heap.size w w' := by
  have HB := hid0 ((Below.refl w.heap.size w).alloc (Nat.le_refl _) (.cells #[a, b] 24))
  go_enter Try.func15, Try.ntmps15
  go_wp2
  go_ret2
  exact ⟨rfl, HB.out⟩
end Go.Proofs.Ytkjnaamlhkldmab
