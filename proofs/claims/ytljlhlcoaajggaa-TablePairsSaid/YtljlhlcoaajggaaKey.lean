/- A block of classes as a map's key. -/
import Derived.Test.YtljlhlcoaajggaaNum
import Derived.Test.YtljlhlcoaajggaaDictMath
import Derived.WideKeyArr2
import Derived.Maps.Own
import Derived.Maps.OwnSet
namespace Go.Proofs.Ytljlhlcoaajggaa
open Go.RowKit Go.Maps Go.WideMaps

theorem Try.cells82 : Try.prog.cellsOf 82 = 128 := by kernel_rfl
theorem arr82 : ArrKey Try.prog 82 5 128 := ⟨Try.underlying82, by kernel_rfl, by kernel_rfl, Try.cells82⟩
theorem law82 : Keyed Try.prog 82 := Keyed.of_law arr82.law
theorem types_some : ∃ m, Try.prog.types.size = m + 1 := ⟨145, by kernel_rfl⟩
def blk (b : List Nat) : Value := .agg (u8n b).toArray
theorem mapM_some {α β : Type} (f : α → Option β) (g : α → β) : ∀ L : List α, (∀ x ∈ L, f x = some (g x)) → L.mapM f = some (L.map g)
  | [], _ => rfl
  | x :: L, h => by
    rw [List.mapM_cons, h x (by simp), mapM_some f g L (fun y hy => h y (by simp [hy]))]
    rfl
theorem range_map {β : Type} (b : List Nat) (g : Nat → β) : (List.range b.length).map (fun i => g (b.getD i 0)) = b.map g := by
  apply List.ext_getElem?
  intro i
  by_cases h : i < b.length
  · simp [h, List.getD]
  · simp [Nat.le_of_not_lt h]
theorem drop_one (b : List Nat) (i : Nat) (h : i < b.length) : ((u8n b).drop (i * 1)).take 1 = [.int .u8 ((b.getD i 0 : Nat) : Int)] := by
  rw [Nat.mul_one, List.drop_eq_getElem_cons (by rw [u8n_len]; exact h)]
  simp [u8n, List.getD, h]
theorem flat_ones (b : List Nat) : (b.map fun c : Nat => [Lit.int .u8 (c : Int)]).flatten = b.map fun c : Nat => Lit.int .u8 (c : Int) := by
  induction b with
  | nil => rfl
  | cons a r ih => simp [ih]
theorem key_one (c : Nat) (h : c < 256) : (Lit.int .u8 (c : Int)).keyBytes = [UInt8.ofNat c] := by
  have e : ((c : Int) % 2 ^ IntKind.u8.bits).toNat = c := by
    rw [show (2 : Int) ^ IntKind.u8.bits = 256 by decide]
    omega
  show bytesBE 1 _ = _
  rw [e]
  show [UInt8.ofNat (c % 256)] = _
  rw [Nat.mod_eq_of_lt h]
theorem key_all : ∀ b : List Nat, ok256 b → keyBytes (b.map fun c : Nat => Lit.int .u8 (c : Int)) = b.map UInt8.ofNat
  | [], _ => rfl
  | a :: r, h => by
    have ih := key_all r (fun c hc => h c (by simp [hc]))
    unfold keyBytes at ih ⊢
    rw [List.map_cons, List.flatMap_cons, ih, key_one a (h a (by simp))]
    rfl
theorem wf_u8 (c : Nat) (h : c < 256) : (Lit.int .u8 (c : Int)).wf = true := by
  have h2 : IntKind.u8.min = 0 := by decide
  have h3 : IntKind.u8.max = 255 := by decide
  simp [Lit.wf]
  omega
theorem keyOf_blk (b : List Nat) (hl : b.length = 128) (h : ok256 b) : keyOf Try.prog 82 (blk b) = some (bky b) := by
  obtain ⟨m0, hm0⟩ := types_some
  have hkt := arr82.keyType types_some
  have hsz : (u8n b).toArray.size = 128 := by rw [List.size_toArray, u8n_len, hl]
  unfold keyOf blk
  simp only [arr82.hu]
  rw [if_pos (by simp [hkt, Value.formed, arr82.hu, arr82.size]; rw [u8n_len]; exact hl), hm0]
  unfold Program.keyLits
  simp only [arr82.hu, Value.cells]
  rw [if_pos (by rw [arr82.size]; simpa using hsz), arr82.one]
  rw [mapM_some _ (fun i => [Lit.int .u8 ((b.getD i 0 : Nat) : Int)]) (List.range 128) (fun i hi => by
    have hi2 : i < b.length := by rw [hl]; exact List.mem_range.1 hi
    rw [drop_one b i hi2]
    have hc : b.getD i 0 < 256 := by
      rw [List.getD, List.getElem?_eq_getElem hi2]
      exact h _ (List.getElem_mem hi2)
    have hw := wf_u8 _ hc
    unfold Program.keyLits
    rw [Try.underlying5]
    generalize b.getD i 0 = c at *
    simp [hw])]
  have e := range_map b (fun c : Nat => [Lit.int .u8 (c : Int)])
  rw [hl] at e
  rw [e]
  simp only [Option.map_some, flat_ones, key_all b h]
  rfl
end Go.Proofs.Ytljlhlcoaajggaa
