/- Slices of numbers that came in, wherever they lie: Alike and Text of the document. -/
import Derived.Test.YtflehkdijfhmgaaDoorRtext
import Derived.Test.YtflehkdijfhmgaaDoorText
namespace Go.Proofs.YtflehkdijfhmgaaDoor
open Go.RowKit

theorem add_block (a : Addr) (k : Nat) : (a.add k).block = a.block := by unfold Addr.add; split <;> rfl

/-- A slice of numbers, as it can be read, at whatever address. -/
def ReadsA (K : IntKind) (w : World) (v : Value) (E : List Int) : Prop :=
  ∃ ao cap, v = .slice ao E.length cap ∧ ∀ (k : Nat) (z : Int), E[k]? = some z → ∃ a : Addr, ao = some a ∧ a.block < w.heap.size ∧ w.cell? (a.add k) = some (.int K z)
theorem ReadsA.below {K : IntKind} {w w' : World} {v : Value} {E : List Int} (h : ReadsA K w v E) (hb : Below w.heap.size w w') : ReadsA K w' v E := by
  obtain ⟨ao, cap, hv, hc⟩ := h
  refine ⟨ao, cap, hv, fun k z hk => ?_⟩
  obtain ⟨a, hg, hl, hcell⟩ := hc k z hk
  have := hb.size
  exact ⟨a, hg, by omega, (hb.cell (p := a.add k) (by rw [add_block]; exact hl)).trans hcell⟩

set_option maxHeartbeats 400000 in
theorem alikeA_any (a b : Value) (E : List Int) (w : World) (hE : E.length ≤ 1000000000000) (ha : Reads .i32 w a E) (hb : ReadsA .i32 w b E) :
    Calls Tryd.prog 15 #[a, b] w fun e w' => e = .returned (.bool true) ∧ Below w.heap.size w w' := by
  obtain ⟨ao, ca, rfl, hca⟩ := ha
  obtain ⟨bo, cb, rfl, hcb⟩ := hb
  have HA := hid hca
  have HB := hid hcb
  clear hca hcb
  go_enter Tryd.func15, Tryd.ntmps15
  go_wp2
  go_loopw [5] (fun i wr => ∃ k : Nat, i = .int .i64 k ∧ k ≤ E.length ∧ Below w.heap.size w wr) (fun i _ => E.length - (intOf i).toNat)
  case atStart => exact ⟨0, rfl, by omega, Below.refl _ _⟩
  case round =>
    obtain ⟨k, rfl, hk, hBr⟩ := hrel
    by_cases hlt : k < E.length
    · obtain ⟨g, o, rfl, l1, h1⟩ := HA.out k E[k] (List.getElem?_eq_getElem hlt)
      obtain ⟨a', rfl, l2, h2⟩ := HB.out k E[k] (List.getElem?_eq_getElem hlt)
      obtain ⟨z, hz⟩ : ∃ z, z = E[k] := ⟨_, rfl⟩
      rw [← hz] at h1 h2
      have h1' := (hBr.cell (p := ⟨g, o + k, none⟩) l1).trans h1
      have h2' := (hBr.cell (p := a'.add k) (by rw [add_block]; exact l2)).trans h2
      clear hz HA HB h1 h2
      go_wp2
      go_quiet (fail)
      go_wp2
      go_roundw
      case rel => exact ⟨k + 1, by go_num, by omega, below_drewN hBr _⟩
      case measure => simp [intOf]; omega
    · go_wp2
      go_ret
      exact ⟨rfl, hBr⟩

set_option maxHeartbeats 1000000 in
theorem rtextA_any (v : Value) (E : List Int) (w : World) (hE : E.length ≤ 1000000000000) (hv : ReadsA .i32 w v E) :
    Calls Tryd.prog 33 #[v] w fun e w' => e = .returned (.string ⟨(txt E).toArray⟩) ∧ Below w.heap.size w w' := by
  obtain ⟨i0, hi, hz0, hz1, hz2⟩ := info_parts Tryd.info5
  obtain ⟨ao, cap, rfl, hcell⟩ := hv
  have HC := hid hcell
  clear hcell
  go_enter Tryd.func33, Tryd.ntmps33
  go_wp2
  go_loopw [3, 4] (fun b i wr => ∃ (k : Nat) (T : List UInt8), i = .int .i64 k ∧ k ≤ E.length ∧ Hid (T = txt (E.take k)) ∧ T.length ≤ 4 * k ∧ wr.ownsRow w.heap.size 5 1 b T.length (u8s T) ∧ Below w.heap.size w wr) (fun _ i _ => E.length - (intOf i).toNat)
  case atStart => exact ⟨0, [], rfl, by omega, rfl, by simp, World.ownsRow_nil _ _ _ _, Below.refl _ _⟩
  case round =>
    obtain ⟨k, T, rfl, hk, HT, hT4, hown, hB⟩ := hrel
    have hs := hB.size
    by_cases hlt : k < E.length
    · obtain ⟨a, rfl, hg, hc⟩ := HC.out k E[k] (List.getElem?_eq_getElem hlt)
      have hcw := (hB.cell (p := a.add k) (by rw [add_block]; exact hg)).trans hc
      have hel := enc_len E[k]
      have HS := hid (txt_succ E k hlt)
      obtain ⟨z, hz⟩ : ∃ z, z = E[k] := ⟨_, rfl⟩
      rw [← hz] at hcw hel HS
      obtain ⟨S, hS⟩ : ∃ S, enc z = S := ⟨_, rfl⟩
      rw [hS] at hel HS
      have HE := hid hS
      clear hz hc hS
      go_wp2_with fail
      refine (renc_eq z S HE.out _).mono ?_
      rintro e w1 ⟨rfl, hb1⟩
      have hown1 := row_below hown hb1
      have hB1 : Below w.heap.size w w1 := hB.trans (hb1.mono hB.size)
      have hs1 := hB1.size
      have hsz : (⟨S.toArray⟩ : ByteArray).size = S.length := by show S.toArray.size = _; simp
      clear hb1 hown hB hcw
      go_wp2_with (at_builtin; refine Lib.wpList_append_own_string _ rfl _ _ 53 9 rfl w.heap.size 5 i0 Tryd.underlying53 Tryd.underlying9 hi hz0 hz1 hz2 _ _ _ rfl hown1 ⟨S.toArray⟩ rfl (by unfold maxLen; omega) (by omega) (by omega) ?_)
      intro v' w2 hown' hgrow _
      have hB2 : Below w.heap.size w w2 := hB1.grown hgrow hB1.size (fun k hk => (hown1.lt k hk).1)
      have hown2 : w2.ownsRow w.heap.size 5 1 v' (T ++ S).length (u8s (T ++ S)) := by
        rw [u8s_app, List.length_append, ← strCells_list S, ← hsz]; exact hown'
      have HT2 := hid (show T ++ S = txt (E.take (k + 1)) by rw [HS.out, HT.out])
      clear hown' hgrow hown1 hB1 hsz HS HT HE
      go_wp2
      go_roundw
      case rel => exact ⟨k + 1, T ++ S, by go_num, by omega, HT2, by simp; omega, hown2, hB2⟩
      case measure => simp [intOf]; omega
    · have HTE := hid (show T = txt E by rw [HT.out, List.take_of_length_le (by omega)])
      have hcv := conv_row wr _ _ T hown
      clear hown
      go_wp2
      go_ret
      exact ⟨by rw [← HTE.out]; rfl, hB⟩

theorem encode_list (r : Int) : Utf8.encode r = ⟨(enc r).toArray⟩ := by
  unfold enc
  cases Utf8.encode r
  simp
end Go.Proofs.YtflehkdijfhmgaaDoor
