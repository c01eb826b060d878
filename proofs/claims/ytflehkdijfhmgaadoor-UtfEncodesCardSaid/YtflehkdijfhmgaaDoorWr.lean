/- The contract of (*strings.Builder).WriteRune, for a builder of the call's own that has been grown. -/
import Derived.Test.YtflehkdijfhmgaaDoorRtext
import Derived.Test.YtflehkdijfhmgaaDoorShelf
import Derived.Shelf.Utf8.AppendRunePlain
namespace Go.Proofs.YtflehkdijfhmgaaDoor
open Go.RowKit Go.Shelf

def Tryd.lays242_ren : Go.Shelf.Ren := ⟨fun | 242 => 65 | 278 => 71 | n => n, fun | 37 => 53 | 21 => 21 | 51 => 93 | 4 => 4 | 5 => 5 | 46 => 57 | n => n, fun | n => n⟩
theorem Tryd.lays242 : Go.Proofs.Lays.n242 Tryd.prog Tryd.lays242_ren := {
  mixed := by kernel_rfl
  f242 := Tryd.func65.trans (congrArg some (by kernel_rfl))
  f278 := Tryd.func71.trans (congrArg some (by kernel_rfl))
  t4 := Tryd.underlying4
  a4 := Tryd.isAgg4
  z4 := Tryd.sizeOf4
  v4 := Tryd.zeroValue4
  t5 := Tryd.underlying5
  a5 := Tryd.isAgg5
  z5 := Tryd.sizeOf5
  v5 := Tryd.zeroValue5
  t21 := Tryd.underlying21
  a21 := Tryd.isAgg21
  z21 := Tryd.sizeOf21
  v21 := Tryd.zeroValue21
  t37 := Tryd.underlying53
  a37 := Tryd.isAgg53
  z37 := Tryd.sizeOf53
  v37 := Tryd.zeroValue53
  t46 := Tryd.underlying57
  a46 := Tryd.isAgg57
  z46 := Tryd.sizeOf57
  v46 := Tryd.zeroValue57
  t51 := Tryd.underlying93
  a51 := Tryd.isAgg93
  z51 := Tryd.sizeOf93
  v51 := Tryd.zeroValue93 }

theorem Tryd.utf8_AppendRune_plain (B : Nat) (v : Value) (n : Nat) (xs : List Value) (r : Int) (hr0 : -2147483648 ≤ r) (hr1 : r ≤ 2147483647) (w : World) (hown : w.ownsRow B 5 1 v n xs) (hlen : n + 4 ≤ 140737488355328) (hBw : B ≤ w.heap.size) :
    Calls Tryd.prog 65 #[v, .int .i32 r] w fun e w' => ∃ v', e = .returned v' ∧ w'.ownsRow B 5 1 v' (n + (Lib.runeCells r).length) (xs ++ Lib.runeCells r) ∧ ∃ o, (w.alloc o).grownBy w' v.ownBlock := Any.utf8_AppendRune_plain Tryd.lays242 (by kernel_rfl) B v n xs r hr0 hr1 w hown hlen hBw

theorem runeCells_eq (r : Int) : Lib.runeCells r = u8s (enc r) := by
  unfold Lib.runeCells
  cases h : isR r with
  | false =>
    have hh : ¬ (0 ≤ r ∧ r ≤ 1114111 ∧ (r < 55296 ∨ 57343 < r)) := fun e => by rw [(isR_iff r).2 e] at h; cases h
    rw [enc_other r h]
    have e1 : Lib.encodeRuneZ r = [239, 191, 189] := by
      unfold Lib.encodeRuneZ
      rw [if_neg (by omega), if_neg (by omega), if_neg (by omega), if_neg (by omega)]
    rw [e1]; rfl
  | true =>
    have hh := (isR_iff r).1 h
    obtain ⟨c, rfl⟩ : ∃ c : Nat, r = c := ⟨r.toNat, by omega⟩
    rw [enc_rune c h]
    unfold u8s
    by_cases h1 : c < 128
    · rw [← (renc1_bytes c h1).2, Lib.encodeRuneZ_one (by omega) (by omega)]; rfl
    · by_cases h2 : c < 2048
      · rw [← (renc2_bytes c (by omega) h2).2, Lib.encodeRuneZ_two (by omega) (by omega)]; rfl
      · by_cases h3 : c < 65536
        · rw [← (renc3_bytes c (by omega) h3 (by omega)).2, Lib.encodeRuneZ_three (by omega)]; rfl
        · rw [← (renc4_bytes c (by omega) (by omega)).2, Lib.encodeRuneZ_four (by omega) (by omega)]; rfl

set_option maxHeartbeats 400000 in
theorem copy_any (b : Nat) (w : World) (x0 : w.cell? ⟨b, 0, none⟩ = some (.pointer (some ⟨b, 0, none⟩))) :
    Calls Tryd.prog 63 #[.pointer (some ⟨b, 0, none⟩)] w fun e w' => e = .returned (.tuple #[]) ∧ w = w' := by
  obtain ⟨j, hj, _⟩ := Option.map_eq_some_iff.1 (show (Tryd.prog.info? 61).map (·.size) = some 2 by kernel_rfl)
  go_enter Tryd.func63, Tryd.ntmps63
  go_wp2
  rw [Lib.run_neq_ptr_same w _ Tryd.underlying59 hj]
  go_wp2
  go_end0
  exact ⟨rfl, rfl⟩

set_option maxHeartbeats 1000000 in
theorem write_any (B b : Nat) (T : List UInt8) (r : Int) (hr0 : -2147483648 ≤ r) (hr1 : r ≤ 2147483647) (w : World) (h : Lib.BuilderAt 61 5 B b (.pointer (some ⟨b, 0, none⟩)) (u8s T) w) (hlen : T.length ≤ 1000000000000) (hBw : B ≤ w.heap.size) :
    Calls Tryd.prog 51 #[.pointer (some ⟨b, 0, none⟩), .int .i32 r] w fun e w' => (∃ v, e = .returned v) ∧ Lib.BuilderAt 61 5 B b (.pointer (some ⟨b, 0, none⟩)) (u8s (T ++ enc r)) w' ∧ Below B w w' ∧ KeepsOthers w w' := by
  obtain ⟨hBb, v, hbk, hown, hne⟩ := h
  obtain ⟨ao, cap, rfl, hao⟩ := owns_form hown
  have x0 : w.cell? ⟨b, 0, none⟩ = some (.pointer (some ⟨b, 0, none⟩)) := by rw [cell_of_row w b 0 _ 61 (0, 0) hbk]; rfl
  have x1 : w.cell? ⟨b, 1, none⟩ = some (.slice ao (u8s T).length cap) := by rw [cell_of_row w b 1 _ 61 (0, 0) hbk]; rfl
  go_enter Tryd.func51, Tryd.ntmps51
  go_wp2_with fail
  refine (copy_any b w x0).mono ?_
  rintro e w1 ⟨rfl, rfl⟩
  have hul : (u8s T).length = T.length := by simp [u8s]
  rw [hul] at hown hbk x1 hne
  have HOW := hid hown
  have HBK := hid hbk
  have HNE := hid hne
  clear hown hbk hne hao x0
  go_wp2_with fail
  refine (Tryd.utf8_AppendRune_plain B _ T.length (u8s T) r hr0 hr1 _ HOW.out (by omega) hBw).mono ?_
  rintro e w2 ⟨v', rfl, ho2, o, gr⟩
  have hlt : b < w.heap.size := (Array.getElem?_eq_some_iff.1 HBK.out).1
  have hbk2 : w2.heap[b]? = some (.cells #[.pointer (some ⟨b, 0, none⟩), .slice ao T.length cap] 61) := by
    rw [gr.block b (by simp; omega) (fun e => HNE.out e.symm), Below.heap_alloc _ _ _ hlt]; exact HBK.out
  have y0 : w2.frozen? ⟨b, 1, none⟩ = false := frozen_of_row w2 b 1 _ 61 hbk2
  have y1 : w2.cell? ⟨b, 1, none⟩ = some (.slice ao T.length cap) := by rw [cell_of_row w2 b 1 _ 61 (0, 0) hbk2]; rfl
  obtain ⟨ao', cap', rfl, _⟩ := owns_form ho2
  have hbk3 := Lib.heap_setCell_same (i := 1) hbk2 (.slice ao' (T.length + (Lib.runeCells r).length) cap')
  have hB2 : Below B w w2 := ((Below.refl B w).alloc hBw o).grown gr (by simp; omega) (fun k hk => (HOW.out.lt k hk).1)
  have hK2 : KeepsOthers w w2 := (KeepsOthers.alloc w o).trans (KeepsOthers.of_grownBy gr fun j o' ej hj => by
    rcases (HOW.out.alloc o).2 with ⟨h0, _⟩ | ⟨g, cap, cur, hv, _, hgb, _⟩
    · rw [h0] at ej; simp [Value.ownBlock] at ej
    · rw [hv] at ej
      obtain rfl : g = j := by simpa [Value.ownBlock] using ej
      rw [hgb] at hj; cases hj; rfl)
  have ho3 : (w2.setCell ⟨b, 1, none⟩ (.slice ao' (T.length + (Lib.runeCells r).length) cap')).ownsRow B 5 1 (.slice ao' (T.length + (Lib.runeCells r).length) cap') (T.length + (Lib.runeCells r).length) (u8s T ++ Lib.runeCells r) ∧ (Value.slice ao' (T.length + (Lib.runeCells r).length) cap').ownBlock ≠ some b := by
    rcases ho2.2 with h0 | ⟨g, c, cur, hv, hbg, hg, hr⟩
    · refine ⟨⟨ho2.1, .inl h0⟩, ?_⟩
      rw [h0.1]; simp [Value.ownBlock]
    · have hgb : g ≠ b := fun e => by subst e; rw [hg] at hbk2; cases hbk2
      refine ⟨⟨ho2.1, .inr ⟨g, c, cur, hv, hbg, (Below.heap_setCell w2 ⟨b, 1, none⟩ _ g hgb).trans hg, hr⟩⟩, ?_⟩
      rw [hv]; simpa [Value.ownBlock] using hgb
  have hz1 : (w2.setCell ⟨b, 1, none⟩ (.slice ao' (T.length + (Lib.runeCells r).length) cap')).cell? ⟨b, 1, none⟩ = some (.slice ao' (T.length + (Lib.runeCells r).length) cap') := by
    rw [cell_of_row _ b 1 _ 61 (0, 0) hbk3]; rfl
  have hel := enc_len r
  have HRC := hid (runeCells_eq r)
  have hrl : (Lib.runeCells r).length = (enc r).length := by rw [runeCells_eq]; simp [u8s]
  have HO3 := hid ho3
  have HB3 := hid (hB2.setCell (p := ⟨b, 1, none⟩) hBb (.slice ao' (T.length + (Lib.runeCells r).length) cap'))
  have HK3 := hid (hK2.trans (KeepsOthers.setCell w2 ⟨b, 1, none⟩ (.slice ao' (T.length + (Lib.runeCells r).length) cap')))
  have H3 := hid hbk3
  clear ho2 ho3 hB2 hK2 gr hbk2 HBK HOW HNE hbk3
  rw [hrl] at HO3 HB3 HK3 H3 hz1 ⊢
  clear hrl
  go_wp2
  go_ret2
  have hlen2 : (u8s (T ++ enc r)).length = T.length + (enc r).length := by simp [u8s]
  refine ⟨⟨_, rfl⟩, ⟨hBb, _, H3.out, ?_, HO3.out.2⟩, HB3.out, HK3.out⟩
  rw [hlen2, u8s_app, ← HRC.out]
  exact HO3.out.1
end Go.Proofs.YtflehkdijfhmgaaDoor
