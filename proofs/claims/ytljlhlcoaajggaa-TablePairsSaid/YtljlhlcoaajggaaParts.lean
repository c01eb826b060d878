/- The contract of partsOf (package table): the ranges of a block. -/
import Derived.Test.YtljlhlcoaajggaaBuilds
namespace Go.Proofs.Ytljlhlcoaajggaa
open Go.RowKit

theorem joined_all (B : Nat) (R : List Tr) (g : Tr) (v : Value) (w : World) (h : w.ownsRow B 36 3 v R.length (rks R)) (hn : R = [] → v = .slice none 0 0) (hB : B ≤ w.heap.size) (hl : R.length ≤ 100000000) :
    Calls Try.prog 72 #[v, rkv (rkT g)] w fun e w' => ∃ v', e = .returned v' ∧ w'.ownsRow B 36 3 v' (jn R g).length (rks (jn R g)) ∧ Below B w w' := by
  rcases List.eq_nil_or_concat R with h0 | ⟨Q, z, h0⟩
  · rw [hn h0, h0]
    exact joined_nil B g w hB
  · rw [List.concat_eq_append] at h0
    subst h0
    have hl2 : (Q ++ [z]).length = Q.length + 1 := by simp
    rw [hl2] at h hl
    obtain ⟨q, cap, rfl, _, _⟩ := h.form (by omega)
    exact joined_any B q cap Q z g w h hB (by omega)
theorem u8a_get {b : List Nat} {i c : Nat} (h : b[i]? = some c) : (u8n b).toArray[i]? = some (.int .u8 (c : Int)) := by
  rw [List.getElem?_toArray]
  unfold u8n
  rw [List.getElem?_map, h]; rfl
theorem jn_len (l : List Tr) (g : Tr) : (jn l g).length ≤ l.length + 1 := by
  rcases List.eq_nil_or_concat l with rfl | ⟨Q, z, rfl⟩
  · rw [jn_nil]; simp
  · rw [List.concat_eq_append, jn_snoc]
    split <;> simp
theorem rlA_len : ∀ (C : List Nat) (b : Nat) (o : List Tr), (rlA b o C).length ≤ o.length + C.length
  | [], _, _ => by simp [rlA]
  | c :: C, b, o => by
    have h1 := rlA_len C (b + 1) (jn o (b, b, c))
    have h2 := jn_len o (b, b, c)
    show (rlA (b + 1) (jn o (b, b, c)) C).length ≤ _
    rw [List.length_cons]; omega
theorem size82n : (Try.prog.info? 82).map (·.size) = some 128 := by kernel_rfl

theorem index82 (cs : Array Value) (i : Nat) (v : Value) (w : World) (hi : i < 128) (h : cs[i]? = some v) : (Instr.index 82 (.agg cs) (.int .i64 (i : Int))).run Try.prog w = .ok v w := by
  unfold Instr.index
  simp [asIntOf, run_underlying Try.underlying82 w, part, h]
  omega
set_option maxHeartbeats 2000000 in
set_option maxRecDepth 100000 in
theorem parts_any (B : Nat) (b : List Nat) (w : World) (hb : b.length = 128) (h8 : ok256 b) (hB : B ≤ w.heap.size) :
    Calls Try.prog 71 #[blk b] w fun e w' => ∃ v', e = .returned v' ∧ w'.ownsRow B 36 3 v' (rlA 0 [] b).length (rks (rlA 0 [] b)) ∧ Below B w w' := by
  unfold blk
  have HC := hid (fun (i c : Nat) (h : b[i]? = some c) => u8a_get h)
  have hcs : (u8n b).toArray.size = 128 := by rw [List.size_toArray, u8n_len, hb]
  obtain ⟨cs, hcse⟩ : ∃ cs, cs = (u8n b).toArray := ⟨_, rfl⟩
  rw [← hcse] at HC hcs ⊢
  have HSZ := hid (show (Try.prog.info? 82).map (·.size) = some cs.size by rw [hcs]; exact size82n)
  have HH := hid (heap_alloc_new w (.cells cs 82))
  have HB0 := hid ((Below.refl B w).alloc hB (.cells cs 82))
  have H8 := hid h8
  have HLB := hid hb
  clear hcse hb h8
  go_enter Try.func71, Try.ntmps71
  go_wp2_with (refine wpList_load_row rfl 82 _ rfl w.heap.size rfl 82 cs (0, 0) _ HH.out Try.underlying82 rfl HSZ.out ?_)
  obtain ⟨W, hW⟩ : ∃ W, W = w.alloc (.cells cs 82) := ⟨_, rfl⟩
  have hWB : B ≤ W.heap.size := by rw [hW]; simp; omega
  rw [← hW] at HB0 ⊢
  clear hW HH
  go_loopw [3, 7] (fun x n wr => ∃ (i : Nat) (v : Value), x = v ∧ n = .int .i64 (i : Int) ∧ i ≤ 128 ∧ Hid (wr.ownsRow B 36 3 v (rlA 0 [] (b.take i)).length (rks (rlA 0 [] (b.take i)))) ∧ Hid (rlA 0 [] (b.take i) = [] → v = .slice none 0 0) ∧ Hid (Below B W wr)) (fun _ n _ => 128 - (intOf n).toNat)
  case atStart => exact ⟨0, _, rfl, rfl, by omega, World.ownsRow_nil W B 36 3, fun _ => rfl, Below.refl _ _⟩
  case round =>
    obtain ⟨i, v, hv, rfl, hi, HO, HN, HB⟩ := hrel
    obtain rfl := hv.symm
    by_cases hlt : i < 128
    · have hib : i < b.length := by have h5 := HLB.out; omega
      have hc := HC.out i b[i] (List.getElem?_eq_getElem hib)
      have h256 := H8.out b[i] (List.getElem_mem hib)
      have HT := hid (show rlA 0 [] (b.take (i + 1)) = jn (rlA 0 [] (b.take i)) (i, i, b[i]) by
        rw [List.take_succ_eq_append_getElem hib, rlA_snoc, List.length_take, Nat.zero_add, Nat.min_eq_left (by omega)])
      have HLN := hid (show (rlA 0 [] (b.take i)).length ≤ 100000000 by
        have h1 := rlA_len (b.take i) 0 []
        rw [List.length_take] at h1
        simp at h1; omega)
      have hwB : B ≤ wr.heap.size := Nat.le_trans hWB HB.out.size
      obtain ⟨c, hce⟩ : ∃ c, c = b[i] := ⟨_, rfl⟩
      rw [← hce] at hc h256 HT
      have HJ := hid (joined_all B _ (i, i, c) v wr HO.out HN.out hwB HLN.out)
      rw [← HT.out] at HJ
      have HNE := hid (show rlA 0 [] (b.take (i + 1)) ≠ [] by rw [HT.out]; exact jn_ne _ _)
      unfold rkv rkT at HJ
      dsimp only at HJ
      have i3 : (i : Int) < 128 := by omega
      have i4 : (0 : Int) ≤ (i : Int) := by omega
      have ew : IntKind.i32.wrap (i : Int) = (i : Int) := by rw [IntKind.wrap_i32]; omega
      have ec : IntKind.i64.wrap (c : Int) = (c : Int) := by rw [IntKind.wrap_i64]; omega
      have hix := index82 cs i _ wr hlt hc
      clear hce HT HLN HO HN hc
      go_wp2_with fail
      refine HJ.out.mono ?_
      rintro e w2 ⟨v2, rfl, o2, b2⟩
      have HO2 := hid o2
      have HB2 := hid (HB.out.trans b2)
      have HN2 := hid (show rlA 0 [] (b.take (i + 1)) = [] → v2 = .slice none 0 0 from fun h => absurd h HNE.out)
      clear o2 b2 HJ
      go_wp2
      go_roundw
      case rel => exact ⟨i + 1, v2, rfl, by go_num, by omega, HO2, HN2, HB2⟩
      case measure => simp [intOf]; omega
    · have hlt' : ¬ (i : Int) < 128 := by omega
      have hie : i = 128 := by omega
      have HE := hid (show b.take i = b by rw [hie, ← HLB.out, List.take_of_length_le (Nat.le_refl _)])
      rw [HE.out] at HO
      have HBE := hid (HB0.out.trans HB.out)
      clear hie
      go_wp2
      go_ret
      exact ⟨v, rfl, HO.out, HBE.out⟩
end Go.Proofs.Ytljlhlcoaajggaa
