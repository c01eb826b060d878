/- The contract of Text (package props). -/
import Derived.Test.YtohhokjlgihbgaaGreatDoorFBare
import Derived.Test.YtohhokjlgihbgaaGreatDoorFCode
namespace Go.Proofs.YtohhokjlgihbgaaGreatDoor
open Go.RowKit

/-- The line of one class. -/
def tx1 (A : List Tr) (c : Nat) (b : List UInt8) : List UInt8 := if c = 0 then [] else (if stc (c : Int) A = [] then [] else prt (nrm (stc (c : Int) A)) ++ [32]) ++ ([59, 32] ++ b ++ [10])
def tx4 (A : List Tr) (U : List (List UInt8)) : Nat → List UInt8
  | 0 => []
  | k + 1 => tx4 A U k ++ tx1 A k (U.getD k [])
theorem tx1_len (A : List Tr) (c : Nat) (b : List UInt8) (hb : b.length ≤ 1000) (h : ∀ c : Int, (stc c A).length ≤ 40000) : (tx1 A c b).length ≤ 800000 := by
  have h1 := prt_len (nrm (stc (c : Int) A))
  have h2 := nrm_len (stc (c : Int) A)
  have h3 := h (c : Int)
  unfold tx1
  split
  · simp
  · split
    · simp; omega
    · simp; omega
theorem tx4_len (A : List Tr) (U : List (List UInt8)) (hb : ∀ b ∈ U, b.length ≤ 1000) (h : ∀ c : Int, (stc c A).length ≤ 40000) : ∀ k, (tx4 A U k).length ≤ k * 800000
  | 0 => by simp [tx4]
  | k + 1 => by
    have ih := tx4_len A U hb h k
    have h1 := tx1_len A k (U.getD k []) (by
      by_cases hk : k < U.length
      · rw [show U.getD k [] = U[k] by simp [List.getD, hk]]; exact hb _ (List.getElem_mem hk)
      · rw [show U.getD k [] = [] by simp [List.getD, hk]]; simp) h
    show (tx4 A U k ++ tx1 A k (U.getD k [])).length ≤ _
    rw [List.length_append]; omega
theorem cat4_eq (b : List UInt8) : ((⟨#[59, 32]⟩ : ByteArray) ++ ⟨b.toArray⟩) ++ ⟨#[10]⟩ = ⟨([59, 32] ++ b ++ [10]).toArray⟩ := by
  apply ByteArray.ext
  simp [ByteArray.data_append]
set_option maxHeartbeats 2000000 in
set_option maxRecDepth 100000 in
theorem text_any (B' P K : Nat) (U : List (List UInt8)) (nv : Value) (po : Option Addr) (pc : Nat) (A : List Tr) (w : World) (h : DbAt B' P K U nv (.slice po A.length pc) w) (ha : RdK w po (A.map rkT)) (hl : A.length ≤ 10000000) (hU : 0 < U.length) (hU2 : U.length ≤ 1000) (hb : ∀ b ∈ U, b.length ≤ 1000) (hst : ∀ c : Int, (stc c A).length ≤ 40000) (hZ : w.cell? ⟨6, 15, none⟩ = some (.int .u8 4)) (h9 : 9 ≤ w.heap.size) :
    Calls Tryz.prog 25 #[.pointer (some ⟨P, 0, none⟩)] w fun e w' => e = .returned (.string ⟨(tx4 A U U.length).toArray⟩) ∧ Below w.heap.size w w' := by
  obtain ⟨B, hB⟩ : ∃ B, B = w.heap.size := ⟨_, rfl⟩
  obtain ⟨g, cap, rfl⟩ : ∃ g cap, nv = .slice (some ⟨g, 0, none⟩) U.length cap := by
    rcases h.hR.2 with ⟨_, h6⟩ | ⟨q, qc, _, h5, _⟩
    · omega
    · exact ⟨_, _, h5⟩
  have HBD := hid (show Lib.IsBuilderF 96 5 B B (Lib.byteCells []) (w.alloc (.cells #[.pointer none, .slice none 0 0] 96)) by rw [hB]; exact .inl ⟨Nat.le_refl _, .slice none 0 0, World.alloc_heap_new w _, World.ownsRowF_of (World.ownsRow_nil _ _ _ _), by simp [Value.ownBlock]⟩)
  have HBa := hid (show Below B w (w.alloc (.cells #[.pointer none, .slice none 0 0] 96)) by rw [hB]; exact (Below.refl _ _).alloc (Nat.le_refl _) _)
  have HDB := hid (show ∀ W, Below B w W → DbAt B' P K U (.slice (some ⟨g, 0, none⟩) U.length cap) (.slice po A.length pc) W from fun W hW => h.below (by rw [← hB]; exact hW))
  have HSET := hid (show ∀ (c : Int) (W : World), Below B w W → Calls Tryz.prog 20 #[.pointer (some ⟨P, 0, none⟩), .int .i64 c] W fun e w' => ∃ v', e = .returned v' ∧ w'.ownsRow W.heap.size 84 2 v' (stc c A).length (rgcs (stc c A)) ∧ Below W.heap.size W w' from fun c W hW => set_any B' P K U _ po pc A c W (HDB.out W hW) (ha.below (by rw [← hB]; exact hW)) hl)
  have HZ := hid (show ∀ W, Below B w W → W.cell? ⟨6, 15, none⟩ = some (.int .u8 4) ∧ 9 ≤ W.heap.size from fun W hW => ⟨(hW.cell (p := ⟨6, 15, none⟩) (by show 6 < B; omega)).trans hZ, by have h5 := hW.size; rw [← hB] at h9; have h6 : B ≤ W.heap.size := Nat.le_trans (Nat.le_of_eq hB) h5; omega⟩)
  have HNM := hid (show ∀ (k : Nat) (b : List UInt8) (W : World), U[k]? = some b → Below B w W → W.cell? ⟨g, k, none⟩ = some (.string ⟨b.toArray⟩) from fun k b W hk hW => by
    have hr := (HDB.out W hW).hR
    have hkl := (List.getElem?_eq_some_iff.1 hk).1
    rw [hr.cellAt _ (by omega)]
    simp [nms, hk])
  have HST := hid hst
  have HUB := hid hb
  have HTL := hid (tx4_len A U hb hst)
  have c0 := (HDB.out _ HBa.out).c0
  obtain ⟨n, hn⟩ : ∃ n, n = U.length := ⟨_, rfl⟩
  have HN := hid hn
  rw [← hn] at c0 hU hU2 ⊢
  have HBE := hid hB
  rw [← hB]
  have hBw : B ≤ w.heap.size := Nat.le_of_eq hB
  clear h ha hl hb hst hZ h9 hn
  go_enter Tryz.func25, Tryz.ntmps25
  go_wp2
  rw [← hB]
  clear hB
  go_loopw [14] (fun x wr => ∃ (k : Nat), x = .int .i64 (k : Int) ∧ k ≤ n ∧ Hid (Lib.IsBuilderF 96 5 B B (Lib.byteCells (tx4 A U k)) wr) ∧ Hid (Below B w wr)) (fun x _ => n - (intOf x).toNat)
  case atStart => exact ⟨0, rfl, by omega, HBD, HBa⟩
  case round =>
    obtain ⟨k, rfl, hk, HD, HB⟩ := hrel
    have hwB : B ≤ wr.heap.size := by have h5 := HBE.out; have h6 := HB.out.size; omega
    have hTl := HTL.out k
    have hTl2 : (tx4 A U k).length ≤ 800000000 := by omega
    by_cases hlt : k < n
    · have hkU : k < U.length := by have h5 := HN.out; omega
      have HGK := hid (List.getElem?_eq_getElem hkU)
      have hbl := HUB.out U[k] (List.getElem_mem hkU)
      have HTX := hid (show tx4 A U (k + 1) = tx4 A U k ++ tx1 A k U[k] by show tx4 A U k ++ tx1 A k (U.getD k []) = _; rw [show U.getD k [] = U[k] by simp [List.getD, hkU]])
      obtain ⟨b, hbe⟩ : ∃ b, b = U[k] := ⟨_, rfl⟩
      rw [← hbe] at HGK hbl HTX
      have cn := HNM.out k b wr HGK.out HB.out
      obtain ⟨T, hT⟩ : ∃ T, T = tx4 A U k := ⟨_, rfl⟩
      rw [← hT] at HD HTX hTl2
      have i3 : (k : Int) < (n : Int) := by omega
      have i0' : (0 : Int) ≤ (k : Int) := by omega
      clear hbe hkU hT hTl
      by_cases hk0 : k = 0
      · subst hk0
        have HT1 := hid (show tx4 A U (0 + 1) = T by rw [HTX.out]; show T ++ (if (0 : Nat) = 0 then [] else _) = T; rw [if_pos rfl, List.append_nil])
        go_wp2
        go_roundw
        case rel => exact ⟨0 + 1, by go_num, by omega, by rw [HT1.out]; exact HD, HB⟩
        case measure => simp [intOf]; omega
      · have k0 : ((k : Int) == 0) = false := beq_eq_false_iff_ne.2 (by omega)
        have HT1 := hid (show tx4 A U (k + 1) = T ++ ((if stc (k : Int) A = [] then [] else prt (nrm (stc (k : Int) A)) ++ [32]) ++ ([59, 32] ++ b ++ [10])) by rw [HTX.out]; unfold tx1; rw [if_neg hk0])
        have HS := hid (HSET.out (k : Int) wr HB.out)
        have hsl := HST.out (k : Int)
        obtain ⟨S, hS⟩ : ∃ S, S = stc (k : Int) A := ⟨_, rfl⟩
        rw [← hS] at HT1 HS hsl
        clear hk0 hS HTX
        go_wp2_with fail
        refine HS.out.mono ?_
        rintro e w1 ⟨v1, rfl, o1, b1⟩
        have HB1 := hid (HB.out.trans (b1.mono hwB))
        have HD1 := hid (isb_below HD.out b1)
        have hw1 : B ≤ w1.heap.size := Nat.le_trans hwB b1.size
        obtain ⟨so, sc, rfl, hrd⟩ := rdr_row o1
        have HRD := hid hrd
        clear o1 b1 HS hrd
        obtain ⟨m, hm⟩ : ∃ m, m = S.length := ⟨_, rfl⟩
        have HMM := hid hm
        rw [← hm] at hsl ⊢
        by_cases hm0 : m = 0
        · have m0 : ¬ (0 : Int) < (m : Int) := by omega
          have hS0 : S = [] := List.length_eq_zero_iff.1 (by omega)
          have HT2 := hid (show tx4 A U (k + 1) = T ++ ([59, 32] ++ b ++ [10]) by rw [HT1.out, if_pos hS0, List.nil_append])
          have HWR := hid (write_any B B T ([59, 32] ++ b ++ [10]) _ w1 HD1.out (cat4_eq b) (by simp; omega) hw1)
          clear hm hm0 hS0
          go_wp2_with fail
          refine HWR.out.mono ?_
          rintro e w2 ⟨⟨v2, rfl⟩, d2, b2, _⟩
          have HD2 := hid d2
          have HB2 := hid (HB1.out.trans b2)
          clear d2 b2 HWR
          go_wp2
          go_roundw
          case rel => exact ⟨k + 1, by go_num, by omega, by rw [HT2.out]; exact HD2, HB2⟩
          case measure => simp [intOf]; omega
        · have m0 : (0 : Int) < (m : Int) := by omega
          have hS0 : ¬ S = [] := fun e => hm0 (by rw [hm, e]; rfl)
          have HT2 := hid (show tx4 A U (k + 1) = ((T ++ prt (nrm S)) ++ [32]) ++ ([59, 32] ++ b ++ [10]) by rw [HT1.out, if_neg hS0]; simp)
          obtain ⟨z1, z2⟩ := HZ.out w1 HB1.out
          have HPR := hid (print_any so sc S w1 HRD.out (by omega) z1 z2)
          rw [← hm] at HPR
          have hpl := prt_len (nrm S)
          have hnl := nrm_len S
          obtain ⟨R, hR⟩ : ∃ R, R = prt (nrm S) := ⟨_, rfl⟩
          rw [← hR] at HPR HT2 hpl
          have hRl : R.length ≤ 800000 := by omega
          clear hm hm0 hS0 hR hpl hnl z1 z2
          go_wp2_with fail
          refine HPR.out.mono ?_
          rintro e w2 ⟨rfl, b2⟩
          have HB2 := hid (HB1.out.trans (b2.mono hw1))
          have HD2 := hid (isb_below HD1.out b2)
          have hw2 : B ≤ w2.heap.size := Nat.le_trans hw1 b2.size
          have HW2 := hid (write_any B B T R _ w2 HD2.out rfl (by omega) hw2)
          clear b2 HPR
          go_wp2_with fail
          refine HW2.out.mono ?_
          rintro e w3 ⟨⟨v3, rfl⟩, d3, b3, _⟩
          have HD3 := hid d3
          have HB3 := hid (HB2.out.trans b3)
          have hw3 : B ≤ w3.heap.size := Nat.le_trans hw2 b3.size
          have HW3 := hid (wbyte_any B B (T ++ R) 32 w3 HD3.out (by simp; omega) hw3)
          clear d3 b3 HW2
          go_wp2_with fail
          refine HW3.out.mono ?_
          rintro e w4 ⟨⟨v4, rfl⟩, d4, b4, _⟩
          have HD4 := hid d4
          have HB4 := hid (HB3.out.trans b4)
          have hw4 : B ≤ w4.heap.size := Nat.le_trans hw3 b4.size
          have HW4 := hid (write_any B B ((T ++ R) ++ [32]) ([59, 32] ++ b ++ [10]) _ w4 HD4.out (cat4_eq b) (by simp; omega) hw4)
          clear d4 b4 HW3
          go_wp2_with fail
          refine HW4.out.mono ?_
          rintro e w5 ⟨⟨v5, rfl⟩, d5, b5, _⟩
          have HD5 := hid d5
          have HB5 := hid (HB4.out.trans b5)
          clear d5 b5 HW4
          go_wp2
          go_roundw
          case rel => exact ⟨k + 1, by go_num, by omega, by rw [HT2.out]; exact HD5, HB5⟩
          case measure => simp [intOf]; omega
    · have i3 : ¬ (k : Int) < (n : Int) := by omega
      have hkn : k = n := by omega
      have HSt := hid (string_any B B _ wr HD.out hwB)
      subst hkn
      go_wp2_with fail
      refine HSt.out.mono ?_
      rintro e w9 ⟨rfl, hb9, _⟩
      have HB9 := hid (HB.out.trans hb9)
      clear hb9 HSt
      go_wp2
      go_ret
      exact ⟨rfl, HB9.out⟩
end Go.Proofs.YtohhokjlgihbgaaGreatDoor
