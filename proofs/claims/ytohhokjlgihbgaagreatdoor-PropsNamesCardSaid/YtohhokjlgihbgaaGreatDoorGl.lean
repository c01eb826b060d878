/- The contract of Text (package props). -/
import Derived.Test.YtohhokjlgihbgaaGreatDoorGi
import Derived.Test.YtohhokjlgihbgaaGreatDoorGk
import Derived.RangeFuncNested
import Derived.RangeFuncBound
import Derived.RangeFuncCalls
import Derived.RangeFuncLeaves
import Derived.Shelf.Utf8.RuneCount
import Derived.Shelf.Strings.RuneCount
import Derived.Test.YtohhokjlgihbgaaGreatDoorGe
import Derived.Test.YtohhokjlgihbgaaGreatDoorGh
import Derived.Ground.NamesProg
import Derived.Shelf.Strings.Search3
import Derived.Test.YtohhokjlgihbgaaGreatDoorProg
import Derived.Test.YtohhokjlgihbgaaGreatDoorGa
namespace Go.Proofs.YtohhokjlgihbgaaGreatDoor
open Go.RowKit

/-- The line of one class. -/
def tx1 (A : List Tr) (c : Nat) (b : List UInt8) : List UInt8 := if c = 0 then [] else (if stc (c : Int) A = [] then [] else prt (nrm (stc (c : Int) A)) ++ [32]) ++ ([59, 32] ++ b ++ [10])
def tx4 (A : List Tr) (U : List (List UInt8)) : Nat → List UInt8
  | 0 => []
  | k + 1 => tx4 A U k ++ tx1 A k (U.getD k [])
theorem tx1_len (A : List Tr) (c : Nat) (b : List UInt8) (hb : b.length ≤ 1000) (h : ∀ c : Int, (stc c A).length ≤ 2000) : (tx1 A c b).length ≤ 50000 := by
  have h1 := prt_len (nrm (stc (c : Int) A))
  have h2 := nrm_len (stc (c : Int) A)
  have h3 := h (c : Int)
  unfold tx1
  split
  · simp
  · split
    · simp; omega
    · simp; omega
theorem tx4_len (A : List Tr) (U : List (List UInt8)) (hb : ∀ b ∈ U, b.length ≤ 1000) (h : ∀ c : Int, (stc c A).length ≤ 2000) : ∀ k, (tx4 A U k).length ≤ k * 50000
  | 0 => by simp [tx4]
  | k + 1 => by
    have ih := tx4_len A U hb h k
    have h1 := tx1_len A k (U.getD k []) (by
      by_cases hk : k < U.length
      · rw [show U.getD k [] = U[k] by simp [List.getD, hk]]; exact hb _ (List.getElem_mem hk)
      · rw [show U.getD k [] = [] by simp [List.getD, hk]]; simp) h
    show (tx4 A U k ++ tx1 A k (U.getD k [])).length ≤ _
    rw [List.length_append]; omega
theorem cat4_eq (b : List UInt8) : ((⟨#[59, 32]⟩ : ByteArray) ++ ⟨b.toArray⟩) ++ ⟨#[10]⟩ = ⟨([59, 32] ++ b ++ [10]).toArray⟩ := by
  apply ByteArray.ext
  simp [ByteArray.data_append]
set_option maxHeartbeats 2000000 in
set_option maxRecDepth 100000 in
theorem text_any (B' P K : Nat) (U : List (List UInt8)) (nv : Value) (po : Option Addr) (pc : Nat) (A : List Tr) (w : World) (h : DbAt B' P K U nv (.slice po A.length pc) w) (ha : RdK w po (A.map rkT)) (hl : A.length ≤ 10000000) (hU : 0 < U.length) (hU2 : U.length ≤ 1000) (hb : ∀ b ∈ U, b.length ≤ 1000) (hst : ∀ c : Int, (stc c A).length ≤ 2000) (hZ : w.cell? ⟨6, 15, none⟩ = some (.int .u8 4)) (h9 : 9 ≤ w.heap.size) :
    Calls Tryz.prog 25 #[.pointer (some ⟨P, 0, none⟩)] w fun e w' => e = .returned (.string ⟨(tx4 A U U.length).toArray⟩) ∧ Below w.heap.size w w' := by
  obtain ⟨B, hB⟩ : ∃ B, B = w.heap.size := ⟨_, rfl⟩
  obtain ⟨g, cap, rfl⟩ : ∃ g cap, nv = .slice (some ⟨g, 0, none⟩) U.length cap := by
    rcases h.hR.2 with ⟨_, h6⟩ | ⟨q, qc, _, h5, _⟩
    · omega
    · exact ⟨_, _, h5⟩
  have HBD := hid (show Lib.IsBuilderF 96 5 B B (Lib.byteCells []) (w.alloc (.cells #[.pointer none, .slice none 0 0] 96)) by rw [hB]; exact .inl ⟨Nat.le_refl _, .slice none 0 0, World.alloc_heap_new w _, World.ownsRowF_of (World.ownsRow_nil _ _ _ _), by simp [Value.ownBlock]⟩)
  have HBa := hid (show Below B w (w.alloc (.cells #[.pointer none, .slice none 0 0] 96)) by rw [hB]; exact (Below.refl _ _).alloc (Nat.le_refl _) _)
  have HDB := hid (show ∀ W, Below B w W → DbAt B' P K U (.slice (some ⟨g, 0, none⟩) U.length cap) (.slice po A.length pc) W from fun W hW => h.below (by rw [← hB]; exact hW))
  have HSET := hid (show ∀ (c : Int) (W : World), Below B w W → Calls Tryz.prog 20 #[.pointer (some ⟨P, 0, none⟩), .int .i64 c] W fun e w' => ∃ v', e = .returned v' ∧ w'.ownsRow W.heap.size 84 2 v' (stc c A).length (rgcs (stc c A)) ∧ Below W.heap.size W w' from fun c W hW => set_any B' P K U _ po pc A c W (HDB.out W hW) (ha.below (by rw [← hB]; exact hW)) hl)
  have HZ := hid (show ∀ W, Below B w W → W.cell? ⟨6, 15, none⟩ = some (.int .u8 4) ∧ 9 ≤ W.heap.size from fun W hW => ⟨(hW.cell (p := ⟨6, 15, none⟩) (by show 6 < B; omega)).trans hZ, by have h5 := hW.size; rw [← hB] at h9; have h6 : B ≤ W.heap.size := Nat.le_trans (Nat.le_of_eq hB) h5; omega⟩)
  have HNM := hid (show ∀ (k : Nat) (b : List UInt8) (W : World), U[k]? = some b → Below B w W → W.cell? ⟨g, k, none⟩ = some (.string ⟨b.toArray⟩) from fun k b W hk hW => by
    have hr := (HDB.out W hW).hR
    have hkl := (List.getElem?_eq_some_iff.1 hk).1
    rw [hr.cellAt _ (by omega)]
    simp [nms, hk])
  have HST := hid hst
  have HUB := hid hb
  have HTL := hid (tx4_len A U hb hst)
  have c0 := (HDB.out _ HBa.out).c0
  obtain ⟨n, hn⟩ : ∃ n, n = U.length := ⟨_, rfl⟩
  have HN := hid hn
  rw [← hn] at c0 hU hU2 ⊢
  have HBE := hid hB
  rw [← hB]
  have hBw : B ≤ w.heap.size := Nat.le_of_eq hB
  clear h ha hl hb hst hZ h9 hn
  go_enter Tryz.func25, Tryz.ntmps25
  go_wp2
  rw [← hB]
  clear hB
  go_loopw [14] (fun x wr => ∃ (k : Nat), x = .int .i64 (k : Int) ∧ k ≤ n ∧ Hid (Lib.IsBuilderF 96 5 B B (Lib.byteCells (tx4 A U k)) wr) ∧ Hid (Below B w wr)) (fun x _ => n - (intOf x).toNat)
  case atStart => exact ⟨0, rfl, by omega, HBD, HBa⟩
  case round =>
    obtain ⟨k, rfl, hk, HD, HB⟩ := hrel
    have hwB : B ≤ wr.heap.size := by have h5 := HBE.out; have h6 := HB.out.size; omega
    have hTl := HTL.out k
    have hTl2 : (tx4 A U k).length ≤ 50000000 := by omega
    by_cases hlt : k < n
    · have hkU : k < U.length := by have h5 := HN.out; omega
      have HGK := hid (List.getElem?_eq_getElem hkU)
      have hbl := HUB.out U[k] (List.getElem_mem hkU)
      have HTX := hid (show tx4 A U (k + 1) = tx4 A U k ++ tx1 A k U[k] by show tx4 A U k ++ tx1 A k (U.getD k []) = _; rw [show U.getD k [] = U[k] by simp [List.getD, hkU]])
      obtain ⟨b, hbe⟩ : ∃ b, b = U[k] := ⟨_, rfl⟩
      rw [← hbe] at HGK hbl HTX
      have cn := HNM.out k b wr HGK.out HB.out
      obtain ⟨T, hT⟩ : ∃ T, T = tx4 A U k := ⟨_, rfl⟩
      rw [← hT] at HD HTX hTl2
      have i3 : (k : Int) < (n : Int) := by omega
      have i0' : (0 : Int) ≤ (k : Int) := by omega
      clear hbe hkU hT hTl
      by_cases hk0 : k = 0
      · subst hk0
        have HT1 := hid (show tx4 A U (0 + 1) = T by rw [HTX.out]; show T ++ (if (0 : Nat) = 0 then [] else _) = T; rw [if_pos rfl, List.append_nil])
        go_wp2
        go_roundw
        case rel => exact ⟨0 + 1, by go_num, by omega, by rw [HT1.out]; exact HD, HB⟩
        case measure => simp [intOf]; omega
      · have k0 : ((k : Int) == 0) = false := beq_eq_false_iff_ne.2 (by omega)
        have HT1 := hid (show tx4 A U (k + 1) = T ++ ((if stc (k : Int) A = [] then [] else prt (nrm (stc (k : Int) A)) ++ [32]) ++ ([59, 32] ++ b ++ [10])) by rw [HTX.out]; unfold tx1; rw [if_neg hk0])
        have HS := hid (HSET.out (k : Int) wr HB.out)
        have hsl := HST.out (k : Int)
        obtain ⟨S, hS⟩ : ∃ S, S = stc (k : Int) A := ⟨_, rfl⟩
        rw [← hS] at HT1 HS hsl
        clear hk0 hS HTX
        go_wp2_with fail
        refine HS.out.mono ?_
        rintro e w1 ⟨v1, rfl, o1, b1⟩
        have HB1 := hid (HB.out.trans (b1.mono hwB))
        have HD1 := hid (isb_below HD.out b1)
        have hw1 : B ≤ w1.heap.size := Nat.le_trans hwB b1.size
        obtain ⟨so, sc, rfl, hrd⟩ := rdr_row o1
        have HRD := hid hrd
        clear o1 b1 HS hrd
        obtain ⟨m, hm⟩ : ∃ m, m = S.length := ⟨_, rfl⟩
        have HMM := hid hm
        rw [← hm] at hsl ⊢
        by_cases hm0 : m = 0
        · have m0 : ¬ (0 : Int) < (m : Int) := by omega
          have hS0 : S = [] := List.length_eq_zero_iff.1 (by omega)
          have HT2 := hid (show tx4 A U (k + 1) = T ++ ([59, 32] ++ b ++ [10]) by rw [HT1.out, if_pos hS0, List.nil_append])
          have HWR := hid (write_any B B T ([59, 32] ++ b ++ [10]) _ w1 HD1.out (cat4_eq b) (by simp; omega) hw1)
          clear hm hm0 hS0
          go_wp2_with fail
          refine HWR.out.mono ?_
          rintro e w2 ⟨⟨v2, rfl⟩, d2, b2, _⟩
          have HD2 := hid d2
          have HB2 := hid (HB1.out.trans b2)
          clear d2 b2 HWR
          go_wp2
          go_roundw
          case rel => exact ⟨k + 1, by go_num, by omega, by rw [HT2.out]; exact HD2, HB2⟩
          case measure => simp [intOf]; omega
        · have m0 : (0 : Int) < (m : Int) := by omega
          have hS0 : ¬ S = [] := fun e => hm0 (by rw [hm, e]; rfl)
          have HT2 := hid (show tx4 A U (k + 1) = ((T ++ prt (nrm S)) ++ [32]) ++ ([59, 32] ++ b ++ [10]) by rw [HT1.out, if_neg hS0]; simp)
          obtain ⟨z1, z2⟩ := HZ.out w1 HB1.out
          have HPR := hid (print_any so sc S w1 HRD.out (by omega) z1 z2)
          rw [← hm] at HPR
          have hpl := prt_len (nrm S)
          have hnl := nrm_len S
          obtain ⟨R, hR⟩ : ∃ R, R = prt (nrm S) := ⟨_, rfl⟩
          rw [← hR] at HPR HT2 hpl
          have hRl : R.length ≤ 40000 := by omega
          clear hm hm0 hS0 hR hpl hnl z1 z2
          go_wp2_with fail
          refine HPR.out.mono ?_
          rintro e w2 ⟨rfl, b2⟩
          have HB2 := hid (HB1.out.trans (b2.mono hw1))
          have HD2 := hid (isb_below HD1.out b2)
          have hw2 : B ≤ w2.heap.size := Nat.le_trans hw1 b2.size
          have HW2 := hid (write_any B B T R _ w2 HD2.out rfl (by omega) hw2)
          clear b2 HPR
          go_wp2_with fail
          refine HW2.out.mono ?_
          rintro e w3 ⟨⟨v3, rfl⟩, d3, b3, _⟩
          have HD3 := hid d3
          have HB3 := hid (HB2.out.trans b3)
          have hw3 : B ≤ w3.heap.size := Nat.le_trans hw2 b3.size
          have HW3 := hid (wbyte_any B B (T ++ R) 32 w3 HD3.out (by simp; omega) hw3)
          clear d3 b3 HW2
          go_wp2_with fail
          refine HW3.out.mono ?_
          rintro e w4 ⟨⟨v4, rfl⟩, d4, b4, _⟩
          have HD4 := hid d4
          have HB4 := hid (HB3.out.trans b4)
          have hw4 : B ≤ w4.heap.size := Nat.le_trans hw3 b4.size
          have HW4 := hid (write_any B B ((T ++ R) ++ [32]) ([59, 32] ++ b ++ [10]) _ w4 HD4.out (cat4_eq b) (by simp; omega) hw4)
          clear d4 b4 HW3
          go_wp2_with fail
          refine HW4.out.mono ?_
          rintro e w5 ⟨⟨v5, rfl⟩, d5, b5, _⟩
          have HD5 := hid d5
          have HB5 := hid (HB4.out.trans b5)
          clear d5 b5 HW4
          go_wp2
          go_roundw
          case rel => exact ⟨k + 1, by go_num, by omega, by rw [HT2.out]; exact HD5, HB5⟩
          case measure => simp [intOf]; omega
    · have i3 : ¬ (k : Int) < (n : Int) := by omega
      have hkn : k = n := by omega
      have HSt := hid (string_any B B _ wr HD.out hwB)
      subst hkn
      go_wp2_with fail
      refine HSt.out.mono ?_
      rintro e w9 ⟨rfl, hb9, _⟩
      have HB9 := hid (HB.out.trans hb9)
      clear hb9 HSt
      go_wp2
      go_ret
      exact ⟨rfl, HB9.out⟩
end Go.Proofs.YtohhokjlgihbgaaGreatDoor
/- A law for a range over a function that stores into one block that it has caught, and a contract for such an iterator: the body is told that what it is handed is the list's next element. The proof of the law follows the shape of the library's own for iterators that write nothing (RangeFuncNested). -/
namespace Go.Proofs.YtohhokjlgihbgaaGreatDoor
open Go.RowKit

/-- What an iterator does to memory by itself: new blocks, its own walks, and one block that it has caught. -/
def Abd (B : Nat) (Bs : Option Nat) (A C : World) : Prop := ∃ row, A.grownBy C row ∧ ∀ r, row = some r → Bs = some r ∨ (B ≤ r ∧ ∃ o : Obj, A.heap[r]? = some o ∧ o.isWalk = true)
/-- What an iterator over a list may ask and must give. -/
def CaughtStops {α : Type} (F : Fence) (n : Nat) (P : Program) (g : Nat) (lb : Array Value) (encs : α → Array Value) (Bs : Option Nat) (Z : World → Prop) (Kp : World → World → Prop) (L : List α) (w : World) : Prop :=
  ∀ (lp : Nat) (J Jx : List α → World → Prop) (W : World), Below w.heap.size w W →
    (∀ s A C, J s A → Abd W.heap.size Bs A C → J s C) → (∀ s A C, Jx s A → Abd W.heap.size Bs A C → Jx s C) →
    (∀ pre x W1, pre ++ [x] <+: L → Z W1 → J pre W1 → YieldAt F (n - 1) P lp (encs x) W1 fun e W' =>
      (e = .returned (.bool true) ∧ J (pre ++ [x]) W' ∧ Kp W1 W') ∨ (e = .returned (.bool false) ∧ Jx (pre ++ [x]) W')) →
    J [] W → CallsIn F n P g (#[.func (.yield lp) #[] #[]] ++ lb) W fun e W' => (∃ v, e = .returned v) ∧ (J L W' ∨ ∃ pre, pre <+: L ∧ Jx pre W')

/-- The body goes on, or returns. -/
def caughtPost {α : Type} (B : Nat) (Kp : World → World → Prop) (I Ix : List α → World → Prop) (xs : List α) (W : World) : Exit → Act → World → Prop
  | .normal, _, W' => KeepsFrom B W W' ∧ Kp W W' ∧ I xs W'
  | .ret, _, W' => KeepsFrom B W W' ∧ Ix xs W'
  | _, _, _ => False

theorem rf_caught {α : Type} {F : Fence} {n : Nat} {P : Program} {g : Operand} {ps : Array Tmp} {assign body : Code} {Q : Exit → Act → World → Prop} {a : Act} {w : World}
    (hro : F.round = none) (h1 : 1 ≤ n) {gf : Nat} {lb : Array Value} (hg : a.eval g = .func (.func gf) #[] lb) (hFg : F.fn gf) (eg : ∀ args w, (callFunc gf args).run P w = .ok (.enter gf args) w)
    {encs : α → Array Value} {Bs : Option Nat} {Z : World → Prop} {Kp : World → World → Prop} {L : List α} (hseq : CaughtStops F (n - 1) P gf lb encs Bs Z Kp L w) (hBs : ∀ r, Bs = some r → r < w.heap.size) (hZ : ∀ W l o', w.heap.size ≤ l → Z W → Z (W.putObj l o'))
    (hKt : ∀ {A B C : World}, Kp A B → Kp B C → Kp A C) (hKb : ∀ (W : World) (l : Nat) (o o' : Obj), w.heap.size ≤ l → W.heap[l]? = some o → o.isCells = false → o.isWalk = false → Kp W (W.putObj l o')) (hps : ∀ x, (encs x).size = ps.size)
    (I Ix : List α → World → Prop) (hI : OwnFrom w.heap.size I) (hIx : OwnFrom w.heap.size Ix) (hIc : ∀ s A C r, Bs = some r → I s A → A.grownBy C (some r) → I s C) (hIxc : ∀ s A C r, Bs = some r → Ix s A → A.grownBy C (some r) → Ix s C) (h0 : I [] w) (a₁ : α → Act)
    (hassign : ∀ (l : Nat) (x : α) (W : World) (K : Act → World → Prop), K (a₁ x) W → assign.wpIn (F.inRound l) (n - 1 - 1) P (Exit.then K (fun _ _ _ => False)) { tmps := (ps.zip (encs x)).foldl (fun t (p, v) => t.setIfInBounds p v) a.tmps, defers := [] } W)
    (hbody : ∀ (l : Nat) (pre : List α) (x : α) (W : World), w.heap.size ≤ l → pre ++ [x] <+: L → Z W → I pre W → body.wpIn (F.inRound l) (n - 1 - 1) P (caughtPost w.heap.size Kp I Ix (pre ++ [x]) W) (a₁ x) W)
    (hdone : ∀ (D : Nat) (W : World), w.heap.size ≤ D → I L W → W.heap[D]? = some (.deferred (some [])) → Q .normal { a with defers := { target := .collected D, args := #[] } :: a.defers } W)
    (hstop : ∀ (D : Nat) (pre : List α) (W : World), w.heap.size ≤ D → pre <+: L → Ix pre W → W.heap[D]? = some (.deferred (some [])) → Code.ret.wpIn F n P Q { a with defers := { target := .collected D, args := #[] } :: a.defers } W) :
    (Code.rangeFunc g ps assign body).wpIn F n P Q a w := by
  obtain ⟨N, hN⟩ : ∃ N, N = w.heap.size := ⟨_, rfl⟩
  refine wpIn_rangeFunc fun fn hfn => ?_
  rw [hro]
  obtain ⟨rc, hrc⟩ : ∃ rc : LoopState → Option Code → Loop, rc = fun st pe => { state := st, pending := pe, fn, tmps := a.tmps, params := ps, assign, body, defers := w.heap.size } := ⟨_, rfl⟩
  obtain ⟨V, hV⟩ : ∃ V, (w.alloc (.deferred (some []))).alloc (.loop (rc .ready none)) = V := ⟨_, rfl⟩
  have v1 : V.heap[w.heap.size + 1]? = some (.loop (rc .ready none)) := by
    rw [← hV]; have h5 := World.alloc_heap_new (w.alloc (.deferred (some []))) (.loop (rc .ready none)); rwa [World.size_alloc] at h5
  have v0 : V.heap[w.heap.size]? = some (.deferred (some [])) := by
    rw [← hV]; exact (Below.heap_alloc _ _ _ (by simp)).trans (World.alloc_heap_new w _)
  have vb : Below w.heap.size w V := by rw [← hV]; exact ((Below.refl _ w).alloc (Nat.le_refl _) _).alloc (by simp) _
  have vI : I [] V := by rw [← hV]; exact hI.alloc _ (hI.alloc _ h0)
  have hVs : w.heap.size ≤ V.heap.size := vb.size
  have stay : ∀ {A C : World} {k : Nat} {o : Obj}, Abd V.heap.size Bs A C → w.heap.size ≤ k → A.heap[k]? = some o → o.isWalk = false → C.heap[k]? = some o := fun ⟨row, hgr, hr⟩ hk ho hw =>
    (hgr.block _ (Array.getElem?_eq_some_iff.1 ho).1 (fun e => by
      rcases hr _ e.symm with h5 | ⟨_, o', h5, h6⟩
      · have h7 := hBs _ h5; omega
      · rw [ho] at h5; cases h5; rw [hw] at h6; cases h6)).trans ho
  have ab : ∀ {Y : List α → World → Prop} (_ : OwnFrom w.heap.size Y) (_ : ∀ s A C r, Bs = some r → Y s A → A.grownBy C (some r) → Y s C) (s : List α) (A C : World), Y s A → Abd V.heap.size Bs A C → Y s C := fun hY hYc s A C hy ⟨row, hgr, hr⟩ => by
    cases row with
    | none => exact hY s A C none hy hgr (fun r e => by cases e)
    | some r =>
      rcases hr r rfl with h5 | ⟨h5, o, h6, h7⟩
      · exact hYc s A C r h5 hy hgr
      · exact hY s A C (some r) hy hgr (fun r' e => by cases e; exact ⟨by omega, o, h6, Obj.not_cells_of_walk h7⟩)
  refine ⟨w.heap.size + 1, [{ target := .collected w.heap.size, args := #[] }], V, { target := .fn (.func gf) lb, args := #[.func (.yield (w.heap.size + 1)) #[] #[]] }, V, gf,
    #[.func (.yield (w.heap.size + 1)) #[] #[]] ++ lb, V, ?_, ?_, ?_, ?_, fun _ => h1, ?_⟩
  · rw [← hV, hrc]; exact run_enterLoop_outer _ _ _ _ _
  · simp only [resolve, hg]
    simp [go_sem]
  · intro f' hf'; simp [Target.leads] at hf'; subst hf'; exact hFg
  · simp [invoke, go_sem, eg]
  refine (hseq (w.heap.size + 1)
    (fun pre W => I pre W ∧ W.heap[w.heap.size + 1]? = some (.loop (rc .ready none)) ∧ W.heap[w.heap.size]? = some (.deferred (some [])))
    (fun pre W => Ix pre W ∧ W.heap[w.heap.size + 1]? = some (.loop (rc .done (some .ret))) ∧ W.heap[w.heap.size]? = some (.deferred (some [])))
    V vb (fun s A C h hgr => ⟨ab hI hIc s A C h.1 hgr, stay hgr (by omega) h.2.1 rfl, stay hgr (Nat.le_refl _) h.2.2 rfl⟩) (fun s A C h hgr => ⟨ab hIx hIxc s A C h.1 hgr, stay hgr (by omega) h.2.1 rfl, stay hgr (Nat.le_refl _) h.2.2 rfl⟩)
    ?round ⟨vI, v1, v0⟩).mono ?behind
  case round =>
    rintro pre x W hpre hz ⟨hi, hl, hk⟩
    have hlt : w.heap.size + 1 < W.heap.size := (Array.getElem?_eq_some_iff.1 hl).1
    have hy := run_yield (P := P) (args := encs x) hl (by rw [hrc]; exact hps x)
    rw [hrc] at hy
    refine ⟨fn, _, assign, body, hy, roundIn_of_wpIn hfn (hassign _ x W _ ?_)⟩
    clear hy
    refine ⟨_, run_beginRound hl (by rw [hrc]), ?_⟩
    obtain ⟨W2, hW2⟩ : ∃ W2, W2 = W.putObj (w.heap.size + 1) (.loop { rc .ready none with state := .busy }) := ⟨_, rfl⟩
    rw [← hW2]
    have hl2 : W2.heap[w.heap.size + 1]? = some (.loop { rc .ready none with state := .busy }) := by rw [hW2]; exact World.putObj_heap_same hlt
    have hk2 : W2.heap[w.heap.size]? = some (.deferred (some [])) := by rw [hW2]; exact (World.putObj_heap_other (by omega)).trans hk
    have hw2 : Kp W W2 := by rw [hW2]; exact hKb _ _ _ _ (by omega) hl rfl rfl
    have hi2 : I pre W2 := by rw [hW2]; exact hI.putObj _ hi (by omega) hl rfl
    have hz2 : Z W2 := by rw [hW2]; exact hZ _ _ _ (by omega) hz
    refine wpIn_mono (hbody _ pre x W2 (by omega) hpre hz2 hi2) ?_
    rintro e a3 W3 hp
    have ends : ∀ (jump : Option Code), KeepsFrom w.heap.size W2 W3 →
        (Instr.endRound (w.heap.size + 1) jump).run P W3 = .ok (.bool jump.isNone) (W3.putObj (w.heap.size + 1) (.loop (rc (if jump.isNone then .ready else .done) jump))) ∧
        W3.heap[w.heap.size + 1]? = some (.loop { rc .ready none with state := .busy }) ∧
        (W3.putObj (w.heap.size + 1) (.loop (rc (if jump.isNone then .ready else .done) jump))).heap[w.heap.size + 1]? = some (.loop (rc (if jump.isNone then .ready else .done) jump)) ∧
        (W3.putObj (w.heap.size + 1) (.loop (rc (if jump.isNone then .ready else .done) jump))).heap[w.heap.size]? = some (.deferred (some [])) := fun jump hk3 => by
      have hl3 := hk3.same _ _ (by omega) hl2 rfl
      have h5 := run_endRound (P := P) jump hl3
      rw [hrc] at h5 ⊢
      exact ⟨h5, by rw [hrc] at hl3; exact hl3, World.putObj_heap_same (Array.getElem?_eq_some_iff.1 hl3).1, (World.putObj_heap_other (by omega)).trans (hk3.same _ _ (Nat.le_refl _) hk2 rfl)⟩
    cases e with
    | normal =>
      obtain ⟨hk3, hkp3, hi3⟩ := hp
      obtain ⟨hr, hl3, hl4, hk4⟩ := ends none hk3
      exact ⟨_, _, hr, .inl ⟨rfl, ⟨hI.putObj _ hi3 (by omega) hl3 rfl, hl4, hk4⟩, hKt hw2 (hKt hkp3 (hKb _ _ _ _ (by omega) hl3 rfl rfl))⟩⟩
    | ret =>
      obtain ⟨hk3, hi3⟩ := hp
      obtain ⟨hr, hl3, hl4, hk4⟩ := ends (some .ret) hk3
      exact ⟨_, _, hr, .inr ⟨rfl, hIx.putObj _ hi3 (by omega) hl3 rfl, hl4, hk4⟩⟩
    | exit id => exact hp.elim
    | goto t => exact hp.elim
    | panic ch => exact hp.elim
    | outgrown => exact hp.elim
  case behind =>
    rintro e W2 ⟨⟨v, rfl⟩, (⟨hi, hl, hk⟩ | ⟨pre, hSp, hi, hl, hk⟩)⟩
    · exact ⟨none, _, by have h5 := run_endLoop (P := P) hl (by rw [hrc]; simp); rw [hrc] at h5; exact h5, hdone _ _ (Nat.le_refl _) (hI.putObj _ hi (by omega) hl rfl) ((World.putObj_heap_other (by omega)).trans hk)⟩
    · exact ⟨some .ret, _, by have h5 := run_endLoop (P := P) hl (by rw [hrc]; simp); rw [hrc] at h5; exact h5, hstop _ pre _ (Nat.le_refl _) hSp (hIx.putObj _ hi (by omega) hl rfl) ((World.putObj_heap_other (by omega)).trans hk)⟩
end Go.Proofs.YtohhokjlgihbgaaGreatDoor
/- The contracts of utf.Count, of Each (package props) and of its iterator. -/
namespace Go.Proofs
open Go.Shelf
def Tryz.lays195_ren : Go.Shelf.Ren := ⟨fun | 195 => 79 | n => n, fun | 9 => 9 | 3 => 3 | 0 => 0 | 4 => 4 | n => n, fun | n => n⟩
theorem Tryz.lays195 : Go.Proofs.Lays.n195 Tryz.prog Tryz.lays195_ren := {
  mixed := by kernel_rfl
  f195 := Tryz.func79.trans (congrArg some (by kernel_rfl))
  t0 := Tryz.underlying0
  a0 := Tryz.isAgg0
  z0 := Tryz.sizeOf0
  v0 := Tryz.zeroValue0
  t3 := Tryz.underlying3
  a3 := Tryz.isAgg3
  z3 := Tryz.sizeOf3
  v3 := Tryz.zeroValue3
  t4 := Tryz.underlying4
  a4 := Tryz.isAgg4
  z4 := Tryz.sizeOf4
  v4 := Tryz.zeroValue4
  t9 := Tryz.underlying9
  a9 := Tryz.isAgg9
  z9 := Tryz.sizeOf9
  v9 := Tryz.zeroValue9 }
namespace YtohhokjlgihbgaaGreatDoor
open Go.RowKit
attribute [local go_sem] Oper.semAt_some

set_option maxHeartbeats 400000 in
theorem ucount_any (l : List UInt8) (w : World) (hl : l.length < 9223372036854775807) :
    Calls Tryz.prog 46 #[.string ⟨l.toArray⟩] w fun e w' => (∃ k : Nat, k ≤ l.length ∧ e = .returned (.int .i64 (k : Int))) ∧ Below w.heap.size w w' := by
  have hs' : (⟨l.toArray⟩ : ByteArray).size < 9223372036854775807 := by show l.toArray.size < _; simpa using hl
  have HS := hid hs'
  have HLE := hid (show Lib.runeCount ⟨l.toArray⟩ ≤ l.length by have h5 := Lib.runeCount_le ⟨l.toArray⟩; have h6 : (⟨l.toArray⟩ : ByteArray).size = l.length := by { show l.toArray.size = _; simp }; omega)
  clear hs'
  go_enter Tryz.func46, Tryz.ntmps46
  go_wp2_with (go_at_call 79; refine (Any.utf8_RuneCountInString Tryz.lays195 ⟨l.toArray⟩ _ HS.out).mono ?_; rintro e w1 ⟨rfl, pos, rfl⟩)
  go_ret
  exact ⟨⟨_, HLE.out, rfl⟩, (Below.refl _ _).alloc (Nat.le_refl _) _⟩
set_option maxHeartbeats 1000000 in
set_option maxRecDepth 100000 in
theorem get_p (P : Nat) (x y : Value) (po : Option Addr) (pc : Nat) (A : List Tr) (r : Int) (w : World) (h : w.heap[P]? = some (.cells #[x, y, .slice po A.length pc] 76 (0, 0))) (ha : RdK w po (A.map rkT)) (hl : A.length ≤ 10000000) (hp : A.Pairwise fun x y => x.2.1 < y.2.1) (he : ∃ g ∈ A, g.2.1 = 1114111) :
    Calls Tryz.prog 24 #[.pointer (some ⟨P, 0, none⟩), .int .i32 r] w fun e w' => e = .returned (.int .i64 (gtp (instd r) A : Nat)) ∧ Below w.heap.size w w' := by
  have c2 := cell_row w P 2 [x, y, .slice po A.length pc] 76 _ h rfl
  have hin : instd r ≤ 1114111 := by unfold instd; split <;> omega
  obtain ⟨xx, hx, hg⟩ := gtp_at (instd r) A (by obtain ⟨g, h5, h6⟩ := he; exact ⟨g, h5, by omega⟩)
  have HS := hid (search_get po pc A (instd r) (ahd (instd r) A) w ha (by omega) (ahd_le _ A) (ahd_lo (instd r) A) (ahd_hi (instd r) A hp))
  have hPl := lt_of_heap h
  have HPB := hid (show ∀ W, Below w.heap.size w W → W.cell? ⟨P, 2, none⟩ = some (.slice po A.length pc) from fun W hW => (hW.cell (p := ⟨P, 2, none⟩) hPl).trans c2)
  have hsl := (List.getElem?_eq_some_iff.1 hx).1
  have HAB := hid (show ∀ W, Below w.heap.size w W → ∃ a : Addr, po = some a ∧ W.cell? ⟨(a.add (ahd (instd r) A * 3)).block, (a.add (ahd (instd r) A * 3)).off + 2, none⟩ = some (.int .i64 (xx.2.2 : Int)) from fun W hW => by
    obtain ⟨a, e1, _, _, _, e4⟩ := (ha.below hW) (ahd (instd r) A) (rkT xx) (by rw [List.getElem?_map, hx]; rfl)
    exact ⟨a, e1, e4⟩)
  rw [hg]
  obtain ⟨s, hse⟩ : ∃ s, s = ahd (instd r) A := ⟨_, rfl⟩
  obtain ⟨n, hn⟩ : ∃ n, n = A.length := ⟨_, rfl⟩
  rw [← hse] at HS HAB hsl
  rw [← hn] at HS HPB c2 hsl hl
  have s1 : (s : Int) < (n : Int) := by omega
  have s0 : (0 : Int) ≤ (s : Int) := by omega
  clear h ha hp he hx hg hse hn hin
  by_cases h0 : r < 0
  · have hi : instd r = 65533 := by unfold instd; rw [if_pos (.inl h0)]
    rw [hi] at HS
    clear hi
    go_enter Tryz.func24, Tryz.ntmps24
    go_wp2_with fail
    refine HS.out.mono ?_
    rintro e w1 ⟨⟨d, rfl⟩, b1⟩
    have HB1 := hid b1
    obtain ⟨a, rfl, a2⟩ := HAB.out w1 b1
    have c3 := HPB.out w1 b1
    clear b1 HS c2
    go_wp2
    go_ret
    exact ⟨rfl, HB1.out⟩
  by_cases h1 : 1114111 < r
  · have hi : instd r = 65533 := by unfold instd; rw [if_pos (.inr h1)]
    rw [hi] at HS
    clear hi
    go_enter Tryz.func24, Tryz.ntmps24
    go_wp2_with fail
    refine HS.out.mono ?_
    rintro e w1 ⟨⟨d, rfl⟩, b1⟩
    have HB1 := hid b1
    obtain ⟨a, rfl, a2⟩ := HAB.out w1 b1
    have c3 := HPB.out w1 b1
    clear b1 HS c2
    go_wp2
    go_ret
    exact ⟨rfl, HB1.out⟩
  · have hi : instd r = r := by unfold instd; rw [if_neg (by omega)]
    rw [hi] at HS
    clear hi
    go_enter Tryz.func24, Tryz.ntmps24
    go_wp2_with fail
    refine HS.out.mono ?_
    rintro e w1 ⟨⟨d, rfl⟩, b1⟩
    have HB1 := hid b1
    obtain ⟨a, rfl, a2⟩ := HAB.out w1 b1
    have c3 := HPB.out w1 b1
    clear b1 HS c2
    go_wp2
    go_ret
    exact ⟨rfl, HB1.out⟩

/-- The runes of a text with their classes. -/
def evs (A : List Tr) (l : List UInt8) (t : Nat) : List (Nat × Nat) := (plr l t).map fun x => (x.1, gtp (instd x.2) A)
theorem evs_step (A : List Tr) (l : List UInt8) (t : Nat) (h : t < l.length) : evs A l t = (t, gtp (instd ((Utf8.decode ⟨l.toArray⟩ t).1 : Int)) A) :: evs A l (t + (Utf8.decode ⟨l.toArray⟩ t).2) := by
  unfold evs
  rw [plr_step l t h]; rfl
theorem evs_end (A : List Tr) (l : List UInt8) (t : Nat) (h : ¬ t < l.length) : evs A l t = [] := by unfold evs; rw [plr_end l t h]; rfl
/-- What the iterator of Each has caught: the database and the text. -/
structure EachAt (Bd Bl P : Nat) (x y : Value) (po : Option Addr) (pc : Nat) (A : List Tr) (l : List UInt8) (w : World) : Prop where
  bd : Boxed w Bd 24 (.pointer (some ⟨P, 0, none⟩))
  bl : Boxed w Bl 9 (.string ⟨l.toArray⟩)
  hP : w.heap[P]? = some (.cells #[x, y, .slice po A.length pc] 76 (0, 0))
  row : ∀ a : Addr, po = some a → ∃ c fz, w.heap[a.block]? = some (.cells c 86 fz)
  rd : RdK w po (A.map rkT)
def KE (Bd Bl P : Nat) (po : Option Addr) (k : Nat) : Prop := k = Bd ∨ k = Bl ∨ k = P ∨ ∃ a : Addr, po = some a ∧ a.block = k
section
variable {Bd Bl P : Nat} {x y : Value} {po : Option Addr} {pc : Nat} {A : List Tr} {l : List UInt8} {w w' : World}
theorem EachAt.lt (h : EachAt Bd Bl P x y po pc A l w) : ∀ k, KE Bd Bl P po k → k < w.heap.size := fun k hk => by
  rcases hk with rfl | rfl | rfl | ⟨a, h1, rfl⟩
  · exact h.bd.lt
  · exact h.bl.lt
  · exact lt_of_heap h.hP
  · obtain ⟨c, fz, hc⟩ := h.row a h1
    exact lt_of_heap hc
theorem EachAt.keeps (h : EachAt Bd Bl P x y po pc A l w) (hs : w.heap.size ≤ w'.heap.size) (hk : ∀ k, KE Bd Bl P po k → w'.heap[k]? = w.heap[k]?) : EachAt Bd Bl P x y po pc A l w' where
  bd := (hk Bd (.inl rfl)).trans h.bd
  bl := (hk Bl (.inr (.inl rfl))).trans h.bl
  hP := (hk P (.inr (.inr (.inl rfl)))).trans h.hP
  row := fun a ha => by
    obtain ⟨c, fz, hc⟩ := h.row a ha
    exact ⟨c, fz, (hk a.block (.inr (.inr (.inr ⟨a, ha, rfl⟩)))).trans hc⟩
  rd := fun k g hg => by
    obtain ⟨a, h1, h2, h3, h4, h5⟩ := h.rd k g hg
    have hb := hk a.block (.inr (.inr (.inr ⟨a, h1, rfl⟩)))
    exact ⟨a, h1, Nat.lt_of_lt_of_le h2 hs, (World.cell?_of_block (w := w) (a := a.add (k * 3)) (by rw [add_blk]; exact hb)).trans h3, (World.cell?_of_block (w := w) (a := ⟨(a.add (k * 3)).block, (a.add (k * 3)).off + 1, none⟩) (by show _[(a.add (k * 3)).block]? = _[(a.add (k * 3)).block]?; rw [add_blk]; exact hb)).trans h4, (World.cell?_of_block (w := w) (a := ⟨(a.add (k * 3)).block, (a.add (k * 3)).off + 2, none⟩) (by show _[(a.add (k * 3)).block]? = _[(a.add (k * 3)).block]?; rw [add_blk]; exact hb)).trans h5⟩
theorem EachAt.below {B : Nat} (h : EachAt Bd Bl P x y po pc A l w) (hb : Below B w w') (hB : w.heap.size ≤ B) : EachAt Bd Bl P x y po pc A l w' :=
  h.keeps hb.size (fun k h2 => hb.block k (Nat.lt_of_lt_of_le (h.lt k h2) hB))
end
def encE (x : Nat × Nat) : Array Value := #[.int .i64 (x.1 : Int), .int .i64 (x.2 : Int)]

set_option maxHeartbeats 1000000 in
theorem each_stops (n : Nat) (hn : 1 ≤ n) (Bd Bl P : Nat) (x y : Value) (po : Option Addr) (pc : Nat) (A : List Tr) (l : List UInt8) (w : World) (hR : EachAt Bd Bl P x y po pc A l w) (hA : A.length ≤ 10000000) (hp : A.Pairwise fun x y => x.2.1 < y.2.1) (he : ∃ g ∈ A, g.2.1 = 1114111) :
    CaughtStops Fence.wide n Tryz.prog 47 #[.pointer (some ⟨Bd, 0, none⟩), .pointer (some ⟨Bl, 0, none⟩)] encE none (EachAt Bd Bl P x y po pc A l) (Kr (KE Bd Bl P po)) (evs A l 0) w := fun lp J Jx W hbW hJ hJx hY h0 => by
  have HRW := hid (hR.below hbW (Nat.le_refl _))
  have HSZ := hid (show (⟨l.toArray⟩ : ByteArray).size = l.length by show l.toArray.size = _; simp)
  have c1 := HRW.out.bd.cell
  have c2 := HRW.out.bl.cell
  have HP := hid hp
  have HE := hid he
  clear hR hbW hp he
  refine callsIn_of_wp Tryz.func47 rfl trivial ?_ rfl
  simp only [Tryz.ntmps47, List.size_toArray, List.length_cons, List.length_nil, Nat.reduceAdd, Nat.reduceSub, Array.replicate_succ, Array.replicate_zero, List.push_toArray, List.append_toArray, List.nil_append, List.cons_append]
  gi_wp2
  have hJ0 : J [] (W.iter ⟨l.toArray⟩ 0) := hJ [] W _ h0 ⟨none, World.grownBy_alloc W _ none, fun r e => by cases e⟩
  have hit0 : (W.iter ⟨l.toArray⟩ 0).heap[W.heap.size]? = some (.stringIter ⟨l.toArray⟩ 0) := World.iter_heap W _ 0
  have HRI := hid (HRW.out.below (B := W.heap.size) ((Below.refl _ W).alloc (Nat.le_refl _) (.stringIter ⟨l.toArray⟩ 0)) (Nat.le_refl _))
  gi_loopw [4] (fun _ wr => ∃ (t : Nat) (pre : List (Nat × Nat)), Hid (evs A l 0 = pre ++ evs A l t) ∧ Hid (wr.heap[W.heap.size]? = some (.stringIter ⟨l.toArray⟩ t)) ∧ Hid (J pre wr) ∧ Hid (EachAt Bd Bl P x y po pc A l wr)) (fun _ wr => l.length - wr.iterPos W.heap.size)
  case atStart => exact ⟨0, [], by simp [Hid], hit0, hJ0, HRI⟩
  case round =>
    obtain ⟨t, pre, HPR, HI, HJ, HRr⟩ := hrel
    clear hJ0 hit0 HRI c1 c2
    by_cases hlt : t < l.length
    · have hnx := run_next_at (P := Tryz.prog) wr W.heap.size ⟨l.toArray⟩ t 0 HI.out (by rw [HSZ.out]; exact hlt)
      have d1 := Lib.width_pos ⟨l.toArray⟩ t
      have HST := hid (evs_step A l t hlt)
      obtain ⟨nn, hnn⟩ : ∃ nn, nn = (Utf8.decode ⟨l.toArray⟩ t).2 := ⟨_, rfl⟩
      obtain ⟨rr, hrr⟩ : ∃ rr : Int, rr = ((Utf8.decode ⟨l.toArray⟩ t).1 : Int) := ⟨_, rfl⟩
      rw [← hnn] at hnx d1 HST
      rw [← hrr] at hnx HST
      obtain ⟨w1, hw1⟩ : ∃ w1, w1 = wr.putObj W.heap.size (.stringIter ⟨l.toArray⟩ (t + nn)) := ⟨_, rfl⟩
      rw [← hw1] at hnx
      have hin : W.heap.size < wr.heap.size := (Array.getElem?_eq_some_iff.1 HI.out).1
      have HJ1 := hid (show J pre w1 by
        rw [hw1]
        exact hJ pre wr _ HJ.out ⟨some W.heap.size, grownBy_putObj' wr _ _, fun r e => by cases e; exact .inr ⟨Nat.le_refl _, _, HI.out, rfl⟩⟩)
      have HIt1 := hid (show w1.heap[W.heap.size]? = some (.stringIter ⟨l.toArray⟩ (t + nn)) by rw [hw1]; exact World.putObj_heap_same hin)
      have HR1 := hid (show EachAt Bd Bl P x y po pc A l w1 by
        rw [hw1]
        exact HRr.out.keeps (grownBy_putObj' wr _ _).size (fun k h2 => World.putObj_heap_other (by have := HRW.out.lt k h2; omega)))
      have HM := hid (show l.length - wr.iterPos W.heap.size = l.length - t by unfold World.iterPos; rw [HI.out])
      have HGT := hid (get_p P x y po pc A rr w1 HR1.out.hP HR1.out.rd hA HP.out HE.out)
      have e1 := HR1.out.bd.cell
      clear hnn hrr hw1
      gi_wp2_with fail
      refine ⟨trivial, (callsIn_wide.2 HGT.out).mono ?_⟩
      rintro e w2 ⟨rfl, b2⟩
      have HJ2 := hid (hJ pre w1 w2 HJ1.out ⟨none, grown_below b2, fun r e => by cases e⟩)
      have HR2 := hid (HR1.out.below b2 (Nat.le_refl _))
      have HIt2 := hid ((b2.block W.heap.size (Array.getElem?_eq_some_iff.1 HIt1.out).1).trans HIt1.out)
      obtain ⟨gc, hgc⟩ : ∃ gc, gc = gtp (instd rr) A := ⟨_, rfl⟩
      rw [← hgc] at HST ⊢
      have HP2 := hid (show evs A l 0 = (pre ++ [(t, gc)]) ++ evs A l (t + nn) by rw [HPR.out, HST.out]; simp)
      obtain ⟨fn, tmps, assign, body, hy, hR⟩ := hY pre (t, gc) w2 (by rw [HP2.out]; exact List.prefix_append _ _) HR2.out HJ2.out
      dsimp only [encE] at hy
      clear b2 HGT HJ1 HR1 HIt1 e1 hY hgc HPR HST
      gi_wp2
      refine hR.mono ?_
      rintro e W3 (⟨rfl, hJ3, hk3⟩ | ⟨rfl, hJx3⟩)
      · have HI3 := hid (hk3.1.same _ _ HIt2.out rfl)
        have HJ3 := hid hJ3
        have HR3 := hid (HR2.out.keeps hk3.1.size hk3.2)
        clear hJ3 hk3
        gi_wp2
        go_roundw
        case rel => exact ⟨t + nn, pre ++ [(t, gc)], HP2, HI3, HJ3, HR3⟩
        case measure =>
          rw [HM.out]
          unfold World.iterPos
          rw [HI3.out]
          simp only []
          omega
      · have HJX := hid hJx3
        clear hJx3
        gi_wp2
        refine bodyPost_ret (results_none rfl _ _ _) rfl ?_
        exact ⟨⟨_, rfl⟩, .inr ⟨pre ++ [(t, gc)], (by rw [HP2.out]; exact List.prefix_append _ _), HJX.out⟩⟩
    · have hnx := run_next_stop (P := Tryz.prog) wr W.heap.size ⟨l.toArray⟩ t 0 HI.out (by rw [HSZ.out]; exact hlt)
      have HF := hid (show evs A l 0 = pre by rw [HPR.out, evs_end A l t hlt]; simp)
      clear hY
      gi_wp2
      go_end0
      exact ⟨⟨_, rfl⟩, .inl (by rw [HF.out]; exact HJ.out)⟩
set_option maxRecDepth 100000 in
theorem each_any (P : Nat) (l : List UInt8) (w : World) :
    Calls Tryz.prog 17 #[.pointer (some ⟨P, 0, none⟩), .string ⟨l.toArray⟩] w fun e w' => e = .returned (.func (.func 47) #[] #[.pointer (some ⟨w.heap.size, 0, none⟩), .pointer (some ⟨w.heap.size + 1, 0, none⟩)]) ∧ w' = (w.alloc (.cells #[.pointer (some ⟨P, 0, none⟩)] 24)).alloc (.cells #[.string ⟨l.toArray⟩] 9) := by
  go_enter Tryz.func17, Tryz.ntmps17
  go_wp2
  go_ret
  exact ⟨rfl, rfl⟩
end YtohhokjlgihbgaaGreatDoor
end Go.Proofs
/- What New makes of the two texts of live. -/
namespace Go.Proofs.YtohhokjlgihbgaaGreatDoor

def sml : List UInt8 := [85, 43, 48, 51, 48, 48, 45, 85, 43, 48, 51, 54, 70, 32, 59, 32, 69, 120, 116, 101, 110, 100, 10, 85, 43, 48, 48, 54, 49, 45, 85, 43, 48, 48, 55, 65, 32, 85, 43, 48, 48, 69, 57, 32, 59, 32, 76, 101, 116, 116, 101, 114, 10]
def sm2 : List UInt8 := [39, 97, 39, 32, 59, 32, 65, 10, 39, 97, 39, 45, 39, 98, 39, 32, 59, 32, 66]
def ext : List UInt8 := [69, 120, 116, 101, 110, 100]
def lett : List UInt8 := [76, 101, 116, 116, 101, 114]
def smS : List Tr := [(97, 122, 2), (233, 233, 2), (768, 879, 1)]
def smA : List Tr := [(0, 96, 0), (97, 122, 2), (123, 232, 0), (233, 233, 2), (234, 767, 0), (768, 879, 1), (880, 1114111, 0)]
def smt : List UInt8 := [101, 204, 129, 255]
theorem lns_sml : lns sml = [sml.take 22, (sml.drop 23).take 29, []] := by kernel_rfl
theorem whl_sml : whl smS = smA := by kernel_rfl
theorem rd_1 : rdS [oth] [] (sml.take 22) = (0, [oth, ext], [(768, 879, 1)]) := by kernel_rfl
theorem rd_2 : rdS [oth, ext] [(768, 879, 1)] ((sml.drop 23).take 29) = (0, [oth, ext, lett], smS) := by kernel_rfl
theorem rd_3 : rdS [oth, ext, lett] smS [] = (0, [oth, ext, lett], smS) := by kernel_rfl
theorem nw_sml : nw sml = ((0, 0), [oth, ext, lett], smS) := by kernel_rfl
theorem nw_sm2 : (nw sm2).1 = (41, 2) := by kernel_rfl
theorem evs_sml : evs smA smt 0 = [(0, 2), (1, 1), (3, 0)] := by kernel_rfl
theorem tx_sml : tx4 smA [oth, ext, lett] 3 = sml := by kernel_rfl
theorem rgd_sml : (rgd smA).length = 3 := by kernel_rfl
theorem st_sml : (smA.Pairwise fun x y => x.2.1 < y.2.1) ∧ ∃ g ∈ smA, g.2.1 = 1114111 := by decide
end Go.Proofs.YtohhokjlgihbgaaGreatDoor
/- Contracts of library functions, laid at this program. -/
namespace Go.Proofs
open Go.Shelf
def Tryz.lays143_ren : Go.Shelf.Ren := ⟨fun | 143 => 88 | 219 => 112 | 217 => 134 | 225 => 135 | 224 => 136 | 267 => 137 | 266 => 158 | 314 => 159 | n => n, fun | 9 => 9 | 3 => 3 | 4 => 4 | 5 => 5 | 46 => 128 | 146 => 192 | 51 => 191 | n => n, fun | 1 => 2 | n => n⟩
theorem Tryz.lays143 : Go.Proofs.Lays.n143 Tryz.prog Tryz.lays143_ren := {
  mixed := by kernel_rfl
  f143 := Tryz.func88.trans (congrArg some (by kernel_rfl))
  f217 := Tryz.func134.trans (congrArg some (by kernel_rfl))
  f219 := Tryz.func112.trans (congrArg some (by kernel_rfl))
  f224 := Tryz.func136.trans (congrArg some (by kernel_rfl))
  f225 := Tryz.func135.trans (congrArg some (by kernel_rfl))
  f266 := Tryz.func158.trans (congrArg some (by kernel_rfl))
  f267 := Tryz.func137.trans (congrArg some (by kernel_rfl))
  f314 := Tryz.func159.trans (congrArg some (by kernel_rfl))
  t3 := Tryz.underlying3
  a3 := Tryz.isAgg3
  z3 := Tryz.sizeOf3
  v3 := Tryz.zeroValue3
  t4 := Tryz.underlying4
  a4 := Tryz.isAgg4
  z4 := Tryz.sizeOf4
  v4 := Tryz.zeroValue4
  t5 := Tryz.underlying5
  a5 := Tryz.isAgg5
  z5 := Tryz.sizeOf5
  v5 := Tryz.zeroValue5
  t9 := Tryz.underlying9
  a9 := Tryz.isAgg9
  z9 := Tryz.sizeOf9
  v9 := Tryz.zeroValue9
  t46 := Tryz.underlying128
  a46 := Tryz.isAgg128
  z46 := Tryz.sizeOf128
  v46 := Tryz.zeroValue128
  t51 := Tryz.underlying191
  a51 := Tryz.isAgg191
  z51 := Tryz.sizeOf191
  v51 := Tryz.zeroValue191
  t146 := Tryz.underlying192
  a146 := Tryz.isAgg192
  z146 := Tryz.sizeOf192
  v146 := Tryz.zeroValue192
  g1 := by kernel_rfl }
end Go.Proofs
/- The contract of strings.Index at one byte; the boxes of strings.splitSeq. -/
namespace Go.Proofs.YtohhokjlgihbgaaGreatDoor
open Go.RowKit Go.Shelf

theorem index_any (l : List UInt8) (w : World) : Calls Tryz.prog 88 #[.string ⟨l.toArray⟩, .string ⟨#[10]⟩] w fun e w' => e = .returned (.int .i64 (Lib.indexByte l 10)) ∧ w' = w :=
  Any.strings_Index_one Tryz.lays143 ⟨l.toArray⟩ 10 w
set_option maxRecDepth 100000 in
theorem splitSeq_any (l : List UInt8) (w : World) :
    Calls Tryz.prog 35 #[.string ⟨l.toArray⟩, .string ⟨#[10]⟩] w fun e w' => e = .returned (.func (.func 86) #[] #[.pointer (some ⟨w.heap.size + 1, 0, none⟩), .pointer (some ⟨w.heap.size, 0, none⟩), .pointer (some ⟨w.heap.size + 1 + 1, 0, none⟩)]) ∧ w' = ((w.alloc (.cells #[.string ⟨l.toArray⟩] 9)).alloc (.cells #[.string ⟨#[10]⟩] 9)).alloc (.cells #[.int .i64 0] 3) := by
  have HS := hid (show Calls Tryz.prog 64 #[.string ⟨l.toArray⟩, .string ⟨#[10]⟩, .int .i64 0] w fun e w' => e = .returned (.func (.func 86) #[] #[.pointer (some ⟨w.heap.size + 1, 0, none⟩), .pointer (some ⟨w.heap.size, 0, none⟩), .pointer (some ⟨w.heap.size + 1 + 1, 0, none⟩)]) ∧ w' = ((w.alloc (.cells #[.string ⟨l.toArray⟩] 9)).alloc (.cells #[.string ⟨#[10]⟩] 9)).alloc (.cells #[.int .i64 0] 3) from by
    go_enter Tryz.func64, Tryz.ntmps64
    go_wp2
    go_ret
    exact ⟨rfl, rfl⟩)
  go_enter Tryz.func35, Tryz.ntmps35
  go_wp2_with fail
  refine HS.out.mono ?_
  rintro e w1 ⟨rfl, rfl⟩
  clear HS
  go_wp2
  go_ret
  exact ⟨rfl, rfl⟩
end Go.Proofs.YtohhokjlgihbgaaGreatDoor
