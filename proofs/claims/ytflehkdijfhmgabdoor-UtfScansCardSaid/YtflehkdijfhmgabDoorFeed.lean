/- The contract of Feed (package utf). -/
import Derived.Test.YtflehkdijfhmgabDoorConcat
import Derived.Deep.RegionHeld3
import Derived.Laws.CopyOwn
import Derived.Laws.Pointers
import Derived.Lib.BufferMore
namespace Go.Proofs.YtflehkdijfhmgabDoor
open Go.RowKit

/-- One block has turned, and nothing else. -/
structure Only (g : Nat) (w w' : World) : Prop where
  os : w'.os = w.os
  tape : w'.tape = w.tape
  output : w'.output = w.output
  size : w'.heap.size = w.heap.size
  block : ∀ k, k ≠ g → w'.heap[k]? = w.heap[k]?

/-- copy into a row that is known whole, as one step of a region that draws its order: the world written out. -/
theorem step_copy_set {P : Program} {ops : Array Oper} {o : Oper} {a : Act} {w : World} {K : Act → World → Prop} {Q : Exit → Act → World → Prop} {E : Prop} (hgd : o.guard = none) (d s : Operand) (dT sT : TypeId)
    (ho : o.op = .call { callee := .builtin .copy, args := #[d, s], argTypes := #[dT, sT] }) (elem : TypeId) (hu : P.underlying dT = some (.slice elem)) (hsz : (P.info? elem).map (·.size) = some 1)
    (dp sp : Option Addr) (dLen dCap sLen sCap : Nat) (hd : a.eval d = .slice dp dLen dCap) (hs : a.eval s = .slice sp sLen sCap)
    (g off : Nat) (cur : List Value) (t : TypeId) (hg : w.heap[g]? = some (.cells cur.toArray t (0, 0))) (cs : List Value) (hn : cs.length = Nat.min sLen dLen)
    (hpos : 0 < cs.length → dp = some ⟨g, off, none⟩ ∧ ∃ ad, sp = some ad ∧ ∀ j v, cs[j]? = some v → w.cell? (ad.add j) = some v)
    (hfit : off + cs.length ≤ cur.length) (h1 : ∀ v ∈ cs, v.oneCell' = true)
    (h : ∀ w', Hid (w'.heap[g]? = some (.cells (splice cur off cs).toArray t (0, 0))) → Hid (Only g w w') → K (a.put o.dst (goInt cs.length)) w') :
    if Region.wanted o (yielded ops a.tmps) = true then Oper.wp P o a w K Q else E := by
  have hw : Region.wanted o (yielded ops a.tmps) = true := by simp [Region.wanted, hgd]
  rw [if_pos hw]
  by_cases h0 : cs.length = 0
  · obtain rfl : cs = [] := List.eq_nil_of_length_eq_zero h0
    have hrun := run_copy_none (P := P) w dT sT o.type elem dp sp dLen dCap sLen sCap hu hsz (by simpa using hn.symm)
    unfold Oper.wp
    simp [execOp, ho, resolve, invoke, builtin, hd, hs, hrun, Result.andThen]
    exact h w (show _ = _ by simpa [splice] using hg) (show Only g w w from ⟨rfl, rfl, rfl, rfl, fun _ _ => rfl⟩)
  · obtain ⟨rfl, ad, rfl, hsrc⟩ := hpos (by omega)
    have hrun := run_copy_row (P := P) w dT sT o.type elem g off dLen dCap ad sLen sCap cur.toArray t cs hu hsz hg hn hsrc (by simpa using hfit) h1
    unfold Oper.wp
    simp [execOp, ho, resolve, invoke, builtin, hd, hs, hrun, Result.andThen]
    exact h _ (show _ = _ by simpa [splice] using setRow_heap w g _ _ t _ hg) (show Only g w _ from ⟨rfl, rfl, rfl, by simp, fun k hk => setRow_other w g k _ hk⟩)

theorem splice_at (cur cs : List Value) (i : Nat) (h : cs.length ≤ i) : (splice cur 0 cs)[i]? = cur[i]? := by
  simp [splice, List.getElem?_append, show ¬ i < cs.length by omega]
  congr 1
  omega

/-- A Scanner at a block: the bytes that it holds, how many it was fed. -/
def ScAt (w : World) (x : Nat) (hd : List Int) (F : Int) : Prop :=
  ∃ a b c : Int, w.heap[x]? = some (.cells #[.int .u8 a, .int .u8 b, .int .u8 c, .int .i64 hd.length, .int .i64 F] 56 (0, 0)) ∧ hd = [a, b, c].take hd.length ∧ hd.length ≤ 3

/-- Below a number all blocks but one are as they were. -/
structure But (x B : Nat) (w w' : World) : Prop where
  os : w'.os = w.os
  tape : w'.tape = w.tape
  output : w'.output = w.output
  size : w.heap.size ≤ w'.heap.size
  block : ∀ k, k < B → k ≠ x → w'.heap[k]? = w.heap[k]?

theorem scan_eq (bk off n cap : Nat) (b' base : Int) (bs : List Int) (w : World) (hb' : b' = base) (hl : bs.length = n) (hn : n ≤ 1000000000000) (hb0 : 0 ≤ base) (hb1 : base ≤ 1000000000000)
    (hbk : bk < w.heap.size) (hbd : ∀ i, i < n → 0 ≤ bs.getD i 0 ∧ bs.getD i 0 < 256) (hc : ∀ i, i < n → w.cell? ⟨bk, off + i, none⟩ = some (.int .u8 (bs.getD i 0))) :
    Calls Tryd.prog 27 #[.slice (some ⟨bk, off, none⟩) n cap, .int .i64 b'] w (scQ base bs w) := by
  subst hb'
  exact scan_any bk off n cap b' bs w hl hn hb0 hb1 hbk hbd hc

theorem ownsRow_same {w w' : World} {B : Nat} {e : TypeId} {size : Nat} {v : Value} {n : Nat} {xs : List Value} (hk : ∀ k, B ≤ k → w'.heap[k]? = w.heap[k]?) (h : w.ownsRow B e size v n xs) : w'.ownsRow B e size v n xs := by
  refine ⟨h.1, ?_⟩
  rcases h.2 with h0 | ⟨g, cap, cur, hv, hb, hg, hr⟩
  · exact Or.inl h0
  · exact Or.inr ⟨g, cap, cur, hv, hb, (hk g hb).trans hg, hr⟩

theorem ownsRow_base {w : World} {B B' : Nat} {e : TypeId} {size : Nat} {v : Value} {n : Nat} {xs : List Value} (hB : B' ≤ B) (h : w.ownsRow B e size v n xs) : w.ownsRow B' e size v n xs := by
  refine ⟨h.1, ?_⟩
  rcases h.2 with h0 | ⟨g, cap, cur, hv, hb, hg, hr⟩
  · exact Or.inl h0
  · exact Or.inr ⟨g, cap, cur, hv, Nat.le_trans hB hb, hg, hr⟩

theorem scat_of (w3 : World) (x : Nat) (a b c L F : Int) (d : List Int) (cs : List Value) (hd : d.length ≤ 3) (hcs : cs = d.map (Value.int .u8))
    (hg3 : w3.heap[x]? = some (.cells (splice [.int .u8 a, .int .u8 b, .int .u8 c, .int .i64 L, .int .i64 F] 0 cs).toArray 56 (0, 0))) :
    ScAt (w3.setCell ⟨x, 3, none⟩ (.int .i64 cs.length)) x d F := by
  have h := Lib.heap_setCell_same (i := 3) hg3 (.int .i64 cs.length)
  subst hcs
  match d, hd with
  | [], _ => exact ⟨a, b, c, by rw [h]; simp [splice], by simp, by simp⟩
  | [y], _ => exact ⟨y, b, c, by rw [h]; simp [splice], by simp, by simp⟩
  | [y, z], _ => exact ⟨y, z, c, by rw [h]; simp [splice], by simp, by simp⟩
  | [y, z, u], _ => exact ⟨y, z, u, by rw [h]; simp [splice], by simp, by simp⟩

theorem scat_cells {w : World} {x : Nat} {hd : List Int} {F : Int} (h : ScAt w x hd F) : ∃ a b c : Int, w.heap[x]? = some (.cells #[.int .u8 a, .int .u8 b, .int .u8 c, .int .i64 hd.length, .int .i64 F] 56 (0, 0)) ∧ hd = [a, b, c].take hd.length ∧ hd.length ≤ 3 := h

/-- What Feed comes to. -/
def feedQ (x : Nat) (hd ps : List Int) (F : Int) (w : World) (e : Ending) (w' : World) : Prop :=
  ∃ v, e = .returned v ∧ w'.ownsRow w.heap.size 50 4 v (sc (F - hd.length) (hd ++ ps)).1.length (mkcs (sc (F - hd.length) (hd ++ ps)).1) ∧
    ScAt w' x ((hd ++ ps).drop (sc (F - hd.length) (hd ++ ps)).2) (F + ps.length) ∧ But x w.heap.size w w'

theorem Tryd.size5 : (Tryd.prog.info? 5).map (·.size) = some 1 := by kernel_rfl

set_option maxHeartbeats 1000000 in
theorem feed_0 (x q oq n cp : Nat) (a b c F : Int) (ps : List Int) (w : World) (hx : w.heap[x]? = some (.cells #[.int .u8 a, .int .u8 b, .int .u8 c, .int .i64 0, .int .i64 F] 56 (0, 0)))
    (hl : ps.length = n) (hn : n ≤ 1000000000000) (hF0 : 0 ≤ F) (hF1 : F ≤ 1000000000000) (hqx : q ≠ x) (hcp : n ≤ cp)
    (hq : q < w.heap.size) (hbd : ∀ i, i < n → 0 ≤ ps.getD i 0 ∧ ps.getD i 0 < 256) (hc : ∀ i, i < n → w.cell? ⟨q, oq + i, none⟩ = some (.int .u8 (ps.getD i 0))) :
    Calls Tryd.prog 11 #[.pointer (some ⟨x, 0, none⟩), .slice (some ⟨q, oq, none⟩) n cp] w (feedQ x [] ps F w) := by
  have x3 : w.cell? ⟨x, 3, none⟩ = some (.int .i64 0) := by rw [cell_of_row w x 3 _ 56 (0, 0) hx]; rfl
  have x4 : w.cell? ⟨x, 4, none⟩ = some (.int .i64 F) := by rw [cell_of_row w x 4 _ 56 (0, 0) hx]; rfl
  have hxs : x < w.heap.size := (Array.getElem?_eq_some_iff.1 hx).1
  have HC := hid hc
  have HBD := hid hbd
  have HX := hid hx
  clear hc hbd hx
  go_enter Tryd.func11, Tryd.ntmps11
  go_wp2_with fail
  go_region_held3 (fun w' => w'.cell? ⟨x, 4, none⟩ = some (.int .i64 F) ∧ w'.cell? ⟨x, 3, none⟩ = some (.int .i64 0))
    (first | go_keep | (refine ⟨(hB.cell (p := ⟨x, 4, none⟩) hxs).trans x4, (hB.cell (p := ⟨x, 3, none⟩) hxs).trans x3⟩))
    ((go_at_call 27; refine (scan_eq q oq n cp _ F ps _ (by rw [IntKind.wrap_i64]; omega) hl hn hF0 hF1 (by exact hq) HBD.out (by exact HC.out)).mono ?_; rintro e w1 ⟨v, rfl, hown, hB⟩))
  have hB' : Below w.heap.size w w1 := ((Below.refl w.heap.size w).drew).trans hB
  have hx1 : w1.heap[x]? = some (.cells #[.int .u8 a, .int .u8 b, .int .u8 c, .int .i64 0, .int .i64 F] 56 (0, 0)) := (hB'.block x hxs).trans HX.out
  have y4 : w1.cell? ⟨x, 4, none⟩ = some (.int .i64 F) := by rw [cell_of_row w1 x 4 _ 56 (0, 0) hx1]; rfl
  have z4 : w1.frozen? ⟨x, 4, none⟩ = false := frozen_of_row w1 x 4 _ 56 hx1
  have HX1 := hid hx1
  have hsn := (sc_end F ps).1
  have hs3 := sc_rest F ps
  rw [hl] at hsn hs3
  obtain ⟨su, hsu⟩ : ∃ su, (sc F ps).2 = su := ⟨_, rfl⟩
  rw [hsu] at hsn hs3 ⊢
  have HSU := hid hsu
  clear hsu hx1 hB x3 x4
  go_wp2_with fail
  obtain ⟨W2, hW2⟩ : ∃ W2, W2 = w1.setCell ⟨x, 4, none⟩ (.int .i64 (F + n)) := ⟨_, rfl⟩
  rw [← hW2]
  have hx2 : W2.heap[x]? = some (.cells [.int .u8 a, .int .u8 b, .int .u8 c, .int .i64 0, .int .i64 (F + n)].toArray 56 (0, 0)) := by
    rw [hW2]; exact Lib.heap_setCell_same (i := 4) HX1.out _
  have hq2 : ∀ i, i < n → W2.cell? ⟨q, oq + i, none⟩ = some (.int .u8 (ps.getD i 0)) := fun i hi => by
    rw [← HC.out i hi, ← hB'.cell (p := ⟨q, oq + i, none⟩) hq, hW2]
    exact World.cell?_of_block (Below.heap_setCell _ _ _ _ hqx)
  have ho2 : ∀ k, k ≠ x → W2.heap[k]? = w1.heap[k]? := fun k hk => by rw [hW2]; exact Below.heap_setCell _ _ _ _ hk
  have hs2 : W2.heap.size = w1.heap.size := by rw [hW2]; simp [World.setCell]
  have ht2 : W2.os = w1.os ∧ W2.tape = w1.tape ∧ W2.output = w1.output := by rw [hW2]; exact ⟨rfl, rfl, rfl⟩
  obtain ⟨cs, hcs⟩ : ∃ cs, cs = (ps.drop su).map (Value.int .u8) := ⟨_, rfl⟩
  have hcl : cs.length = n - su := by rw [hcs]; simp; omega
  have hc1 : ∀ v ∈ cs, v.oneCell' = true := by intro u hu; rw [hcs, List.mem_map] at hu; obtain ⟨y, _, rfl⟩ := hu; rfl
  have hcc : ∀ j v, cs[j]? = some v → W2.cell? ((⟨q, oq + su, none⟩ : Addr).add j) = some v := fun j v hj => by
    have hj' : j < cs.length := by
      rcases Nat.lt_or_ge j cs.length with h | h
      · exact h
      · rw [List.getElem?_eq_none h] at hj; cases hj
    rw [addr_add, Nat.add_assoc, hq2 (su + j) (by omega), ← hj, hcs]
    simp [List.getD, show su + j < ps.length by omega]
  have HX2 := hid hx2
  have HO2 := hid ho2
  have HCC := hid hcc
  have HC1 := hid hc1
  have HCL := hid hcl
  have HCS := hid hcs
  have HW2 := hid hs2
  have HT2 := hid ht2
  clear hx2 hq2 ho2 hcc hc1 hcl hcs hs2 ht2 hW2 y4 z4
  go_region_law ((refine step_copy_set (by rfl) (.tmp 54) (.tmp 57) 30 30 (by rfl) 5 Tryd.underlying30 Tryd.size5 (some ⟨x, 0, none⟩) (if cp = su then some ⟨q, oq, none⟩ else some ⟨q, oq + su, none⟩) 3 3 (n - su) (cp - su) (by simp [Act.eval, Act.put]) (by simp [Act.eval, Act.put]) x 0 [.int .u8 a, .int .u8 b, .int .u8 c, .int .i64 0, .int .i64 (F + n)] 56 (by exact HX2.out) cs (by rw [HCL.out]; exact (Nat.min_eq_left hs3).symm) (fun hp => ⟨rfl, ⟨q, oq + su, none⟩, if_neg (by have := HCL.out; omega), by exact HCC.out⟩) (by have := HCL.out; simp; omega) HC1.out ?_; intro w3 hg3 ho3; have c3 : w3.cell? ⟨x, 3, none⟩ = some (.int .i64 0) := (by rw [cell_of_row w3 x 3 _ 56 (0, 0) hg3.out, List.getElem?_toArray, splice_at _ cs 3 (by rw [HCL.out]; exact hs3)]; rfl); have f3 : w3.frozen? ⟨x, 3, none⟩ = false := frozen_of_row w3 x 3 _ 56 hg3.out))
  have e3 := scat_of w3 x a b c 0 (F + n) (ps.drop su) cs (by simp; omega) HCS.out hg3.out
  have hall : ∀ k, k ≠ x → (w3.setCell ⟨x, 3, none⟩ (.int .i64 cs.length)).heap[k]? = w1.heap[k]? := fun k hk => by
    rw [Below.heap_setCell _ _ _ _ hk, ho3.out.block k hk]; exact HO2.out k hk
  have hfin : feedQ x [] ps F w (.returned v) (w3.setCell ⟨x, 3, none⟩ (.int .i64 cs.length)) := by
   refine ⟨v, rfl, ?_, ?_, ?_⟩
   · simp only [List.nil_append, List.length_nil, Int.natCast_zero, Int.sub_zero]
     exact ownsRow_same (fun k hk => hall k (by have : w.heap.size ≤ k := hk; omega)) hown
   · simp only [List.nil_append, List.length_nil, Int.natCast_zero, Int.sub_zero]
     rw [HSU.out, hl]
     exact e3
   · obtain ⟨o1, o2, o3⟩ := HT2.out
     exact ⟨(ho3.out.os.trans o1).trans hB'.os, (ho3.out.tape.trans o2).trans hB'.tape, (ho3.out.output.trans o3).trans hB'.output, by have h1 := ho3.out.size; have h2 := HW2.out; have h3 := hB'.size; simp [World.setCell]; rw [h1]; show _ ≤ W2.heap.size; omega, fun k hk hkx => (hall k hkx).trans (hB'.block k hk)⟩
  have HFIN := hid hfin
  clear hfin e3 hall
  go_wp2
  all_goals (go_ret; exact HFIN.out)

theorem heldCells (a b c : Int) (L : Nat) (hd : List Int) (r1 r2 : Value) (hhd : hd = [a, b, c].take L) : ∀ (j : Nat) (u : Value), (hd.map (Value.int .u8))[j]? = some u → (#[.int .u8 a, .int .u8 b, .int .u8 c, r1, r2] : Array Value)[j]? = some u := by
  intro j u hj
  subst hhd
  rw [List.getElem?_map, List.getElem?_take] at hj
  split at hj
  · match j, hj with
    | 0, hj => simpa using hj
    | 1, hj => simpa using hj
    | 2, hj => simpa using hj
    | j + 3, hj => simp at hj
  · simp at hj

theorem map_getD (l : List Int) (i : Nat) (h : i < l.length) : (l.map (Value.int .u8))[i]? = some (.int .u8 (l.getD i 0)) := by
  simp [List.getD, h]

theorem map_one (l : List Int) : ∀ u ∈ l.map (Value.int .u8), u.oneCell' = true := by
  intro u hu; rw [List.mem_map] at hu; obtain ⟨y, _, rfl⟩ := hu; rfl

set_option maxHeartbeats 1000000 in
theorem feed_1 (x q oq n cp L : Nat) (a b c F : Int) (hd ps : List Int) (w : World) (hx : w.heap[x]? = some (.cells #[.int .u8 a, .int .u8 b, .int .u8 c, .int .i64 L, .int .i64 F] 56 (0, 0)))
    (hhd : hd = [a, b, c].take L) (hhl : hd.length = L) (hL0 : 0 < L) (hL3 : L ≤ 3) (hl : ps.length = n) (hn : n ≤ 900000000000) (hF0 : L ≤ F) (hF1 : F ≤ 1000000000000)
    (hq : q < w.heap.size) (hbh : ∀ i, i < L → 0 ≤ hd.getD i 0 ∧ hd.getD i 0 < 256) (hbd : ∀ i, i < n → 0 ≤ ps.getD i 0 ∧ ps.getD i 0 < 256) (hc : ∀ i, i < n → w.cell? ⟨q, oq + i, none⟩ = some (.int .u8 (ps.getD i 0))) :
    Calls Tryd.prog 11 #[.pointer (some ⟨x, 0, none⟩), .slice (some ⟨q, oq, none⟩) n cp] w (feedQ x hd ps F w) := by
  have x3 : w.cell? ⟨x, 3, none⟩ = some (.int .i64 L) := by rw [cell_of_row w x 3 _ 56 (0, 0) hx]; rfl
  have x4 : w.cell? ⟨x, 4, none⟩ = some (.int .i64 F) := by rw [cell_of_row w x 4 _ 56 (0, 0) hx]; rfl
  have hxs : x < w.heap.size := (Array.getElem?_eq_some_iff.1 hx).1
  have hxc : ∀ (j : Nat) (u : Value), (hd.map (Value.int .u8))[j]? = some u → w.cell? ⟨x, 0 + j, none⟩ = some u := fun j u hj => by
    rw [cell_of_row w x (0 + j) _ 56 (0, 0) hx, Nat.zero_add]; exact heldCells a b c L hd _ _ hhd j u hj
  have hyc : ∀ (j : Nat) (u : Value), (ps.map (Value.int .u8))[j]? = some u → w.cell? ⟨q, oq + j, none⟩ = some u := fun j u hj => by
    have hj' : j < n := by
      rcases Nat.lt_or_ge j n with h | h
      · exact h
      · rw [List.getElem?_eq_none (by simp; omega)] at hj; cases hj
    rw [hc j hj', ← hj, map_getD ps j (by omega)]
  have HD : Below w.heap.size w (w.alloc (.cells #[.slice (some ⟨x, 0, none⟩) L 3, .slice (some ⟨q, oq, none⟩) n cp] 30)).drew := ((Below.refl _ _).alloc (Nat.le_refl _) _).drew
  have hcon := concat_any w.heap.size x 0 q oq L 3 n cp (hd.map (Value.int .u8)) (ps.map (Value.int .u8)) (w.alloc (.cells #[.slice (some ⟨x, 0, none⟩) L 3, .slice (some ⟨q, oq, none⟩) n cp] 30)).drew
    (cell_of_row _ w.heap.size 0 _ 30 (0, 0) (heap_alloc_new w _)) (cell_of_row _ w.heap.size 1 _ 30 (0, 0) (heap_alloc_new w _)) (by simpa using hhl) (by simpa using hl)
    (fun j u hj => (HD.cell (p := ⟨x, 0 + j, none⟩) hxs).trans (hxc j u hj)) (fun j u hj => (HD.cell (p := ⟨q, oq + j, none⟩) hq).trans (hyc j u hj)) (map_one hd) (map_one ps) hL0 hL3 (by omega)
    (by simp) (by simp; omega) (by simp; omega)
  have d3 : (w.alloc (.cells #[.slice (some ⟨x, 0, none⟩) L 3, .slice (some ⟨q, oq, none⟩) n cp] 30)).drew.cell? ⟨x, 3, none⟩ = some (.int .i64 L) := (HD.cell (p := ⟨x, 3, none⟩) hxs).trans x3
  obtain ⟨bs, hbs⟩ : ∃ bs, bs = hd ++ ps := ⟨_, rfl⟩
  obtain ⟨N, hN⟩ : ∃ N, N = L + n := ⟨_, rfl⟩
  have hbl : bs.length = N := by rw [hbs, List.length_append, hhl, hl, hN]
  have hbb : ∀ i, i < N → 0 ≤ bs.getD i 0 ∧ bs.getD i 0 < 256 := fun i hi => by
    rw [hbs]
    rcases Nat.lt_or_ge i L with h | h
    · have e : (hd ++ ps).getD i 0 = hd.getD i 0 := by simp [List.getD, List.getElem?_append, show i < hd.length by omega]
      rw [e]; exact hbh i h
    · have e : (hd ++ ps).getD i 0 = ps.getD (i - L) 0 := by simp [List.getD, List.getElem?_append, hhl, show ¬ i < L by omega]
      rw [e]; exact hbd (i - L) (by omega)
  have hN9 : N ≤ 900000000003 := by omega
  have HN := hid hN
  have HBS := hid hbs
  have HCON := hid hcon
  have HBB := hid hbb
  have HBL := hid hbl
  have HD3 := hid d3
  have HDB := hid HD
  have HX := hid hx
  have HHL := hid hhl
  have hLi : (0 : Int) < L := by omega
  have hL0i : (0 : Int) ≤ (L : Int) := by omega
  have hL3i : (L : Int) ≤ 3 := by omega
  have hnn := World.new_ne w ⟨x, 3, none⟩ x3
  clear hc hbd hx hhd hhl hxc hyc hbh hcon hbb hbl d3 HD hN hbs
  go_enter Tryd.func11, Tryd.ntmps11
  go_wp2_with fail
  go_region_held3 (fun w' => w'.cell? ⟨x, 3, none⟩ = some (.int .i64 L))
    (first | go_keep | exact ((hB2.cell (p := ⟨x, 3, none⟩) (by simp; omega)).trans HD3.out))
    ((go_at_call 26; refine (HCON.out).mono ?_; rintro e w2 ⟨v2, rfl, hown2, hB2⟩))
  obtain ⟨g, gc, hv2, hg0, hg1⟩ := hown2.form (by omega)
  rw [← HN.out] at hown2 hv2
  subst hv2
  have hBw2 : Below w.heap.size w w2 := HDB.out.trans (hB2.mono (by simp))
  have hgx : g ≠ x := by simp at hg0; omega
  have hgc : N ≤ gc := by
    rcases hown2.2 with ⟨h, _⟩ | ⟨g', cap', cur', h, _, _, h2, _⟩
    · cases h
    · injection h with _ _ h3; omega
  have hcg : ∀ i, i < N → w2.cell? ⟨g, 0 + i, none⟩ = some (.int .u8 (bs.getD i 0)) := fun i hi => by
    have h := hown2.cells (g := g) rfl i (.int .u8 (bs.getD i 0)) (by rw [← List.map_append, ← HBS.out]; exact map_getD _ i (by rw [HBL.out]; exact hi))
    rw [addr_add] at h
    exact h
  have k3 : w2.cell? ⟨x, 3, none⟩ = some (.int .i64 L) := (hBw2.cell (p := ⟨x, 3, none⟩) hxs).trans x3
  have k4 : w2.cell? ⟨x, 4, none⟩ = some (.int .i64 F) := (hBw2.cell (p := ⟨x, 4, none⟩) hxs).trans x4
  have HCG := hid hcg
  have hxs2 : x < w2.heap.size := by have := hBw2.size; omega
  clear hcg hown2 hB2 x3 x4 hnn
  go_wp2_with fail
  go_region_held3 (fun w' => w'.cell? ⟨x, 4, none⟩ = some (.int .i64 F) ∧ w'.cell? ⟨x, 3, none⟩ = some (.int .i64 L))
    (first | go_keep | (refine ⟨(hB.cell (p := ⟨x, 4, none⟩) hxs2).trans k4, (hB.cell (p := ⟨x, 3, none⟩) hxs2).trans k3⟩))
    ((go_at_call 27; refine (scan_eq g 0 N gc _ (F - L) bs _ (by first | rfl | (rw [IntKind.wrap_i64]; omega)) HBL.out (by omega) (by omega) (by omega) (by exact hg1) HBB.out (by exact HCG.out)).mono ?_; rintro e w1 ⟨v, rfl, hown, hB⟩))
  have hBg : Below w2.heap.size w2 w1 := ((Below.refl w2.heap.size w2).drew).trans hB
  have hbl := HBL.out
  have x3 := k3
  have x4 := k4
  clear k3 k4
  have hB' : Below w.heap.size w w1 := hBw2.trans (hBg.mono hBw2.size)
  have hx1 : w1.heap[x]? = some (.cells #[.int .u8 a, .int .u8 b, .int .u8 c, .int .i64 L, .int .i64 F] 56 (0, 0)) := (hB'.block x hxs).trans HX.out
  have y4 : w1.cell? ⟨x, 4, none⟩ = some (.int .i64 F) := by rw [cell_of_row w1 x 4 _ 56 (0, 0) hx1]; rfl
  have z4 : w1.frozen? ⟨x, 4, none⟩ = false := frozen_of_row w1 x 4 _ 56 hx1
  have HX1 := hid hx1
  have hsn := (sc_end (F - L) bs).1
  have hs3 := sc_rest (F - L) bs
  rw [hbl] at hsn hs3
  obtain ⟨su, hsu⟩ : ∃ su, (sc (F - L) bs).2 = su := ⟨_, rfl⟩
  rw [hsu] at hsn hs3 ⊢
  have HSU := hid hsu
  clear hsu hx1 hB x3 x4
  go_wp2_with fail
  obtain ⟨W2, hW2⟩ : ∃ W2, W2 = w1.setCell ⟨x, 4, none⟩ (.int .i64 (F + n)) := ⟨_, rfl⟩
  rw [← hW2]
  have hx2 : W2.heap[x]? = some (.cells [.int .u8 a, .int .u8 b, .int .u8 c, .int .i64 L, .int .i64 (F + n)].toArray 56 (0, 0)) := by
    rw [hW2]; exact Lib.heap_setCell_same (i := 4) HX1.out _
  have hq2 : ∀ i, i < N → W2.cell? ⟨g, i, none⟩ = some (.int .u8 (bs.getD i 0)) := fun i hi => by
    rw [show some (Value.int .u8 (bs.getD i 0)) = w2.cell? ⟨g, i, none⟩ from by rw [← HCG.out i hi, Nat.zero_add], ← hBg.cell (p := ⟨g, i, none⟩) hg1, hW2]
    exact World.cell?_of_block (Below.heap_setCell _ _ _ _ hgx)
  have ho2 : ∀ k, k ≠ x → W2.heap[k]? = w1.heap[k]? := fun k hk => by rw [hW2]; exact Below.heap_setCell _ _ _ _ hk
  have hs2 : W2.heap.size = w1.heap.size := by rw [hW2]; simp [World.setCell]
  have ht2 : W2.os = w1.os ∧ W2.tape = w1.tape ∧ W2.output = w1.output := by rw [hW2]; exact ⟨rfl, rfl, rfl⟩
  obtain ⟨cs, hcs⟩ : ∃ cs, cs = (bs.drop su).map (Value.int .u8) := ⟨_, rfl⟩
  have hcl : cs.length = N - su := by rw [hcs]; simp; omega
  have hc1 : ∀ v ∈ cs, v.oneCell' = true := by intro u hu; rw [hcs, List.mem_map] at hu; obtain ⟨y, _, rfl⟩ := hu; rfl
  have hcc : ∀ j v, cs[j]? = some v → W2.cell? ((⟨g, su, none⟩ : Addr).add j) = some v := fun j v hj => by
    have hj' : j < cs.length := by
      rcases Nat.lt_or_ge j cs.length with h | h
      · exact h
      · rw [List.getElem?_eq_none h] at hj; cases hj
    rw [addr_add, hq2 (su + j) (by omega), ← hj, hcs]
    simp [List.getD, show su + j < bs.length by omega]
  have HX2 := hid hx2
  have HO2 := hid ho2
  have HCC := hid hcc
  have HC1 := hid hc1
  have HCL := hid hcl
  have HCS := hid hcs
  have HW2 := hid hs2
  have HT2 := hid ht2
  clear hx2 hq2 ho2 hcc hc1 hcl hcs hs2 ht2 hW2 y4 z4
  go_region_law ((refine step_copy_set (by rfl) (.tmp 54) (.tmp 57) 30 30 (by rfl) 5 Tryd.underlying30 Tryd.size5 (some ⟨x, 0, none⟩) (if gc = su then some ⟨g, 0, none⟩ else some ⟨g, su, none⟩) 3 3 (N - su) (gc - su) (by simp [Act.eval, Act.put]) (by simp [Act.eval, Act.put]) x 0 [.int .u8 a, .int .u8 b, .int .u8 c, .int .i64 L, .int .i64 (F + n)] 56 (by exact HX2.out) cs (by rw [HCL.out]; exact (Nat.min_eq_left hs3).symm) (fun hp => ⟨rfl, ⟨g, su, none⟩, if_neg (by have := HCL.out; omega), by exact HCC.out⟩) (by have := HCL.out; simp; omega) HC1.out ?_; intro w3 hg3 ho3; have c3 : w3.cell? ⟨x, 3, none⟩ = some (.int .i64 L) := (by rw [cell_of_row w3 x 3 _ 56 (0, 0) hg3.out, List.getElem?_toArray, splice_at _ cs 3 (by rw [HCL.out]; exact hs3)]; rfl); have f3 : w3.frozen? ⟨x, 3, none⟩ = false := frozen_of_row w3 x 3 _ 56 hg3.out))
  have e3 := scat_of w3 x a b c L (F + n) (bs.drop su) cs (by simp; omega) HCS.out hg3.out
  have hall : ∀ k, k ≠ x → (w3.setCell ⟨x, 3, none⟩ (.int .i64 cs.length)).heap[k]? = w1.heap[k]? := fun k hk => by
    rw [Below.heap_setCell _ _ _ _ hk, ho3.out.block k hk]; exact HO2.out k hk
  have hfin : feedQ x hd ps F w (.returned v) (w3.setCell ⟨x, 3, none⟩ (.int .i64 cs.length)) := by
   refine ⟨v, rfl, ?_, ?_, ?_⟩
   · rw [HHL.out, ← HBS.out]
     exact ownsRow_same (fun k hk => hall k (by have : w.heap.size ≤ k := hk; omega)) (ownsRow_base (by have := hBw2.size; exact this) hown)
   · rw [HHL.out, ← HBS.out, HSU.out, hl]
     exact e3
   · obtain ⟨o1, o2, o3⟩ := HT2.out
     exact ⟨(ho3.out.os.trans o1).trans hB'.os, (ho3.out.tape.trans o2).trans hB'.tape, (ho3.out.output.trans o3).trans hB'.output, by have h1 := ho3.out.size; have h2 := HW2.out; have h3 := hB'.size; simp [World.setCell]; rw [h1]; show _ ≤ W2.heap.size; omega, fun k hk hkx => (hall k hkx).trans (hB'.block k hk)⟩
  have HFIN := hid hfin
  clear hfin e3 hall
  go_wp2
  all_goals (go_ret; exact HFIN.out)

/-- Feed of a Scanner. -/
theorem feed_any (x q oq n cp : Nat) (F : Int) (hd ps : List Int) (w : World) (hs : ScAt w x hd F) (hl : ps.length = n) (hn : n ≤ 900000000000) (hF0 : hd.length ≤ F) (hF1 : F ≤ 1000000000000) (hqx : q ≠ x) (hcp : n ≤ cp)
    (hq : q < w.heap.size) (hbh : ∀ i, i < hd.length → 0 ≤ hd.getD i 0 ∧ hd.getD i 0 < 256) (hbd : ∀ i, i < n → 0 ≤ ps.getD i 0 ∧ ps.getD i 0 < 256) (hc : ∀ i, i < n → w.cell? ⟨q, oq + i, none⟩ = some (.int .u8 (ps.getD i 0))) :
    Calls Tryd.prog 11 #[.pointer (some ⟨x, 0, none⟩), .slice (some ⟨q, oq, none⟩) n cp] w (feedQ x hd ps F w) := by
  obtain ⟨a, b, c, hx, hhd, h3⟩ := hs
  by_cases h0 : hd.length = 0
  · obtain rfl : hd = [] := List.length_eq_zero_iff.1 h0
    exact feed_0 x q oq n cp a b c F ps w (by simpa using hx) hl (by omega) (by simpa using hF0) hF1 hqx hcp hq hbd hc
  · exact feed_1 x q oq n cp hd.length a b c F hd ps w hx hhd rfl (by omega) h3 hl hn hF0 hF1 hq hbh hbd hc
end Go.Proofs.YtflehkdijfhmgabDoor
