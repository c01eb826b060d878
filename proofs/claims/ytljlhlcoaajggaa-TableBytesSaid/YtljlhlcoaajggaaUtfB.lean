/- The runes of a text: the contracts of utf.Each, of its iterator, and of the document's Runes and Places. -/
import Derived.RangeFuncNested
import Derived.RangeFuncBound
import Derived.RangeFuncCalls
import Derived.RangeFuncLeaves
import Derived.Shelf.Abstract
import Derived.Shelf.RegionOpen
import Derived.OwnWalkIn
import Derived.TacticsInMore
import Derived.LoopNIn
import Derived.LoopIn
import Derived.Maps.AppendAt
import Derived.Laws.RangeAny
import Derived.Deep.QuietTactic
import Derived.BigQuiet
import Derived.WalkSmall
import Derived.Test.YtljlhlcoaajggaaUtfA
namespace Go.Proofs.Ytljlhlcoaajggaa
open Go.RowKit Go.Shelf
attribute [local go_sem] Oper.semAt_some

/-- How many bytes the rune has that begins at a place. -/
def wid (l : List UInt8) (t : Nat) : Nat := (dec (l.drop t)).2
theorem drop_ne (l : List UInt8) (t : Nat) (h : t < l.length) : l.drop t ≠ [] := fun e => by have := congrArg List.length e; simp at this; omega
theorem wid_ge (l : List UInt8) (t : Nat) (h : t < l.length) : 1 ≤ wid l t := dec_ge _ (drop_ne l t h)
theorem wid_le (l : List UInt8) (t : Nat) (h : t < l.length) : t + wid l t ≤ l.length := by
  have := dec_le _ (drop_ne l t h); simp only [List.length_drop] at this; unfold wid; omega
theorem mks_at (l : List UInt8) (t : Nat) (h : t < l.length) : mks t (l.drop t) = mk1 t (l.drop t) :: mks (t + wid l t) (l.drop (t + wid l t)) := by
  rw [mks_cons t (l.drop t) (drop_ne l t h), List.drop_drop]; rfl
theorem mks_end (l : List UInt8) (t : Nat) (h : ¬ t < l.length) : mks t (l.drop t) = [] := by rw [List.drop_of_length_le (by omega)]; rfl
theorem get_drop (l : List UInt8) (t j : Nat) : (l.drop t).getD j 0 = l.getD (t + j) 0 := by simp [List.getD]
/-- What range finds at a place of a text is what Decode finds of the rest. -/
theorem decode_place (l : List UInt8) (t : Nat) (h : t < l.length) : Utf8.decode ⟨l.toArray⟩ t = dec (l.drop t) := by
  have hne : l.drop t ≠ [] := fun e => by have := congrArg List.length e; simp at this; omega
  have hs : (⟨l.toArray⟩ : ByteArray).size = l.length := by show l.toArray.size = _; simp
  rw [dec_numbers _ hne, Lib.decode_at, hs]
  simp only [get_list, get_drop, List.length_drop, Nat.add_zero]
theorem run_next_at {P : Program} (w : World) (it : Nat) (s : ByteArray) (pos : Nat) (ty : TypeId) (hit : w.heap[it]? = some (.stringIter s pos)) (h : pos < s.size) :
    (Instr.next (.pointer (some ⟨it, 0, none⟩)) true ty).run P w = .ok (.tuple #[.bool true, .int .i64 pos, .int .i32 (Utf8.decode s pos).1]) (w.putObj it (.stringIter s (pos + (Utf8.decode s pos).2))) := by
  simp [Instr.next, getObj, setObj, Sem.run_bind, Sem.run, hit, Result.andThen, h, goInt, World.putObj]
theorem run_next_stop {P : Program} (w : World) (it : Nat) (s : ByteArray) (pos : Nat) (ty : TypeId) (hit : w.heap[it]? = some (.stringIter s pos)) (h : ¬ pos < s.size) :
    (Instr.next (.pointer (some ⟨it, 0, none⟩)) true ty).run P w = .ok (.tuple #[.bool false]) w := by
  simp [Instr.next, getObj, Sem.run, hit, h]
/-- What the iterator hands on. -/
def encs2 (x : Int × Int) : Array Value := #[.int .i64 x.1, .int .i32 x.2]
def prs (l : List UInt8) : List (Int × Int) := (mks 0 l).map fun m => (m.pl, m.ru)
def prF (l : List UInt8) (t : Nat) : List (Int × Int) := (mks t (l.drop t)).map fun m => (m.pl, m.ru)
theorem prF_step (l : List UInt8) (t : Nat) (h : t < l.length) : prF l t = ((t : Int), ((dec (l.drop t)).1 : Int)) :: prF l (t + (dec (l.drop t)).2) := by
  have hne : l.drop t ≠ [] := fun e => by have := congrArg List.length e; simp at this; omega
  unfold prF
  rw [mks_cons t (l.drop t) hne, List.drop_drop]; rfl
theorem prF_end (l : List UInt8) (t : Nat) (h : ¬ t < l.length) : prF l t = [] := by
  unfold prF
  rw [List.drop_of_length_le (by omega), mks_nil]; rfl
set_option maxHeartbeats 1000000 in
theorem each_stops (F : Fence) (n : Nat) (h33 : F.fn 77) (hro : F.round = none) (hn : 1 ≤ n) (Bs : Nat) (l : List UInt8) (w : World) (hBs : Bs < w.heap.size) (hc : w.cell? ⟨Bs, 0, none⟩ = some (.string ⟨l.toArray⟩)) :
    SeqStopsA F n Try.prog 77 #[.pointer (some ⟨Bs, 0, none⟩)] encs2 (fun xs => xs = prs l) (fun pre => pre <+: prs l) (prs l).length w := fun lp J Jx W hbW hJ hJx hY h0 => by
  have hcW : W.cell? ⟨Bs, 0, none⟩ = some (.string ⟨l.toArray⟩) := (hbW.cell (p := ⟨Bs, 0, none⟩) hBs).trans hc
  refine callsIn_of_wp Try.func77 rfl h33 ?_ hro
  simp only [Try.ntmps77, List.size_toArray, List.length_cons, List.length_nil, Nat.reduceAdd, Nat.reduceSub, Array.replicate_succ, Array.replicate_zero, List.push_toArray, List.append_toArray, List.nil_append, List.cons_append]
  have hsz : (⟨l.toArray⟩ : ByteArray).size = l.length := by show l.toArray.size = _; simp
  have HSZ := hid hsz
  clear hsz
  gi_wp2
  have hJ0 : J [] (W.iter ⟨l.toArray⟩ 0) := hJ [] W _ none h0 (World.grownBy_alloc W _ none) (fun r e => by cases e)
  have hit0 : (W.iter ⟨l.toArray⟩ 0).heap[W.heap.size]? = some (.stringIter ⟨l.toArray⟩ 0) := World.iter_heap W _ 0
  gi_loopw [3] (fun _ wr => ∃ (t : Nat) (pre : List (Int × Int)), t ≤ l.length ∧ Hid (prs l = pre ++ prF l t) ∧ Hid (wr.heap[W.heap.size]? = some (.stringIter ⟨l.toArray⟩ t)) ∧ Hid (J pre wr)) (fun _ wr => l.length - wr.iterPos W.heap.size)
  case atStart => exact ⟨0, [], by omega, by show prs l = [] ++ prF l 0; simp [prs, prF], hit0, hJ0⟩
  case round =>
    obtain ⟨t, pre, htl, HP, HI, HJ⟩ := hrel
    clear hJ0 hit0
    by_cases hlt : t < l.length
    · have hnx := run_next_at (P := Try.prog) wr W.heap.size ⟨l.toArray⟩ t 0 HI.out (by rw [HSZ.out]; exact hlt)
      rw [decode_place l t hlt] at hnx
      have hP2 := HP.out
      rw [prF_step l t hlt] at hP2
      have hne : l.drop t ≠ [] := fun e => by have := congrArg List.length e; simp at this; omega
      have d1 := dec_ge _ hne
      have d2 := dec_le _ hne
      simp only [List.length_drop] at d2
      obtain ⟨nn, hnn⟩ : ∃ nn, nn = (dec (l.drop t)).2 := ⟨_, rfl⟩
      obtain ⟨rr, hrr⟩ : ∃ rr, rr = (dec (l.drop t)).1 := ⟨_, rfl⟩
      rw [← hnn] at hnx hP2 d1 d2
      rw [← hrr] at hnx hP2
      obtain ⟨w1, hw1⟩ : ∃ w1, w1 = wr.putObj W.heap.size (.stringIter ⟨l.toArray⟩ (t + nn)) := ⟨_, rfl⟩
      rw [← hw1] at hnx
      have hin : W.heap.size < wr.heap.size := (Array.getElem?_eq_some_iff.1 HI.out).1
      have hJ1 : J pre w1 := by
        rw [hw1]
        exact hJ pre wr _ (some W.heap.size) HJ.out (grownBy_putObj' wr _ _) (fun r e => by cases e; exact ⟨Nat.le_refl _, _, HI.out, rfl⟩)
      have hI1 : w1.heap[W.heap.size]? = some (.stringIter ⟨l.toArray⟩ (t + nn)) := by rw [hw1]; exact World.putObj_heap_same hin
      have hmes : l.length - wr.iterPos W.heap.size = l.length - t := by unfold World.iterPos; rw [HI.out]
      obtain ⟨fn, tmps, assign, body, hy, hR⟩ := hY pre ((t : Int), (rr : Int)) w1 hJ1 (by rw [hP2]; simp)
      dsimp only [encs2] at hy
      have HP2 := hid hP2
      have HI1 := hid hI1
      have HM := hid hmes
      clear hP2 hne hnn hrr hw1 hJ1 hI1 hmes
      gi_wp2
      refine hR.mono ?_
      rintro e W3 (⟨rfl, hJ3, hk3⟩ | ⟨rfl, hJx3⟩)
      · have hI3 := hk3.same _ _ HI1.out rfl
        have HI3 := hid hI3
        have HJ3 := hid hJ3
        clear hI3 hJ3 hk3
        gi_wp2
        go_roundw
        case rel => exact ⟨t + nn, pre ++ [((t : Int), (rr : Int))], by omega, by show prs l = _; rw [HP2.out]; simp, HI3, HJ3⟩
        case measure =>
          rw [HM.out]
          unfold World.iterPos
          rw [HI3.out]
          simp only []
          omega
      · have HJX := hid hJx3
        clear hJx3
        gi_wp2
        refine bodyPost_ret (results_none rfl _ _ _) rfl ?_
        exact ⟨⟨_, rfl⟩, .inr ⟨pre ++ [((t : Int), (rr : Int))], ⟨prF l (t + nn), by rw [HP2.out]; simp⟩, HJX.out⟩⟩
    · have hnx := run_next_stop (P := Try.prog) wr W.heap.size ⟨l.toArray⟩ t 0 HI.out (by rw [HSZ.out]; exact hlt)
      have HF := hid (show prs l = pre by have h := HP.out; rw [prF_end l t hlt] at h; simpa using h)
      gi_wp2
      go_end0
      exact ⟨⟨_, rfl⟩, .inl ⟨pre, HF.out.symm, HJ.out⟩⟩
theorem Try.info21 : (Try.prog.info? 21).map (fun i => (i.zero, i.size, i.bytes)) = some (some (.int .i32 0), 1, 4) := by kernel_rfl
set_option maxHeartbeats 400000 in
theorem each_any (l : List UInt8) (w : World) :
    Calls Try.prog 68 #[.string ⟨l.toArray⟩] w fun e w' => e = .returned (.func (.func 77) #[] #[.pointer (some ⟨w.heap.size, 0, none⟩)]) ∧ w' = w.alloc (.cells #[.string ⟨l.toArray⟩] 9) := by
  go_enter Try.func68, Try.ntmps68
  go_wp2
  go_ret
  exact ⟨rfl, rfl⟩
theorem mksLen (l : List UInt8) : ∀ (n t : Nat), l.length - t ≤ n → (mks t (l.drop t)).length ≤ l.length - t
  | 0, t, h => by rw [mks_end l t (by omega)]; simp
  | n + 1, t, h => by
    by_cases ht : t < l.length
    · rw [mks_at l t ht]
      have hw := wid_ge l t ht
      have hw2 := wid_le l t ht
      have := mksLen l n (t + wid l t) (by omega)
      simp; omega
    · rw [mks_end l t ht]; simp
theorem prs_len (l : List UInt8) : (prs l).length ≤ l.length := by
  have := mksLen l l.length 0 (by omega)
  unfold prs
  simpa using this
/-- The runes that have come, as values. -/
def r32 (xs : List (Int × Int)) : List Value := xs.map fun x => Value.int .i32 x.2
theorem r32_snoc (xs : List (Int × Int)) (x : Int × Int) : r32 (xs ++ [x]) = r32 xs ++ [.int .i32 x.2] := by simp [r32]
/-- The runes of a text; the places of its faults. -/
def rns (l : List UInt8) : List Int := (mks 0 l).map (·.ru)
/-- What a value looks like that owns a row. -/
theorem owns_form {w : World} {base e size n : Nat} {v : Value} {xs : List Value} (h : w.ownsRow base e size v n xs) : ∃ ao cap, v = .slice ao n cap ∧ (0 < n → ∃ g, ao = some ⟨g, 0, none⟩ ∧ base ≤ g ∧ g < w.heap.size) := by
  rcases h.2 with ⟨hv, h0⟩ | ⟨g, cap, cur, hv, hb, hg, _⟩
  · exact ⟨none, 0, by rw [hv, h0], fun hn => by omega⟩
  · exact ⟨_, cap, hv, fun _ => ⟨g, rfl, hb, (Array.getElem?_eq_some_iff.1 hg).1⟩⟩
theorem mrkcs_get : ∀ (ms : List Mk) (k j : Nat) (m : Mk), ms[k]? = some m → j < 4 → (mrkcs ms)[k * 4 + j]? = (mrkc m)[j]?
  | [], k, j, m, h, _ => by simp at h
  | x :: ms, 0, j, m, h, hj => by
    simp at h; subst h
    show (mrkc x ++ mrkcs ms)[0 * 4 + j]? = _
    rw [Nat.zero_mul, Nat.zero_add, List.getElem?_append_left (by simpa [mrkc] using hj)]
  | x :: ms, k + 1, j, m, h, hj => by
    simp at h
    show (mrkc x ++ mrkcs ms)[(k + 1) * 4 + j]? = _
    rw [List.getElem?_append_right (by simp [mrkc]; omega)]
    rw [show (k + 1) * 4 + j - (mrkc x).length = k * 4 + j by simp [mrkc]; omega]
    exact mrkcs_get ms k j m h hj
theorem mks_len (l : List UInt8) : ∀ (n t : Nat), l.length - t ≤ n → (mks t (l.drop t)).length ≤ l.length - t
  | 0, t, h => by rw [mks_end l t (by omega)]; simp
  | n + 1, t, h => by
    by_cases ht : t < l.length
    · rw [mks_at l t ht]
      have hw := wid_ge l t ht
      have hw2 := wid_le l t ht
      have := mks_len l n (t + wid l t) (by omega)
      simp; omega
    · rw [mks_end l t ht]; simp
theorem ownsRow_base {w : World} {B B' : Nat} {e : TypeId} {size : Nat} {v : Value} {n : Nat} {xs : List Value} (hB : B' ≤ B) (h : w.ownsRow B e size v n xs) : w.ownsRow B' e size v n xs := by
  refine ⟨h.1, ?_⟩
  rcases h.2 with h0 | ⟨g, cap, cur, hv, hb, hg, hr⟩
  · exact Or.inl h0
  · exact Or.inr ⟨g, cap, cur, hv, Nat.le_trans hB hb, hg, hr⟩
/-- What stands in the list of marks, cell by cell. -/
theorem marks_cells {w : World} {B : Nat} {v : Value} {ms : List Mk} (h : w.ownsRow B 122 4 v ms.length (mrkcs ms)) : ∃ ao cap, v = .slice ao ms.length cap ∧
    ∀ (k : Nat) (m : Mk), ms[k]? = some m → ∃ g, ao = some ⟨g, 0, none⟩ ∧ g < w.heap.size ∧ w.cell? ⟨g, k * 4, none⟩ = some (.int .i64 m.pl) ∧ w.cell? ⟨g, k * 4 + 1, none⟩ = some (.int .i64 m.wd) ∧ w.cell? ⟨g, k * 4 + 2, none⟩ = some (.int .i32 m.ru) ∧ w.cell? ⟨g, k * 4 + 3, none⟩ = some (.bool m.bad) := by
  obtain ⟨ao, cap, rfl, hao⟩ := owns_form h
  refine ⟨ao, cap, rfl, fun k m hk => ?_⟩
  have hkl : k < ms.length := (List.getElem?_eq_some_iff.1 hk).1
  obtain ⟨g, hg, hg0, hg1⟩ := hao (by omega)
  have hc : ∀ j u, j < 4 → (mrkc m)[j]? = some u → w.cell? ⟨g, k * 4 + j, none⟩ = some u := fun j u hj hu => by
    have hc := h.cells (g := g) (by rw [hg]; rfl) (k * 4 + j) u (by rw [mrkcs_get ms k j m hk hj]; exact hu)
    rw [show (⟨g, 0, none⟩ : Addr).add (k * 4 + j) = ⟨g, k * 4 + j, none⟩ by unfold Addr.add; split <;> simp_all] at hc
    exact hc
  exact ⟨g, hg, hg1, by simpa using hc 0 _ (by omega) rfl, hc 1 _ (by omega) rfl, hc 2 _ (by omega) rfl, hc 3 _ (by omega) rfl⟩
theorem mks_le (l : List UInt8) : (mks 0 l).length ≤ l.length := by
  have := mks_len l l.length 0 (by omega)
  simpa using this
/-- The runes of the first marks, as values. -/
def pr32 (ms : List Mk) (k : Nat) : List Value := ((ms.take k).map (·.ru)).map (Value.int .i32)
theorem pr32_succ (ms : List Mk) (k : Nat) (h : k < ms.length) : pr32 ms (k + 1) = pr32 ms k ++ [.int .i32 ms[k].ru] := by
  unfold pr32
  rw [List.take_succ_eq_append_getElem h, List.map_append, List.map_append]; rfl
theorem pr32_all (ms : List Mk) (k : Nat) (h : ¬ k < ms.length) : pr32 ms k = (ms.map (·.ru)).map (Value.int .i32) := by
  unfold pr32
  rw [List.take_of_length_le (by omega)]
set_option maxHeartbeats 1000000 in
theorem rrunes_any (l : List UInt8) (w : World) (hl : l.length ≤ 1000000000000) :
    Calls Try.prog 69 #[.string ⟨l.toArray⟩] w fun e w' => ∃ v, e = .returned v ∧ w'.ownsRow w.heap.size 21 1 v (rns l).length ((rns l).map (Value.int .i32)) ∧ Below w.heap.size w w' := by
  obtain ⟨i0, hi, hz0, hz1, hz2⟩ := info_parts Try.info21
  go_enter Try.func69, Try.ntmps69
  go_wp2_with fail
  refine (marks_any l _ hl).mono ?_
  rintro e w1 ⟨v, rfl, hown1, hb1⟩
  have hlen := mks_le l
  obtain ⟨ms, hms⟩ : ∃ ms, ms = mks 0 l := ⟨_, rfl⟩
  rw [← hms] at hown1 hlen
  have HMS := hid (show rns l = ms.map (·.ru) by rw [hms]; rfl)
  obtain ⟨ao, cap, rfl, hcell⟩ := marks_cells hown1
  have HCELL := hid hcell
  clear hcell hown1 hms
  go_wp2
  go_loopw [4, 5] (fun o i wr => ∃ k : Nat, k ≤ ms.length ∧ i = .int .i64 k ∧ wr.ownsRow w1.heap.size 21 1 o k (pr32 ms k) ∧ Below w1.heap.size w1 wr) (fun _ i _ => ms.length - (intOf i).toNat)
  case atStart => exact ⟨0, by omega, rfl, World.ownsRow_nil _ _ _ _, Below.refl _ _⟩
  case round =>
    obtain ⟨k, hk, rfl, hown, hB⟩ := hrel
    have hs := hB.size
    by_cases hlt : k < ms.length
    · obtain ⟨g, rfl, hg1, _, _, hcg, _⟩ := HCELL.out k ms[k] (List.getElem?_eq_getElem hlt)
      have hcw : wr.cell? ⟨g, k * 4 + 2, none⟩ = some (.int .i32 ms[k].ru) := (hB.cell (p := ⟨g, k * 4 + 2, none⟩) hg1).trans hcg
      obtain ⟨z, hz⟩ : ∃ z, z = ms[k].ru := ⟨_, rfl⟩
      rw [← hz] at hcw
      have HZ := hid hz
      clear hz hcg
      go_wp2_with (at_builtin; refine wpList_append_own _ rfl _ _ 26 rfl w1.heap.size 21 i0 (.int .i32 0) 1 4 Try.underlying26 hi hz0 hz1 hz2 rfl (by decide) _ _ _ rfl (hown.alloc _) ⟨wr.heap.size, 0, none⟩ 1 1 [.int .i32 z] rfl rfl (news_one wr #[.int .i32 z] 21) (by intro u hu; simp at hu; subst hu; rfl) (by unfold maxLen; omega) (by omega) (by simp; omega) ?_)
      intro v' w2 hown' hgrow _
      have hB2 : Below w1.heap.size w1 w2 := (hB.alloc hB.size _).grown hgrow (by simp; omega) (fun k hk => (hown.lt k hk).1)
      have hown2 : w2.ownsRow w1.heap.size 21 1 v' (k + 1) (pr32 ms (k + 1)) := by rw [pr32_succ ms k hlt, ← HZ.out]; exact hown'
      clear hown' hgrow hown hB hcw
      go_wp2
      go_roundw
      case rel => exact ⟨k + 1, by omega, by go_num, hown2, hB2⟩
      case measure => simp [intOf]; omega
    · have hke : k = ms.length := by omega
      have HKE := hid hke
      have HP := hid (pr32_all ms k hlt)
      clear hke
      go_wp2
      go_ret
      refine ⟨_, rfl, ?_, hb1.trans (hB.mono hb1.size)⟩
      rw [HMS.out, List.length_map, ← HP.out, ← HKE.out]
      exact ownsRow_base hb1.size hown
/-- A slice of numbers, as it can be read. -/
def Reads (K : IntKind) (w : World) (v : Value) (E : List Int) : Prop :=
  ∃ ao cap, v = .slice ao E.length cap ∧ ∀ (k : Nat) (z : Int), E[k]? = some z → ∃ g o, ao = some ⟨g, o, none⟩ ∧ g < w.heap.size ∧ w.cell? ⟨g, o + k, none⟩ = some (.int K z)
theorem Reads.below {K : IntKind} {w w' : World} {v : Value} {E : List Int} (h : Reads K w v E) (hb : Below w.heap.size w w') : Reads K w' v E := by
  obtain ⟨ao, cap, hv, hc⟩ := h
  refine ⟨ao, cap, hv, fun k z hk => ?_⟩
  obtain ⟨g, o, hg, hl, hcell⟩ := hc k z hk
  have := hb.size
  exact ⟨g, o, hg, by omega, (hb.cell (p := ⟨g, o + k, none⟩) hl).trans hcell⟩
theorem Reads.of_row {K : IntKind} {w : World} {B e : Nat} {v : Value} {E : List Int} (h : w.ownsRow B e 1 v E.length (E.map (Value.int K))) : Reads K w v E := by
  obtain ⟨ao, cap, rfl, hao⟩ := owns_form h
  refine ⟨ao, cap, rfl, fun k z hk => ?_⟩
  have hkl : k < E.length := (List.getElem?_eq_some_iff.1 hk).1
  obtain ⟨g, hg, _, hlt⟩ := hao (by omega)
  have hc := h.cells (g := g) (by rw [hg]; rfl) k (.int K z) (by rw [List.getElem?_map, hk]; rfl)
  rw [show (⟨g, 0, none⟩ : Addr).add k = ⟨g, k, none⟩ by unfold Addr.add; split <;> simp_all] at hc
  exact ⟨g, 0, hg, hlt, by rw [Nat.zero_add]; exact hc⟩
set_option maxHeartbeats 400000 in
theorem places_any (a b : Value) (E : List Int) (w : World) (hE : E.length ≤ 1000000000000) (ha : Reads .i64 w a E) (hb : Reads .i64 w b E) :
    Calls Try.prog 46 #[a, b] w fun e w' => e = .returned (.bool true) ∧ Below w.heap.size w w' := by
  obtain ⟨ao, ca, rfl, hca⟩ := ha
  obtain ⟨bo, cb, rfl, hcb⟩ := hb
  have HA := hid hca
  have HB := hid hcb
  clear hca hcb
  go_enter Try.func46, Try.ntmps46
  go_wp2
  go_loopw [5] (fun i wr => ∃ k : Nat, i = .int .i64 k ∧ k ≤ E.length ∧ Below w.heap.size w wr) (fun i _ => E.length - (intOf i).toNat)
  case atStart => exact ⟨0, rfl, by omega, Below.refl _ _⟩
  case round =>
    obtain ⟨k, rfl, hk, hBr⟩ := hrel
    by_cases hlt : k < E.length
    · obtain ⟨g, o, rfl, l1, h1⟩ := HA.out k E[k] (List.getElem?_eq_getElem hlt)
      obtain ⟨g', o', rfl, l2, h2⟩ := HB.out k E[k] (List.getElem?_eq_getElem hlt)
      obtain ⟨z, hz⟩ : ∃ z, z = E[k] := ⟨_, rfl⟩
      rw [← hz] at h1 h2
      have h1' := (hBr.cell (p := ⟨g, o + k, none⟩) l1).trans h1
      have h2' := (hBr.cell (p := ⟨g', o' + k, none⟩) l2).trans h2
      clear hz HA HB h1 h2
      go_wp2
      go_quiet (fail)
      go_wp2
      go_roundw
      case rel => exact ⟨k + 1, by go_num, by omega, below_drewN hBr _⟩
      case measure => simp [intOf]; omega
    · go_wp2
      go_ret
      exact ⟨rfl, hBr⟩
end Go.Proofs.Ytljlhlcoaajggaa
