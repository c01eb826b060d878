/- The runes of a text: the contracts of utf.Each, of its iterator, and of the document's Runes and Places. -/
import Derived.RangeFuncNested
import Derived.RangeFuncBound
import Derived.RangeFuncCalls
import Derived.RangeFuncLeaves
import Derived.Shelf.Abstract
import Derived.Shelf.RegionOpen
import Derived.OwnWalkIn
import Derived.TacticsInMore
import Derived.LoopNIn
import Derived.LoopIn
import Derived.Maps.AppendAt
import Derived.Laws.RangeAny
import Derived.Deep.QuietTactic
import Derived.BigQuiet
import Derived.WalkSmall
import Derived.Test.YtljlhlcoaajggaaUtfAJoint
import Derived.OrdersIn
import Derived.TacticsIn
import Derived.Test.YtljlhlcoaajggaaHeld2
import Derived.Laws.AppendOwnNone
import Derived.Test.YtljlhlcoaajggaaLive
import Derived.Test.YtljlhlcoaajggaaEqual
import Derived.OpenShut
import Derived.Deep.SlicePairs
namespace Go.Proofs.Ytljlhlcoaajggaa
open Go.RowKit Go.Shelf
attribute [local go_sem] Oper.semAt_some

/-- How many bytes the rune has that begins at a place. -/
def wid (l : List UInt8) (t : Nat) : Nat := (dec (l.drop t)).2
theorem drop_ne (l : List UInt8) (t : Nat) (h : t < l.length) : l.drop t ≠ [] := fun e => by have := congrArg List.length e; simp at this; omega
theorem wid_ge (l : List UInt8) (t : Nat) (h : t < l.length) : 1 ≤ wid l t := dec_ge _ (drop_ne l t h)
theorem wid_le (l : List UInt8) (t : Nat) (h : t < l.length) : t + wid l t ≤ l.length := by
  have := dec_le _ (drop_ne l t h); simp only [List.length_drop] at this; unfold wid; omega
theorem mks_at (l : List UInt8) (t : Nat) (h : t < l.length) : mks t (l.drop t) = mk1 t (l.drop t) :: mks (t + wid l t) (l.drop (t + wid l t)) := by
  rw [mks_cons t (l.drop t) (drop_ne l t h), List.drop_drop]; rfl
theorem mks_end (l : List UInt8) (t : Nat) (h : ¬ t < l.length) : mks t (l.drop t) = [] := by rw [List.drop_of_length_le (by omega)]; rfl
theorem get_drop (l : List UInt8) (t j : Nat) : (l.drop t).getD j 0 = l.getD (t + j) 0 := by simp [List.getD]
/-- What range finds at a place of a text is what Decode finds of the rest. -/
theorem decode_place (l : List UInt8) (t : Nat) (h : t < l.length) : Utf8.decode ⟨l.toArray⟩ t = dec (l.drop t) := by
  have hne : l.drop t ≠ [] := fun e => by have := congrArg List.length e; simp at this; omega
  have hs : (⟨l.toArray⟩ : ByteArray).size = l.length := by show l.toArray.size = _; simp
  rw [dec_numbers _ hne, Lib.decode_at, hs]
  simp only [get_list, get_drop, List.length_drop, Nat.add_zero]
theorem run_next_at {P : Program} (w : World) (it : Nat) (s : ByteArray) (pos : Nat) (ty : TypeId) (hit : w.heap[it]? = some (.stringIter s pos)) (h : pos < s.size) :
    (Instr.next (.pointer (some ⟨it, 0, none⟩)) true ty).run P w = .ok (.tuple #[.bool true, .int .i64 pos, .int .i32 (Utf8.decode s pos).1]) (w.putObj it (.stringIter s (pos + (Utf8.decode s pos).2))) := by
  simp [Instr.next, getObj, setObj, Sem.run_bind, Sem.run, hit, Result.andThen, h, goInt, World.putObj]
theorem run_next_stop {P : Program} (w : World) (it : Nat) (s : ByteArray) (pos : Nat) (ty : TypeId) (hit : w.heap[it]? = some (.stringIter s pos)) (h : ¬ pos < s.size) :
    (Instr.next (.pointer (some ⟨it, 0, none⟩)) true ty).run P w = .ok (.tuple #[.bool false]) w := by
  simp [Instr.next, getObj, Sem.run, hit, h]
/-- What the iterator hands on. -/
def encs2 (x : Int × Int) : Array Value := #[.int .i64 x.1, .int .i32 x.2]
def prs (l : List UInt8) : List (Int × Int) := (mks 0 l).map fun m => (m.pl, m.ru)
def prF (l : List UInt8) (t : Nat) : List (Int × Int) := (mks t (l.drop t)).map fun m => (m.pl, m.ru)
theorem prF_step (l : List UInt8) (t : Nat) (h : t < l.length) : prF l t = ((t : Int), ((dec (l.drop t)).1 : Int)) :: prF l (t + (dec (l.drop t)).2) := by
  have hne : l.drop t ≠ [] := fun e => by have := congrArg List.length e; simp at this; omega
  unfold prF
  rw [mks_cons t (l.drop t) hne, List.drop_drop]; rfl
theorem prF_end (l : List UInt8) (t : Nat) (h : ¬ t < l.length) : prF l t = [] := by
  unfold prF
  rw [List.drop_of_length_le (by omega), mks_nil]; rfl
set_option maxHeartbeats 1000000 in
theorem each_stops (F : Fence) (n : Nat) (h33 : F.fn 77) (hro : F.round = none) (hn : 1 ≤ n) (Bs : Nat) (l : List UInt8) (w : World) (hBs : Bs < w.heap.size) (hc : w.cell? ⟨Bs, 0, none⟩ = some (.string ⟨l.toArray⟩)) :
    SeqStopsA F n Try.prog 77 #[.pointer (some ⟨Bs, 0, none⟩)] encs2 (fun xs => xs = prs l) (fun pre => pre <+: prs l) (prs l).length w := fun lp J Jx W hbW hJ hJx hY h0 => by
  have hcW : W.cell? ⟨Bs, 0, none⟩ = some (.string ⟨l.toArray⟩) := (hbW.cell (p := ⟨Bs, 0, none⟩) hBs).trans hc
  refine callsIn_of_wp Try.func77 rfl h33 ?_ hro
  simp only [Try.ntmps77, List.size_toArray, List.length_cons, List.length_nil, Nat.reduceAdd, Nat.reduceSub, Array.replicate_succ, Array.replicate_zero, List.push_toArray, List.append_toArray, List.nil_append, List.cons_append]
  have hsz : (⟨l.toArray⟩ : ByteArray).size = l.length := by show l.toArray.size = _; simp
  have HSZ := hid hsz
  clear hsz
  gi_wp2
  have hJ0 : J [] (W.iter ⟨l.toArray⟩ 0) := hJ [] W _ none h0 (World.grownBy_alloc W _ none) (fun r e => by cases e)
  have hit0 : (W.iter ⟨l.toArray⟩ 0).heap[W.heap.size]? = some (.stringIter ⟨l.toArray⟩ 0) := World.iter_heap W _ 0
  gi_loopw [3] (fun _ wr => ∃ (t : Nat) (pre : List (Int × Int)), t ≤ l.length ∧ Hid (prs l = pre ++ prF l t) ∧ Hid (wr.heap[W.heap.size]? = some (.stringIter ⟨l.toArray⟩ t)) ∧ Hid (J pre wr)) (fun _ wr => l.length - wr.iterPos W.heap.size)
  case atStart => exact ⟨0, [], by omega, by show prs l = [] ++ prF l 0; simp [prs, prF], hit0, hJ0⟩
  case round =>
    obtain ⟨t, pre, htl, HP, HI, HJ⟩ := hrel
    clear hJ0 hit0
    by_cases hlt : t < l.length
    · have hnx := run_next_at (P := Try.prog) wr W.heap.size ⟨l.toArray⟩ t 0 HI.out (by rw [HSZ.out]; exact hlt)
      rw [decode_place l t hlt] at hnx
      have hP2 := HP.out
      rw [prF_step l t hlt] at hP2
      have hne : l.drop t ≠ [] := fun e => by have := congrArg List.length e; simp at this; omega
      have d1 := dec_ge _ hne
      have d2 := dec_le _ hne
      simp only [List.length_drop] at d2
      obtain ⟨nn, hnn⟩ : ∃ nn, nn = (dec (l.drop t)).2 := ⟨_, rfl⟩
      obtain ⟨rr, hrr⟩ : ∃ rr, rr = (dec (l.drop t)).1 := ⟨_, rfl⟩
      rw [← hnn] at hnx hP2 d1 d2
      rw [← hrr] at hnx hP2
      obtain ⟨w1, hw1⟩ : ∃ w1, w1 = wr.putObj W.heap.size (.stringIter ⟨l.toArray⟩ (t + nn)) := ⟨_, rfl⟩
      rw [← hw1] at hnx
      have hin : W.heap.size < wr.heap.size := (Array.getElem?_eq_some_iff.1 HI.out).1
      have hJ1 : J pre w1 := by
        rw [hw1]
        exact hJ pre wr _ (some W.heap.size) HJ.out (grownBy_putObj' wr _ _) (fun r e => by cases e; exact ⟨Nat.le_refl _, _, HI.out, rfl⟩)
      have hI1 : w1.heap[W.heap.size]? = some (.stringIter ⟨l.toArray⟩ (t + nn)) := by rw [hw1]; exact World.putObj_heap_same hin
      have hmes : l.length - wr.iterPos W.heap.size = l.length - t := by unfold World.iterPos; rw [HI.out]
      obtain ⟨fn, tmps, assign, body, hy, hR⟩ := hY pre ((t : Int), (rr : Int)) w1 hJ1 (by rw [hP2]; simp)
      dsimp only [encs2] at hy
      have HP2 := hid hP2
      have HI1 := hid hI1
      have HM := hid hmes
      clear hP2 hne hnn hrr hw1 hJ1 hI1 hmes
      gi_wp2
      refine hR.mono ?_
      rintro e W3 (⟨rfl, hJ3, hk3⟩ | ⟨rfl, hJx3⟩)
      · have hI3 := hk3.same _ _ HI1.out rfl
        have HI3 := hid hI3
        have HJ3 := hid hJ3
        clear hI3 hJ3 hk3
        gi_wp2
        go_roundw
        case rel => exact ⟨t + nn, pre ++ [((t : Int), (rr : Int))], by omega, by show prs l = _; rw [HP2.out]; simp, HI3, HJ3⟩
        case measure =>
          rw [HM.out]
          unfold World.iterPos
          rw [HI3.out]
          simp only []
          omega
      · have HJX := hid hJx3
        clear hJx3
        gi_wp2
        refine bodyPost_ret (results_none rfl _ _ _) rfl ?_
        exact ⟨⟨_, rfl⟩, .inr ⟨pre ++ [((t : Int), (rr : Int))], ⟨prF l (t + nn), by rw [HP2.out]; simp⟩, HJX.out⟩⟩
    · have hnx := run_next_stop (P := Try.prog) wr W.heap.size ⟨l.toArray⟩ t 0 HI.out (by rw [HSZ.out]; exact hlt)
      have HF := hid (show prs l = pre by have h := HP.out; rw [prF_end l t hlt] at h; simpa using h)
      gi_wp2
      go_end0
      exact ⟨⟨_, rfl⟩, .inl ⟨pre, HF.out.symm, HJ.out⟩⟩
theorem Try.info21 : (Try.prog.info? 21).map (fun i => (i.zero, i.size, i.bytes)) = some (some (.int .i32 0), 1, 4) := by kernel_rfl
set_option maxHeartbeats 400000 in
theorem each_any (l : List UInt8) (w : World) :
    Calls Try.prog 68 #[.string ⟨l.toArray⟩] w fun e w' => e = .returned (.func (.func 77) #[] #[.pointer (some ⟨w.heap.size, 0, none⟩)]) ∧ w' = w.alloc (.cells #[.string ⟨l.toArray⟩] 9) := by
  go_enter Try.func68, Try.ntmps68
  go_wp2
  go_ret
  exact ⟨rfl, rfl⟩
theorem mksLen (l : List UInt8) : ∀ (n t : Nat), l.length - t ≤ n → (mks t (l.drop t)).length ≤ l.length - t
  | 0, t, h => by rw [mks_end l t (by omega)]; simp
  | n + 1, t, h => by
    by_cases ht : t < l.length
    · rw [mks_at l t ht]
      have hw := wid_ge l t ht
      have hw2 := wid_le l t ht
      have := mksLen l n (t + wid l t) (by omega)
      simp; omega
    · rw [mks_end l t ht]; simp
theorem prs_len (l : List UInt8) : (prs l).length ≤ l.length := by
  have := mksLen l l.length 0 (by omega)
  unfold prs
  simpa using this
/-- The runes that have come, as values. -/
def r32 (xs : List (Int × Int)) : List Value := xs.map fun x => Value.int .i32 x.2
theorem r32_snoc (xs : List (Int × Int)) (x : Int × Int) : r32 (xs ++ [x]) = r32 xs ++ [.int .i32 x.2] := by simp [r32]
/-- The runes of a text; the places of its faults. -/
def rns (l : List UInt8) : List Int := (mks 0 l).map (·.ru)
/-- What a value looks like that owns a row. -/
theorem owns_form {w : World} {base e size n : Nat} {v : Value} {xs : List Value} (h : w.ownsRow base e size v n xs) : ∃ ao cap, v = .slice ao n cap ∧ (0 < n → ∃ g, ao = some ⟨g, 0, none⟩ ∧ base ≤ g ∧ g < w.heap.size) := by
  rcases h.2 with ⟨hv, h0⟩ | ⟨g, cap, cur, hv, hb, hg, _⟩
  · exact ⟨none, 0, by rw [hv, h0], fun hn => by omega⟩
  · exact ⟨_, cap, hv, fun _ => ⟨g, rfl, hb, (Array.getElem?_eq_some_iff.1 hg).1⟩⟩
theorem mrkcs_get : ∀ (ms : List Mk) (k j : Nat) (m : Mk), ms[k]? = some m → j < 4 → (mrkcs ms)[k * 4 + j]? = (mrkc m)[j]?
  | [], k, j, m, h, _ => by simp at h
  | x :: ms, 0, j, m, h, hj => by
    simp at h; subst h
    show (mrkc x ++ mrkcs ms)[0 * 4 + j]? = _
    rw [Nat.zero_mul, Nat.zero_add, List.getElem?_append_left (by simpa [mrkc] using hj)]
  | x :: ms, k + 1, j, m, h, hj => by
    simp at h
    show (mrkc x ++ mrkcs ms)[(k + 1) * 4 + j]? = _
    rw [List.getElem?_append_right (by simp [mrkc]; omega)]
    rw [show (k + 1) * 4 + j - (mrkc x).length = k * 4 + j by simp [mrkc]; omega]
    exact mrkcs_get ms k j m h hj
theorem mks_len (l : List UInt8) : ∀ (n t : Nat), l.length - t ≤ n → (mks t (l.drop t)).length ≤ l.length - t
  | 0, t, h => by rw [mks_end l t (by omega)]; simp
  | n + 1, t, h => by
    by_cases ht : t < l.length
    · rw [mks_at l t ht]
      have hw := wid_ge l t ht
      have hw2 := wid_le l t ht
      have := mks_len l n (t + wid l t) (by omega)
      simp; omega
    · rw [mks_end l t ht]; simp
theorem ownsRow_base {w : World} {B B' : Nat} {e : TypeId} {size : Nat} {v : Value} {n : Nat} {xs : List Value} (hB : B' ≤ B) (h : w.ownsRow B e size v n xs) : w.ownsRow B' e size v n xs := by
  refine ⟨h.1, ?_⟩
  rcases h.2 with h0 | ⟨g, cap, cur, hv, hb, hg, hr⟩
  · exact Or.inl h0
  · exact Or.inr ⟨g, cap, cur, hv, Nat.le_trans hB hb, hg, hr⟩
/-- What stands in the list of marks, cell by cell. -/
theorem marks_cells {w : World} {B : Nat} {v : Value} {ms : List Mk} (h : w.ownsRow B 122 4 v ms.length (mrkcs ms)) : ∃ ao cap, v = .slice ao ms.length cap ∧
    ∀ (k : Nat) (m : Mk), ms[k]? = some m → ∃ g, ao = some ⟨g, 0, none⟩ ∧ g < w.heap.size ∧ w.cell? ⟨g, k * 4, none⟩ = some (.int .i64 m.pl) ∧ w.cell? ⟨g, k * 4 + 1, none⟩ = some (.int .i64 m.wd) ∧ w.cell? ⟨g, k * 4 + 2, none⟩ = some (.int .i32 m.ru) ∧ w.cell? ⟨g, k * 4 + 3, none⟩ = some (.bool m.bad) := by
  obtain ⟨ao, cap, rfl, hao⟩ := owns_form h
  refine ⟨ao, cap, rfl, fun k m hk => ?_⟩
  have hkl : k < ms.length := (List.getElem?_eq_some_iff.1 hk).1
  obtain ⟨g, hg, hg0, hg1⟩ := hao (by omega)
  have hc : ∀ j u, j < 4 → (mrkc m)[j]? = some u → w.cell? ⟨g, k * 4 + j, none⟩ = some u := fun j u hj hu => by
    have hc := h.cells (g := g) (by rw [hg]; rfl) (k * 4 + j) u (by rw [mrkcs_get ms k j m hk hj]; exact hu)
    rw [show (⟨g, 0, none⟩ : Addr).add (k * 4 + j) = ⟨g, k * 4 + j, none⟩ by unfold Addr.add; split <;> simp_all] at hc
    exact hc
  exact ⟨g, hg, hg1, by simpa using hc 0 _ (by omega) rfl, hc 1 _ (by omega) rfl, hc 2 _ (by omega) rfl, hc 3 _ (by omega) rfl⟩
theorem mks_le (l : List UInt8) : (mks 0 l).length ≤ l.length := by
  have := mks_len l l.length 0 (by omega)
  simpa using this
/-- The runes of the first marks, as values. -/
def pr32 (ms : List Mk) (k : Nat) : List Value := ((ms.take k).map (·.ru)).map (Value.int .i32)
theorem pr32_succ (ms : List Mk) (k : Nat) (h : k < ms.length) : pr32 ms (k + 1) = pr32 ms k ++ [.int .i32 ms[k].ru] := by
  unfold pr32
  rw [List.take_succ_eq_append_getElem h, List.map_append, List.map_append]; rfl
theorem pr32_all (ms : List Mk) (k : Nat) (h : ¬ k < ms.length) : pr32 ms k = (ms.map (·.ru)).map (Value.int .i32) := by
  unfold pr32
  rw [List.take_of_length_le (by omega)]
set_option maxHeartbeats 1000000 in
theorem rrunes_any (l : List UInt8) (w : World) (hl : l.length ≤ 1000000000000) :
    Calls Try.prog 69 #[.string ⟨l.toArray⟩] w fun e w' => ∃ v, e = .returned v ∧ w'.ownsRow w.heap.size 21 1 v (rns l).length ((rns l).map (Value.int .i32)) ∧ Below w.heap.size w w' := by
  obtain ⟨i0, hi, hz0, hz1, hz2⟩ := info_parts Try.info21
  go_enter Try.func69, Try.ntmps69
  go_wp2_with fail
  refine (marks_any l _ hl).mono ?_
  rintro e w1 ⟨v, rfl, hown1, hb1⟩
  have hlen := mks_le l
  obtain ⟨ms, hms⟩ : ∃ ms, ms = mks 0 l := ⟨_, rfl⟩
  rw [← hms] at hown1 hlen
  have HMS := hid (show rns l = ms.map (·.ru) by rw [hms]; rfl)
  obtain ⟨ao, cap, rfl, hcell⟩ := marks_cells hown1
  have HCELL := hid hcell
  clear hcell hown1 hms
  go_wp2
  go_loopw [4, 5] (fun o i wr => ∃ k : Nat, k ≤ ms.length ∧ i = .int .i64 k ∧ wr.ownsRow w1.heap.size 21 1 o k (pr32 ms k) ∧ Below w1.heap.size w1 wr) (fun _ i _ => ms.length - (intOf i).toNat)
  case atStart => exact ⟨0, by omega, rfl, World.ownsRow_nil _ _ _ _, Below.refl _ _⟩
  case round =>
    obtain ⟨k, hk, rfl, hown, hB⟩ := hrel
    have hs := hB.size
    by_cases hlt : k < ms.length
    · obtain ⟨g, rfl, hg1, _, _, hcg, _⟩ := HCELL.out k ms[k] (List.getElem?_eq_getElem hlt)
      have hcw : wr.cell? ⟨g, k * 4 + 2, none⟩ = some (.int .i32 ms[k].ru) := (hB.cell (p := ⟨g, k * 4 + 2, none⟩) hg1).trans hcg
      obtain ⟨z, hz⟩ : ∃ z, z = ms[k].ru := ⟨_, rfl⟩
      rw [← hz] at hcw
      have HZ := hid hz
      clear hz hcg
      go_wp2_with (at_builtin; refine wpList_append_own _ rfl _ _ 26 rfl w1.heap.size 21 i0 (.int .i32 0) 1 4 Try.underlying26 hi hz0 hz1 hz2 rfl (by decide) _ _ _ rfl (hown.alloc _) ⟨wr.heap.size, 0, none⟩ 1 1 [.int .i32 z] rfl rfl (news_one wr #[.int .i32 z] 21) (by intro u hu; simp at hu; subst hu; rfl) (by unfold maxLen; omega) (by omega) (by simp; omega) ?_)
      intro v' w2 hown' hgrow _
      have hB2 : Below w1.heap.size w1 w2 := (hB.alloc hB.size _).grown hgrow (by simp; omega) (fun k hk => (hown.lt k hk).1)
      have hown2 : w2.ownsRow w1.heap.size 21 1 v' (k + 1) (pr32 ms (k + 1)) := by rw [pr32_succ ms k hlt, ← HZ.out]; exact hown'
      clear hown' hgrow hown hB hcw
      go_wp2
      go_roundw
      case rel => exact ⟨k + 1, by omega, by go_num, hown2, hB2⟩
      case measure => simp [intOf]; omega
    · have hke : k = ms.length := by omega
      have HKE := hid hke
      have HP := hid (pr32_all ms k hlt)
      clear hke
      go_wp2
      go_ret
      refine ⟨_, rfl, ?_, hb1.trans (hB.mono hb1.size)⟩
      rw [HMS.out, List.length_map, ← HP.out, ← HKE.out]
      exact ownsRow_base hb1.size hown
/-- A slice of numbers, as it can be read. -/
def Reads (K : IntKind) (w : World) (v : Value) (E : List Int) : Prop :=
  ∃ ao cap, v = .slice ao E.length cap ∧ ∀ (k : Nat) (z : Int), E[k]? = some z → ∃ g o, ao = some ⟨g, o, none⟩ ∧ g < w.heap.size ∧ w.cell? ⟨g, o + k, none⟩ = some (.int K z)
theorem Reads.below {K : IntKind} {w w' : World} {v : Value} {E : List Int} (h : Reads K w v E) (hb : Below w.heap.size w w') : Reads K w' v E := by
  obtain ⟨ao, cap, hv, hc⟩ := h
  refine ⟨ao, cap, hv, fun k z hk => ?_⟩
  obtain ⟨g, o, hg, hl, hcell⟩ := hc k z hk
  have := hb.size
  exact ⟨g, o, hg, by omega, (hb.cell (p := ⟨g, o + k, none⟩) hl).trans hcell⟩
theorem Reads.of_row {K : IntKind} {w : World} {B e : Nat} {v : Value} {E : List Int} (h : w.ownsRow B e 1 v E.length (E.map (Value.int K))) : Reads K w v E := by
  obtain ⟨ao, cap, rfl, hao⟩ := owns_form h
  refine ⟨ao, cap, rfl, fun k z hk => ?_⟩
  have hkl : k < E.length := (List.getElem?_eq_some_iff.1 hk).1
  obtain ⟨g, hg, _, hlt⟩ := hao (by omega)
  have hc := h.cells (g := g) (by rw [hg]; rfl) k (.int K z) (by rw [List.getElem?_map, hk]; rfl)
  rw [show (⟨g, 0, none⟩ : Addr).add k = ⟨g, k, none⟩ by unfold Addr.add; split <;> simp_all] at hc
  exact ⟨g, 0, hg, hlt, by rw [Nat.zero_add]; exact hc⟩
set_option maxHeartbeats 400000 in
theorem places_any (a b : Value) (E : List Int) (w : World) (hE : E.length ≤ 1000000000000) (ha : Reads .i64 w a E) (hb : Reads .i64 w b E) :
    Calls Try.prog 46 #[a, b] w fun e w' => e = .returned (.bool true) ∧ Below w.heap.size w w' := by
  obtain ⟨ao, ca, rfl, hca⟩ := ha
  obtain ⟨bo, cb, rfl, hcb⟩ := hb
  have HA := hid hca
  have HB := hid hcb
  clear hca hcb
  go_enter Try.func46, Try.ntmps46
  go_wp2
  go_loopw [5] (fun i wr => ∃ k : Nat, i = .int .i64 k ∧ k ≤ E.length ∧ Below w.heap.size w wr) (fun i _ => E.length - (intOf i).toNat)
  case atStart => exact ⟨0, rfl, by omega, Below.refl _ _⟩
  case round =>
    obtain ⟨k, rfl, hk, hBr⟩ := hrel
    by_cases hlt : k < E.length
    · obtain ⟨g, o, rfl, l1, h1⟩ := HA.out k E[k] (List.getElem?_eq_getElem hlt)
      obtain ⟨g', o', rfl, l2, h2⟩ := HB.out k E[k] (List.getElem?_eq_getElem hlt)
      obtain ⟨z, hz⟩ : ∃ z, z = E[k] := ⟨_, rfl⟩
      rw [← hz] at h1 h2
      have h1' := (hBr.cell (p := ⟨g, o + k, none⟩) l1).trans h1
      have h2' := (hBr.cell (p := ⟨g', o' + k, none⟩) l2).trans h2
      clear hz HA HB h1 h2
      go_wp2
      go_quiet (fail)
      go_wp2
      go_roundw
      case rel => exact ⟨k + 1, by go_num, by omega, hBr.trans ⟨rfl, rfl, rfl, Nat.le_refl _, fun _ _ => rfl⟩⟩
      case measure => simp [intOf]; omega
    · go_wp2
      go_ret
      exact ⟨rfl, hBr⟩
end Go.Proofs.Ytljlhlcoaajggaa
/- Regions that draw their order, within a round of a range over a function. -/
namespace Go.Proofs.Ytljlhlcoaajggaa

/-- Q at a normal end alone. -/
def OnlyN (Q : Exit → Act → World → Prop) : Exit → Act → World → Prop
  | .normal, a, w => Q .normal a w
  | _, _, _ => False
theorem OnlyN.imp {Q : Exit → Act → World → Prop} : ∀ (e : Exit) (a : Act) (w : World), OnlyN Q e a w → Q e a w := fun e a w h => by
  cases e <;> first | exact h | exact (h : False).elim
theorem OnlyN.in {Q : Exit → Act → World → Prop} {a : Act} {w : World} (h : Q .normal a w) : OnlyN Q .normal a w := h

section
variable {P : Program} {ops : Array Oper} {Q : Exit → Act → World → Prop} {md : Region.Mode}
theorem operIn_of {o : Oper} {a : Act} {w : World} {K : Act → World → Prop} (l n : Nat) (hnd : ∀ c, o.op ≠ .defer c) (h : o.wp P a w K Q) : o.wpIn (Fence.wide.inRound l) n P a w K Q := by
  unfold Oper.wpIn
  refine ⟨fun _ _ => trivial, ?_⟩
  rw [Oper.semAt_eq _ _ _ hnd]
  unfold Oper.wp at h
  generalize (execOp a.eval o).run P w = r at *
  cases r with
  | ok x w' =>
    cases x <;> simp only [Oper.uponIn, Oper.upon] at h ⊢
    case value => exact h
    case skip => exact h
    case defer => exact h
    case enter => exact ⟨fun hd => by simp [Fence.wide] at hd, CallsIn.inRound l (callsIn_wide.2 h)⟩
    case row => exact ⟨fun hd => by simp [Fence.wide] at hd, fun c cs _ => let ⟨v, w', r, s⟩ := h c cs; ⟨v, w', r, stepsIn_wide.2 s⟩⟩
  | halt x w' => cases x <;> simp only [Oper.uponIn, Oper.upon] at h ⊢ <;> exact h
theorem wpAnyIn_of (l n : Nat) (hnd : ∀ (j : Nat) (o : Oper), ops[j]? = some o → ∀ c, o.op ≠ .defer c) (hQ : ¬ LetsOut Q) : ∀ (f : Nat) (listed : Array Bool) (a : Act) (w : World), wpAny P md ops Q f listed a w → wpAnyIn (Fence.wide.inRound l) n P md ops Q f listed a w
  | 0, _, _, _, h => h
  | f + 1, listed, a, w, h => by
    refine ⟨h.1, fun i hi => ?_⟩
    have h1 := h.2 i hi
    unfold wpOp at h1
    unfold wpOpIn
    cases ho : ops[i]? with
    | none =>
      simp only [ho] at h1 ⊢
      exact wpAnyIn_of l n hnd hQ f _ _ _ h1
    | some o =>
      simp only [ho] at h1 ⊢
      split
      · rename_i hw
        simp only [hw, if_true] at h1
        rcases h1 with h1 | h1
        · exact operIn_of l n (hnd i o ho) (Oper.wp_mono (fun a' w' h' => wpAnyIn_of l n hnd hQ f _ a' w' h') h1)
        · exact absurd h1.2 hQ
      · rename_i hw
        simp only [hw] at h1
        exact ⟨fun _ _ => trivial, wpAnyIn_of l n hnd hQ f _ _ _ h1⟩
/-- The law, within a round. -/
theorem wpIn_region_holdG {id : Nat} {a : Act} {w : World} {l : List Oper} (lp m n : Nat) (S : World → Prop) (fin : Nat → Bool) (hm : P.follows .mixedOrders = true) (hsel : Region.noSelect l.toArray = true) (hnd : l.all (fun o => match o.op with | .defer _ => false | _ => true) = true) (hn : n ≤ l.length) (hs : ∀ j, fin j = true → j < l.length)
    (hB : Region.holdB .any l.toArray fin (l.drop n).length n 0 (Array.replicate l.length false) = true) (hS : S w.drew)
    (h : wpHold P l.toArray S (fun a' => wpTailG P l.toArray (OnlyN Q) S fin n (l.drop n) a' w.drew) (l.take n) a) : (Code.region id l.toArray true).wpIn (Fence.wide.inRound lp) m P Q a w := by
  refine Code.wpIn_mono OnlyN.imp ?_
  have htl : (l.take n).length = n := by simp; omega
  have hdl : (l.drop n).length = l.length - n := by simp
  refine wpIn_region_any hm (wpAnyIn_of lp m (fun j o ho c hc => ?_) (fun ⟨_, _, hq⟩ => hq) _ _ _ _ (anyT_any (S := S) (fin := fin) _ _ _ _ ?_))
  · have h5 := List.all_eq_true.1 hnd o (List.mem_of_getElem? (i := j) (by simpa using ho))
    rw [hc] at h5
    cases h5
  · have H := anyT_hold (P := P) (ops := l.toArray) (Q := OnlyN Q) (md := .any) (S := S) (fin := fin) (w := w.drew) (g := (l.drop n).length) hsel (by simpa using hs) (fun _ _ _ _ _ h => h) hS
      (fun n' listed a' hq hL hng => by
        have hnn : n' = n := by rw [hdl] at hng; simp at hng; omega
        subst hnn
        exact anyT_tailG (l.drop n') n' listed a' w.drew (fun j => by simp [List.getElem?_drop]) hq hL)
      (l.take n) 0 (Array.replicate l.length false) a (fun j hj => by
        have hj' : j < n := by rw [htl] at hj; exact hj
        simp [hj']) (by rw [htl, hdl]; simp; omega) (by rw [htl]; exact hB) h
    rw [htl, hdl, show n + (l.length - n) = l.length by omega] at H
    simpa using H
end
end Go.Proofs.Ytljlhlcoaajggaa
/- The contracts of Classes, the program's and the document's: of each rune of a text its class. -/
namespace Go.Proofs.Ytljlhlcoaajggaa
open Go.RowKit Go.Shelf
attribute [local go_sem] Oper.semAt_some

/-- Get of any number, by the ranges. -/
theorem getZ (B T r : Nat) (F : List (List Nat)) (L : List Tr) (x : Int) (w : World) (h : TbAt B T F r w) (hF : F.flatten = clA r L) (hr : r < 256) (hR : Ris 0 L) :
    Calls Try.prog 34 #[.pointer (some ⟨T, 0, none⟩), .int .i32 x] w fun e w' => e = .returned (.int .i64 ((gtR r x L : Nat) : Int)) ∧ ∃ n, w' = w.drewN n := by
  by_cases hx : x < 0 ∨ 1114111 < x
  · refine (get_out B T r F x w h hr hx).mono ?_
    rintro e w' ⟨rfl, rfl⟩
    refine ⟨?_, 0, rfl⟩
    rcases hx with hx | hx
    · rw [gtR_low r L 0 x (by simpa using hx) hR]
    · rw [gtR_high r L 0 x hx hR]
  · obtain ⟨R, rfl⟩ : ∃ R : Nat, x = (R : Int) := ⟨x.toNat, by omega⟩
    refine (get_any B T r F R w h (by omega)).mono ?_
    rintro e w' ⟨rfl, n, rfl⟩
    exact ⟨by rw [gtR_clA r L R (by omega) hR, hF], n, rfl⟩

/-- The classes of the runes that have come, as values. -/
def g64 (r : Nat) (L : List Tr) (xs : List (Int × Int)) : List Value := xs.map fun x => Value.int .i64 ((gtR r x.2 L : Nat) : Int)
theorem g64_snoc (r : Nat) (L : List Tr) (xs : List (Int × Int)) (x : Int × Int) : g64 r L (xs ++ [x]) = g64 r L xs ++ [.int .i64 ((gtR r x.2 L : Nat) : Int)] := by simp [g64]
theorem Try.info3' : (Try.prog.info? 3).map (fun i => (i.zero, i.size, i.bytes)) = some (some (.int .i64 0), 1, 8) := by kernel_rfl

set_option maxHeartbeats 2000000 in
set_option maxRecDepth 100000 in
theorem classes_in (B T r : Nat) (F : List (List Nat)) (L : List Tr) (l : List UInt8) (w : World) (h : TbAt B T F r w) (hF : F.flatten = clA r L) (hr : r < 256) (hR : Ris 0 L) (hl : l.length ≤ 1000000000000) :
    CallsIn Fence.wide 3 Try.prog 47 #[.pointer (some ⟨T, 0, none⟩), .string ⟨l.toArray⟩] w fun e W' => ∃ v, e = .returned v ∧ W'.ownsRow w.heap.size 3 1 v (prs l).length (g64 r L (prs l)) ∧ Below w.heap.size w W' := by
  obtain ⟨i0, hi, hz0, hz1, hz2⟩ := info_parts Try.info3'
  have hcnt : Lib.runeCount ⟨l.toArray⟩ ≤ l.length := by
    have h := Lib.runeCount_le ⟨l.toArray⟩
    have hs : (⟨l.toArray⟩ : ByteArray).size = l.length := by show l.toArray.size = _; simp
    rw [hs] at h; exact h
  have HG := hid (fun (x : Int) (W : World) (hW : TbAt B T F r W) => getZ B T r F L x W hW hF hr hR)
  have HTB := hid h
  clear h hF hR
  refine callsIn_of_wp_marks Try.func47 rfl trivial ?_ rfl
  simp only [Try.ntmps47, List.size_toArray, List.length_cons, List.length_nil, Nat.reduceAdd, Nat.reduceSub, Array.replicate_succ, Array.replicate_zero, List.push_toArray, List.append_toArray, List.nil_append, List.cons_append]
  gi_wp2_with (first | (refine ⟨trivial, ?_⟩; gi_at_call 67; refine (callsIn_wide.2 (ucount_any l _ (by omega))).mono ?_; rintro e w1 ⟨rfl, hb1⟩; rw [World.size_alloc] at hb1; have hb1s : w.heap.size + 1 ≤ w1.heap.size := (by have h5 := hb1.size; simpa using h5); have hx1 : w1.cell? ⟨w.heap.size, 0, none⟩ = some (.pointer (some ⟨T, 0, none⟩)) := (hb1.cell (p := ⟨w.heap.size, 0, none⟩) (Nat.lt_succ_self _)).trans (Boxed.new w 28 (.pointer (some ⟨T, 0, none⟩))).cell) | (gi_at_make; refine wpListIn_make_own _ rfl _ _ 41 rfl (w.heap.size + 1) 3 i0 (.int .i64 0) 1 Try.underlying41 hi hz0 hz1 .i64 .i64 _ (Lib.runeCount ⟨l.toArray⟩) rfl rfl rfl (by rw [hz2]; omega) (by unfold maxLen; omega) hb1s ?_; intro w2 hown2 hgrow2) | (refine ⟨trivial, ?_⟩; gi_at_call 68; refine (callsIn_wide.2 (each_any l _)).mono ?_; rintro e w' ⟨rfl, rfl⟩))
  have hB2 : Below (w.heap.size + 1) (w.alloc (.cells #[.pointer (some ⟨T, 0, none⟩)] 28)) w2 := hb1.grown hgrow2 hb1s (fun k e => by cases e)
  have hTA : TbAt B T F r (w.alloc (.cells #[.pointer (some ⟨T, 0, none⟩)] 28)) := HTB.out.below ((Below.refl _ _).alloc (Nat.le_refl _) _)
  have hA0 : Below w.heap.size w (w.alloc (.cells #[.pointer (some ⟨T, 0, none⟩)] 28)) := (Below.refl _ _).alloc (Nat.le_refl _) _
  have hAs : (w.alloc (.cells #[.pointer (some ⟨T, 0, none⟩)] 28)).heap.size = w.heap.size + 1 := World.size_alloc _ _
  have hAc := (Boxed.new w 28 (.pointer (some ⟨T, 0, none⟩))).cell
  obtain ⟨A0, hAE⟩ : ∃ A0, A0 = w.alloc (.cells #[.pointer (some ⟨T, 0, none⟩)] 28) := ⟨_, rfl⟩
  rw [← hAE] at hB2 hTA hA0 hAs hAc
  clear hb1 hAE
  have bL := Boxed.new w2 41 (.slice (some ⟨w1.heap.size, 0, none⟩) 0 (Lib.runeCount ⟨l.toArray⟩))
  have bS := Boxed.new (w2.alloc (.cells #[.slice (some ⟨w1.heap.size, 0, none⟩) 0 (Lib.runeCount ⟨l.toArray⟩)] 41)) 9 (.string ⟨l.toArray⟩)
  rw [World.size_alloc] at bS
  have hs2 : w.heap.size + 1 ≤ w2.heap.size := by have h5 := hB2.size; omega
  have hB0 : Below (w.heap.size + 1) A0 ((w2.alloc (.cells #[.slice (some ⟨w1.heap.size, 0, none⟩) 0 (Lib.runeCount ⟨l.toArray⟩)] 41)).alloc (.cells #[.string ⟨l.toArray⟩] 9)) := (hB2.alloc hs2 _).alloc (by simp; omega) _
  have hpl := prs_len l
  refine wpIn_rangeFunc_ownG rfl (by omega) (gf := 77) (lb := #[.pointer (some ⟨w2.heap.size + 1, 0, none⟩)]) rfl trivial (enters_of Try.func77 (by kernel_rfl) rfl)
    (seqStopsA_iff.1 (each_stops Fence.wide (3 - 1) trivial rfl (by omega) (w2.heap.size + 1) l _ (by simp) bS.cell)) walksK_t walksK_b (Below.refl _ _) (fun _ => rfl)
    (fun pre W => (∃ v, Boxed W w2.heap.size 41 v ∧ W.ownsRow (w.heap.size + 1) 3 1 v pre.length (g64 r L pre) ∧ True) ∧ Below (w.heap.size + 1) A0 W)
    (fun _ _ _ => False)
    (OwnFrom.and (Own.from (holdsRow_own (w.heap.size + 1) w2.heap.size 41 3 1 (fun pre => pre.length) (fun pre => g64 r L pre) (fun _ _ => True)) _) (ownFrom_below (by omega) (by simp; omega)))
    (fun _ _ _ _ _ hs _ _ => hs)
    ⟨⟨_, bL.alloc _, (hown2.alloc _).alloc _, trivial⟩, hB0⟩
    (fun x => { tmps := #[.pointer (some ⟨T, 0, none⟩), .string ⟨l.toArray⟩, .pointer (some ⟨w.heap.size, 0, none⟩), undef, .slice none 0 0, .pointer (some ⟨w2.heap.size, 0, none⟩), undef, .int .i32 x.2, .pointer (some ⟨T, 0, none⟩), .bool false, .string ⟨l.toArray⟩, .int .i64 (Lib.runeCount ⟨l.toArray⟩), .slice (some ⟨w1.heap.size, 0, none⟩) 0 (Lib.runeCount ⟨l.toArray⟩), .string ⟨l.toArray⟩, .func (.func 77) #[] #[.pointer (some ⟨w2.heap.size + 1, 0, none⟩)], .int .i64 x.1, .int .i32 x.2, undef, undef, undef, undef, undef, undef, undef], defers := [] }) ?assign ?body ?done ?stop
  case assign =>
    intro lp x W K hK
    dsimp only [encs2]
    gi_wp2
    exact hK
  case body =>
    rintro lp pre x W ⟨⟨v, hv, hrow, _⟩, hB⟩ hlt
    obtain ⟨vo, vc, rfl⟩ := own_form hrow
    have hTW : TbAt B T F r W := hTA.below (by rw [hAs]; exact hB)
    have x1 : W.drew.cell? ⟨w2.heap.size, 0, none⟩ = some (.slice vo pre.length vc) := hv.cell
    have x2 : W.drew.cell? ⟨w.heap.size, 0, none⟩ = some (.pointer (some ⟨T, 0, none⟩)) := (hB.cell (p := ⟨w.heap.size, 0, none⟩) (Nat.lt_succ_self _)).trans hAc
    have HSS := hid (And.intro x1 x2)
    have HGX := hid (HG.out x.2 W.drew hTW)
    have HV := hid hv
    have HROW := hid hrow
    have HBW := hid hB
    have hWs : w.heap.size + 1 ≤ W.heap.size := by have h5 := hB.size; omega
    clear hv hrow hB hTW
    gi_wp2_with fail
    refine wpIn_region_holdG lp _ 3 (fun w' => w'.cell? ⟨w2.heap.size, 0, none⟩ = some (.slice vo pre.length vc) ∧ w'.cell? ⟨w.heap.size, 0, none⟩ = some (.pointer (some ⟨T, 0, none⟩))) (fun j => j == 6) (by kernel_rfl) (by kernel_rfl) (by kernel_rfl) (by decide) (fun j hj => by rcases (show j = 6 by simpa using hj) with rfl; decide) (by kernel_rfl) ⟨x1, x2⟩ ?_
    dsimp only [List.take, List.drop]
    iterate 3 (refine wpHold_step ?_ rfl (fun w' hS => ?_) ?_; (rotate_left; (obtain ⟨s1, s2⟩ := hS; go_simp; with_reducible rfl); rotate_left))
    simp only [Act.put, List.setIfInBounds_toArray, List.set_cons_zero, List.set_cons_succ]
    show wpTailG _ _ _ _ _ _ _ _ _
    refine tailG_yes (by kernel_rfl) fun KK hKK => ?_
    go_simp
    refine HGX.out.mono ?_
    rintro e w3 ⟨rfl, nn, rfl⟩
    refine hKK _ _ (fun _ => HSS.out) ?_
    clear hKK KK
    have HVV := hid (show Boxed (W.drew.drewN nn) w2.heap.size 41 (.slice vo pre.length vc) from HV.out)
    have HRV := hid (show (W.drew.drewN nn).ownsRow (w.heap.size + 1) 3 1 (.slice vo pre.length vc) pre.length (g64 r L pre) from HROW.out)
    have HSV := hid (show (W.drew.drewN nn).cell? ⟨w2.heap.size, 0, none⟩ = some (.slice vo pre.length vc) ∧ (W.drew.drewN nn).cell? ⟨w.heap.size, 0, none⟩ = some (.pointer (some ⟨T, 0, none⟩)) from HSS.out)
    have HKV := hid (show KeepsOthers W (W.drew.drewN nn) from ⟨Nat.le_refl _, fun _ _ h _ => h⟩)
    have HBV := hid (show Below (w.heap.size + 1) W (W.drew.drewN nn) from ⟨rfl, rfl, rfl, Nat.le_refl _, fun _ _ => rfl⟩)
    have hVs : w.heap.size + 1 ≤ (W.drew.drewN nn).heap.size := hWs
    obtain ⟨V, hVE⟩ : ∃ V, V = W.drew.drewN nn := ⟨_, rfl⟩
    rw [← hVE] at HVV HRV HSV HKV HBV hVs ⊢
    clear hVE x1 x2 HGX HSS
    have b2 : w2.heap.size < V.heap.size := HVV.out.lt
    refine tailG_yes (by kernel_rfl) fun KK hKK => ?_
    go_simp
    have HSA := hid (show (V.alloc (.cells #[.int .i64 ((gtR r x.2 L : Nat) : Int)] 3)).cell? ⟨w2.heap.size, 0, none⟩ = some (.slice vo pre.length vc) ∧ (V.alloc (.cells #[.int .i64 ((gtR r x.2 L : Nat) : Int)] 3)).cell? ⟨w.heap.size, 0, none⟩ = some (.pointer (some ⟨T, 0, none⟩)) from ⟨(((Below.refl V.heap.size V).alloc (Nat.le_refl _) _).cell (p := ⟨w2.heap.size, 0, none⟩) b2).trans HSV.out.1, (((Below.refl V.heap.size V).alloc (Nat.le_refl _) _).cell (p := ⟨w.heap.size, 0, none⟩) (by show w.heap.size < _; omega)).trans HSV.out.2⟩)
    refine hKK _ _ (fun _ => HSA.out) ?_
    clear hKK KK
    try simp only [Act.put, List.setIfInBounds_toArray, List.set_cons_zero, List.set_cons_succ]
    refine tailG_yes (by kernel_rfl) fun KK hKK => ?_
    refine wp_append_lies _ _ _ 41 rfl (w.heap.size + 1) 3 i0 (.int .i64 0) 1 8 Try.underlying41 hi hz0 hz1 hz2 rfl (by decide) _ pre.length (g64 r L pre) rfl (HRV.out.alloc _) ⟨V.heap.size, 0, none⟩ 1 1 [.int .i64 ((gtR r x.2 L : Nat) : Int)] rfl rfl (cell_one_new _ _ _) (by simp [Value.oneCell']) (by decide) (by unfold maxLen; omega) (by omega) (by simp; omega) (V.heap.size + 1) (by simp) ?_
    intro q4 c4 w4 o4 gr4 hl4 hlt4
    obtain ⟨hv1, hv2, hr2, hk2, hb2⟩ := HVV.out.appended (by decide) HRV.out hVs (by omega) o4 gr4
    have HS4 := hid (show w4.cell? ⟨w2.heap.size, 0, none⟩ = some (.slice vo pre.length vc) ∧ w4.cell? ⟨w.heap.size, 0, none⟩ = some (.pointer (some ⟨T, 0, none⟩)) from ⟨hv1.cell, ((((Below.refl _ _).alloc hVs _).grown gr4 (by simp; omega) (fun k hk => (HRV.out.lt k hk).1)).cell (p := ⟨w.heap.size, 0, none⟩) (Nat.lt_succ_self _)).trans HSV.out.2⟩)
    have hc1 := hv1.cell
    have hf1 := hv1.frozen
    refine hKK _ _ (fun _ => HS4.out) ?_
    clear hKK KK gr4 hl4 hlt4
    try simp only [Act.put, List.setIfInBounds_toArray, List.set_cons_zero, List.set_cons_succ]
    refine tailG_yes (by kernel_rfl) fun KK hKK => ?_
    go_simp
    refine hKK _ _ (fun h => by cases h) ?_
    clear hKK KK
    try simp only [Act.put, List.setIfInBounds_toArray, List.set_cons_zero, List.set_cons_succ]
    refine tailG_nil (OnlyN.in ?_)
    have HF := hid (show KeepsOthers W (w4.setCell ⟨w2.heap.size, 0, none⟩ (.slice (some ⟨q4, 0, none⟩) (pre.length + 1) c4)) from HKV.out.trans hk2)
    have HB4 := hid ((HBW.out.trans HBV.out).trans hb2)
    exact ⟨HF.out.from _, ⟨HF.out.size, fun k o h hw => HF.out.same k o h (Obj.not_cells_of_walk hw)⟩, ⟨_, hv2, by rw [g64_snoc, List.length_append]; exact hr2, trivial⟩, HB4.out⟩
  case done =>
    rintro D ys W hD rfl ⟨⟨v, hv, hrow, _⟩, hB⟩ hK
    have hc := hv.cell
    gi_wp2
    refine ⟨by simp, .inl ⟨_, _, rfl, run_takeDeferred hK, ?_⟩⟩
    exact ⟨_, results_tmp rfl _ _ _, v, rfl, ownsRow_base (Nat.le_succ _) (ownsRow_putObj hrow _ hK rfl), (hA0.trans (hB.mono (Nat.le_succ _))).trans (belowK_b (w := w) (Nat.le_refl _) W D _ _ (by simp at hD; omega) hK rfl rfl)⟩
  case stop =>
    rintro D c pre W _ _ h _
    exact h.elim

theorem classes_any (B T r : Nat) (F : List (List Nat)) (L : List Tr) (l : List UInt8) (w : World) (h : TbAt B T F r w) (hF : F.flatten = clA r L) (hr : r < 256) (hR : Ris 0 L) (hl : l.length ≤ 1000000000000) :
    Calls Try.prog 47 #[.pointer (some ⟨T, 0, none⟩), .string ⟨l.toArray⟩] w fun e W' => ∃ v, e = .returned v ∧ W'.ownsRow w.heap.size 3 1 v (prs l).length (g64 r L (prs l)) ∧ Below w.heap.size w W' :=
  callsIn_wide.1 (classes_in B T r F L l w h hF hr hR hl)
theorem RtAt.below {B P r : Nat} {L : List Tr} {w w' : World} (h : RtAt B P L r w) (hb : Below w.heap.size w w') : RtAt B P L r w' := by
  obtain ⟨v, h1, h2⟩ := h
  exact ⟨v, (hb.block P (lt_of_heap h1)).trans h1, own_keep h2 hb⟩
/-- The classes of the first runes, as values. -/
def q64 (r : Nat) (L : List Tr) (zs : List Int) : List Value := zs.map fun z => Value.int .i64 ((gtR r z L : Nat) : Int)
theorem q64_all (r : Nat) (L : List Tr) (l : List UInt8) : q64 r L (rns l) = g64 r L (prs l) := by simp [q64, g64, rns, prs]
theorem q64_snoc (r : Nat) (L : List Tr) (zs : List Int) (z : Int) : q64 r L (zs ++ [z]) = q64 r L zs ++ [.int .i64 ((gtR r z L : Nat) : Int)] := by simp [q64]
theorem rns_len (l : List UInt8) : (rns l).length = (prs l).length := by simp [rns, prs]

set_option maxHeartbeats 2000000 in
set_option maxRecDepth 100000 in
theorem rclasses_any (B P r : Nat) (L : List Tr) (l : List UInt8) (w : World) (h : RtAt B P L r w) (hL : L.length ≤ 1000000000) (hl : l.length ≤ 1000000000000) :
    Calls Try.prog 48 #[.pointer (some ⟨P, 0, none⟩), .string ⟨l.toArray⟩] w fun e w' => ∃ v, e = .returned v ∧ w'.ownsRow w.heap.size 3 1 v (prs l).length (g64 r L (prs l)) ∧ Below w.heap.size w w' := by
  obtain ⟨i0, hi, hz0, hz1, hz2⟩ := info_parts Try.info3'
  have HRT := hid h
  have HL := hid hL
  clear h hL
  go_enter Try.func48, Try.ntmps48
  go_wp2_with fail
  refine (rrunes_any l _ hl).mono ?_
  rintro e w1 ⟨v, rfl, hown1, hb1⟩
  have HB1 := hid hb1
  have hs1 := hb1.size
  have hlen : (rns l).length ≤ l.length := by rw [rns_len]; exact prs_len l
  have HQA := hid (q64_all r L l)
  have HQL := hid (rns_len l)
  obtain ⟨zs, hzs⟩ : ∃ zs, zs = rns l := ⟨_, rfl⟩
  rw [← hzs] at hown1 hlen HQA HQL
  obtain ⟨ao, cap, rfl, hcell⟩ := Reads.of_row hown1
  have HCELL := hid hcell
  obtain ⟨n, hn⟩ : ∃ n, n = zs.length := ⟨_, rfl⟩
  rw [← hn] at hlen HQL ⊢
  have HN := hid hn
  have HR1 := hid (fun (z : Int) (W : World) (hW : Below w1.heap.size w1 W) => rget_any B P L r z W ((HRT.out.below hb1).below hW) HL.out)
  clear hcell hown1 hzs hb1 hn
  go_wp2
  go_loopw [6, 7] (fun o i wr => ∃ k : Nat, k ≤ n ∧ i = .int .i64 (k : Int) ∧ Hid (wr.ownsRow w1.heap.size 3 1 o k (q64 r L (zs.take k))) ∧ Hid (Below w1.heap.size w1 wr)) (fun _ i _ => n - (intOf i).toNat)
  case atStart => exact ⟨0, by omega, rfl, World.ownsRow_nil _ _ _ _, Below.refl _ _⟩
  case round =>
    obtain ⟨k, hk, rfl, HO, HB⟩ := hrel
    rename_i o _
    have hs := HB.out.size
    by_cases hlt : k < n
    · have hkz : k < zs.length := by have h5 := HN.out; omega
      obtain ⟨g, oo, rfl, hg1, hcg⟩ := HCELL.out k zs[k] (List.getElem?_eq_getElem hkz)
      have hcw : wr.cell? ⟨g, oo + k, none⟩ = some (.int .i32 zs[k]) := (HB.out.cell (p := ⟨g, oo + k, none⟩) hg1).trans hcg
      have HSN := hid (show q64 r L (zs.take (k + 1)) = q64 r L (zs.take k) ++ [.int .i64 ((gtR r zs[k] L : Nat) : Int)] by rw [List.take_succ_eq_append_getElem hkz, q64_snoc])
      obtain ⟨z, hz⟩ : ∃ z, z = zs[k] := ⟨_, rfl⟩
      rw [← hz] at hcw HSN
      have i3 : (k : Int) < (n : Int) := by omega
      have i4 : (0 : Int) ≤ (k : Int) := by omega
      clear hz hcg hkz
      go_wp2_with (first | (go_at_call 45; refine (HR1.out z wr HB.out).mono ?_; rintro e w9 ⟨rfl, hw9⟩; obtain rfl := hw9.symm) | (at_builtin; refine wpList_append_own _ rfl _ _ 41 rfl w1.heap.size 3 i0 (.int .i64 0) 1 8 Try.underlying41 hi hz0 hz1 hz2 rfl (by decide) _ _ _ rfl (HO.out.alloc _) ⟨wr.heap.size, 0, none⟩ 1 1 [.int .i64 ((gtR r z L : Nat) : Int)] rfl rfl (cell_one_new _ _ _) (by simp [Value.oneCell']) (by unfold maxLen; omega) (by omega) (by simp; omega) ?_; intro v' w2 hown' hgrow _))
      have HB2 := hid ((HB.out.alloc hs _).grown hgrow (by simp; omega) (fun k hk => (HO.out.lt k hk).1))
      have HO2 := hid (show w2.ownsRow w1.heap.size 3 1 v' (k + 1) (q64 r L (zs.take (k + 1))) by rw [HSN.out]; exact hown')
      clear hown' hgrow hcw
      go_wp2
      go_roundw
      case rel => exact ⟨k + 1, by omega, by go_num, HO2, HB2⟩
      case measure => simp [intOf]; omega
    · have i3 : ¬ (k : Int) < (n : Int) := by omega
      have HE := hid (show zs.take k = zs from List.take_of_length_le (by have h5 := HN.out; omega))
      have HKN := hid (show k = n by omega)
      go_wp2
      go_ret
      refine ⟨_, rfl, ?_, HB1.out.trans (HB.out.mono hs1)⟩
      have h5 := ownsRow_base hs1 HO.out
      rw [HE.out, HQA.out, HKN.out, HQL.out] at h5
      exact h5
end Go.Proofs.Ytljlhlcoaajggaa
/- The contract of Pair (package kerfref03). -/
namespace Go.Proofs.Ytljlhlcoaajggaa
open Go.RowKit

set_option maxHeartbeats 8000000 in
set_option maxRecDepth 100000 in
theorem rpair_any (B1 P1 B2 P2 : Nat) (L M : List Tr) (r q : Nat) (w : World) (h1 : RtAt B1 P1 L r w) (h2 : RtAt B2 P2 M q w) (hr : r < 256) (hq : q < 256) (hL : Ris 0 L) (hM : Ris 0 M) (hl : L.length ≤ 100000) (hm : M.length ≤ 100000) :
    Calls Try.prog 24 #[.pointer (some ⟨P1, 0, none⟩), .pointer (some ⟨P2, 0, none⟩)] w fun e w' => Below w.heap.size w w' ∧
      ((256 < (ad ((r : Int), (q : Int)) (zpF (alA r L) (alA q M)).1).1.length ∧ e = .returned (.tuple #[.pointer none, .slice none 0 0, .int .i64 6])) ∨
       ((ad ((r : Int), (q : Int)) (zpF (alA r L) (alA q M)).1).1.length ≤ 256 ∧ ∃ P' ao ac, e = .returned (.tuple #[.pointer (some ⟨P', 0, none⟩), .slice ao (ad ((r : Int), (q : Int)) (zpF (alA r L) (alA q M)).1).1.length ac, .int .i64 0]) ∧ w.heap.size ≤ P' ∧
         RdP w' ao (ad ((r : Int), (q : Int)) (zpF (alA r L) (alA q M)).1).1 ∧
         RtAt w.heap.size P' (nrA (ad ((r : Int), (q : Int)) (zpF (alA r L) (alA q M)).1).2 [] (zpF (alA r L) (alA q M)).2) (ad ((r : Int), (q : Int)) (zpF (alA r L) (alA q M)).1).2 w')) := by
  obtain ⟨i0, hi36, hz0, hz1, hz2⟩ := info_parts Try.info36
  obtain ⟨j0, hj88, jz0, jz1, jz2⟩ := info_parts Try.info88
  have HA1 := hid (rall_any B1 P1 L r w h1 (by omega) hL)
  have HA2 := hid (show ∀ W, Below w.heap.size w W → Calls Try.prog 44 #[.pointer (some ⟨P2, 0, none⟩)] W fun e w' => ∃ v', e = .returned v' ∧ w'.ownsRow W.heap.size 36 3 v' (alA q M).length (rks (alA q M)) ∧ Below W.heap.size W w' from fun W hW => rall_any B2 P2 M q W (h2.below hW) (by omega) hM)
  have HPC := hid (show ∀ W, Below w.heap.size w W → W.cell? ⟨P1, 1, none⟩ = some (.int .i64 (r : Int)) ∧ W.cell? ⟨P2, 1, none⟩ = some (.int .i64 (q : Int)) from fun W hW => by
    obtain ⟨_, _, _, x1, _⟩ := (h1.below hW).row
    obtain ⟨_, _, _, x2, _⟩ := (h2.below hW).row
    exact ⟨x1, x2⟩)
  have HCA := hid (alA_con r hr L hL)
  have HCD := hid (alA_con q hq M hM)
  have la := alA_len r L
  have ld := alA_len q M
  obtain ⟨A, hA⟩ : ∃ A, A = alA r L := ⟨_, rfl⟩
  obtain ⟨D, hD⟩ : ∃ D, D = alA q M := ⟨_, rfl⟩
  rw [← hA, ← hD]
  rw [← hA] at HA1 HCA la
  rw [← hD] at HA2 HCD ld
  obtain ⟨nA, hnA⟩ : ∃ nA, nA = A.length := ⟨_, rfl⟩
  obtain ⟨nD, hnD⟩ : ∃ nD, nD = D.length := ⟨_, rfl⟩
  rw [← hnA] at HA1 la
  rw [← hnD] at HA2 ld
  have HNA := hid hnA
  have HND := hid hnD
  have la' : nA ≤ 300000 := by omega
  have ld' : nD ≤ 300000 := by omega
  clear h1 h2 hL hM hl hm hA hD hnA hnD la ld
  go_enter Try.func24, Try.ntmps24
  go_wp2_with fail
  refine HA1.out.mono ?_
  rintro e w1 ⟨v1, rfl, o1, b1⟩
  obtain ⟨xo, xc, rfl⟩ := own_form o1
  have HB1 := hid b1
  have HX1 := hid (rd_own o1)
  have hs1 := b1.size
  clear o1 b1 HA1
  go_wp2_with fail
  refine (HA2.out w1 HB1.out).mono ?_
  rintro e w2 ⟨v2, rfl, o2, b2⟩
  obtain ⟨yo, yc, rfl⟩ := own_form o2
  have HB2 := hid (HB1.out.trans (b2.mono hs1))
  have hs2 := HB2.out.size
  obtain ⟨N, hNE⟩ : ∃ N, N = w2.heap.size := ⟨_, rfl⟩
  have hwN : w.heap.size ≤ N := by omega
  have HNE := hid hNE
  have HX := hid (show ∀ W, Below N w2 W → RdK W xo (A.map rkT) from fun W hW => (HX1.out.below b2).below (by rw [← hNE]; exact hW))
  have HY := hid (show ∀ W, Below N w2 W → RdK W yo (D.map rkT) from fun W hW => (rd_own o2).below (by rw [← hNE]; exact hW))
  have HPD := hid (show ∀ W, Below N w2 W → W.cell? ⟨P1, 1, none⟩ = some (.int .i64 (r : Int)) ∧ W.cell? ⟨P2, 1, none⟩ = some (.int .i64 (q : Int)) from fun W hW => HPC.out W (HB2.out.trans (hW.mono hwN)))
  have HB22 := hid (show Below N w2 w2 by rw [hNE]; exact Below.refl _ _)
  have HBO := hid (show ∀ W, Below N w2 W → Below w.heap.size w W from fun W hW => HB2.out.trans (hW.mono hwN))
  clear o2 b2 HA2 hNE HX1 HB1 hs1 hs2 HPC
  go_wp2
  go_loopw [9, 10, 11, 12, 13] (fun t l i k lo wr => ∃ (T : List Pr) (Lc : List Tr) (ti li : Option Addr) (nT nL tc lc ii kk ll : Nat), t = .slice ti nT tc ∧ l = .slice li nL lc ∧ i = .int .i64 (ii : Int) ∧ k = .int .i64 (kk : Int) ∧ lo = .int .i32 (ll : Int) ∧ Hid (nT = T.length) ∧ Hid (nL = Lc.length) ∧ Hid (Iv A D T Lc (A.drop ii) (D.drop kk) ll) ∧ Hid (wr.ownsRow N 88 2 (.slice ti nT tc) nT (pks T)) ∧ Hid (wr.ownsRow N 36 3 (.slice li nL lc) nL (rks Lc)) ∧ Hid (Below N w2 wr)) (fun _ _ _ _ lo _ => 1114112 - (intOf lo).toNat)
  case atStart => exact ⟨[], [], none, none, 0, 0, 0, 0, 0, 0, 0, rfl, rfl, rfl, rfl, rfl, rfl, rfl, (by have h5 := iv_start A D HCA.out HCD.out; exact h5), World.ownsRow_nil w2 N 88 2, World.ownsRow_nil w2 N 36 3, HB22⟩
  case round =>
    obtain ⟨T, Lc, ti, li, nT, nL, tc, lc, ii, kk, ll, rfl, rfl, rfl, rfl, rfl, HNT, HNL, HI, HOT, HOL, HB⟩ := hrel
    have hsN : N ≤ wr.heap.size := by have h5 := HNE.out; have h6 := HB.out.size; omega
    obtain ⟨il1, il2, il3⟩ := iv_len HI.out
    have bT : nT ≤ 600000 := by have h5 := HNT.out; have h6 := HNA.out; have h7 := HND.out; omega
    have bL : nL ≤ 600000 := by have h5 := HNL.out; have h6 := HNA.out; have h7 := HND.out; omega
    clear il1 il2
    by_cases hlt : ll ≤ 1114111
    · obtain ⟨x, X', y, Y', eX, eY, m1, m2, m3, m4, x3, y3, x4, y4, HIN⟩ := iv_step A D T Lc _ _ ll HI.out hlt
      obtain ⟨ix, gx, rfl⟩ := drop_step eX
      obtain ⟨iy, gy, rfl⟩ := drop_step eY
      obtain ⟨a, rfl, ha, a0, a1, a2⟩ := HX.out wr HB.out ii (rkT x) (by rw [List.getElem?_map, gx]; rfl)
      obtain ⟨b, rfl, hb, b0, b1, b2⟩ := HY.out wr HB.out kk (rkT y) (by rw [List.getElem?_map, gy]; rfl)
      have HXC := hid (show ∀ W, Below N w2 W → W.cell? ⟨(a.add (ii * 3)).block, (a.add (ii * 3)).off + 1, none⟩ = some (.int .i32 (x.2.1 : Int)) ∧ W.cell? ⟨(a.add (ii * 3)).block, (a.add (ii * 3)).off + 2, none⟩ = some (.int .i64 (x.2.2 : Int)) from fun W hW => by
        obtain ⟨a', ea, _, _, q1, q2⟩ := HX.out W hW ii (rkT x) (by rw [List.getElem?_map, gx]; rfl)
        cases ea
        exact ⟨q1, q2⟩)
      have HYC := hid (show ∀ W, Below N w2 W → W.cell? ⟨(b.add (kk * 3)).block, (b.add (kk * 3)).off + 1, none⟩ = some (.int .i32 (y.2.1 : Int)) ∧ W.cell? ⟨(b.add (kk * 3)).block, (b.add (kk * 3)).off + 2, none⟩ = some (.int .i64 (y.2.2 : Int)) from fun W hW => by
        obtain ⟨a', ea, _, _, q1, q2⟩ := HY.out W hW kk (rkT y) (by rw [List.getElem?_map, gy]; rfl)
        cases ea
        exact ⟨q1, q2⟩)
      have i1 : (ii : Int) < (nA : Int) := by have h5 := HNA.out; omega
      have i2 : (0 : Int) ≤ (ii : Int) := by omega
      have k1 : (kk : Int) < (nD : Int) := by have h5 := HND.out; omega
      have k2 : (0 : Int) ≤ (kk : Int) := by omega
      have t0 : (ll : Int) ≤ 1114111 := by omega
      rw [← eX, ← eY] at HIN
      obtain ⟨x0, xh, xc'⟩ := x
      obtain ⟨y0, yh, yc'⟩ := y
      unfold rkT at a0 a1 a2 b0 b1 b2
      dsimp only at a0 a1 a2 b0 b1 b2 HXC HYC m1 m2 m3 m4 x3 y3 x4 y4 HIN
      clear a0 b0 gx gy eX eY
      rcases Nat.lt_trichotomy xh yh with hc | hc | hc
      · by_cases hp : ((xc' : Int), (yc' : Int)) ∈ T
        · rw [show min xh yh = xh by omega, if_pos rfl, if_neg (show ¬ yh = xh by omega)] at HIN
          have c1 : ¬ (yh : Int) < (xh : Int) := by omega
          have c3 : ((yh : Int) == (xh : Int)) = false := by simp; omega
          have h7 : xh ≤ 1114111 := by omega
          have h8 : ll ≤ xh := by omega
          obtain ⟨m, e1, e2⟩ := fnd_mem _ _ hp
          have hmT : m ≤ 600000 := by have h5 := (fnd_lt _ _ hp).2; have h6 := HNT.out; omega
          rw [e2] at HIN
          have m0 : ¬ (m : Int) < 0 := by omega
          have HF := hid (show ∀ W, Below wr.heap.size wr W → Calls Try.prog 54 #[.slice ti nT tc, .agg #[.int .i64 (xc' : Int), .int .i64 (yc' : Int)]] W fun e w' => e = .returned (.int .i64 (m : Int)) ∧ Below W.heap.size W w' from fun W hW => by
            have h5 := find_any ti tc T ((xc' : Int), (yc' : Int)) W ((rd_ownP HOT.out).below hW) (by have h6 := HNT.out; omega)
            rw [e1, ← HNT.out] at h5
            exact h5)
          have HIV := hid HIN
          have HSK := hid (show ∀ V, Below N w2 V → (V.cell? ⟨(a.add (ii * 3)).block, (a.add (ii * 3)).off + 2, none⟩ = some (.int .i64 (xc' : Int)) ∧ V.cell? ⟨(b.add (kk * 3)).block, (b.add (kk * 3)).off + 2, none⟩ = some (.int .i64 (yc' : Int))) from fun V hV => ⟨(HXC.out V hV).2, (HYC.out V hV).2⟩)
          have HBD := hid (HB.out.trans (show Below N wr wr.drew from ⟨rfl, rfl, rfl, Nat.le_refl _, fun _ _ => rfl⟩))
          have HWD := hid (show Below wr.heap.size wr wr.drew from ⟨rfl, rfl, rfl, Nat.le_refl _, fun _ _ => rfl⟩)
          clear HIN hp e1 e2 m1 m2 m3 m4 HI
          go_wp2_with fail
          refine wp_region_mix [(0, true), (1, true), (2, true), (3, true), (4, true), (5, true), (6, true), (7, true), (8, true), (9, true), (10, true), (11, false), (12, false)] (fun w' => w'.cell? ⟨(a.add (ii * 3)).block, (a.add (ii * 3)).off + 2, none⟩ = some (.int .i64 (xc' : Int)) ∧ w'.cell? ⟨(b.add (kk * 3)).block, (b.add (kk * 3)).off + 2, none⟩ = some (.int .i64 (yc' : Int))) (fun _ => false) (by kernel_rfl) (by kernel_rfl) (fun j hj => by cases hj) rfl (by kernel_rfl) (HSK.out _ HBD.out) ?_
          iterate 6 (refine mix_free ?_ rfl (by kernel_rfl) (fun w' hS => ?_) ?_; (rotate_left; (obtain ⟨s1, s2⟩ := hS; go_simp; with_reducible rfl); rotate_left))
          simp only [Act.put, List.setIfInBounds_toArray]
          iterate 5 (refine mix_free ?_ rfl (by kernel_rfl) (fun w' hS => ?_) ?_; (rotate_left; (obtain ⟨s1, s2⟩ := hS; go_simp; with_reducible rfl); rotate_left))
          simp only [Act.put]
          refine mix_go rfl (by kernel_rfl) fun KK hKK => ?_
          go_simp
          have HBA := hid ((HB.out.alloc hsN (.cells #[.int .i64 0, .int .i64 0] 88)).trans (show Below N (wr.alloc (.cells #[.int .i64 0, .int .i64 0] 88)) (wr.alloc (.cells #[.int .i64 0, .int .i64 0] 88)).drew from ⟨rfl, rfl, rfl, Nat.le_refl _, fun _ _ => rfl⟩))
          refine hKK _ _ (fun _ => HSK.out _ HBA.out) ?_
          clear hKK KK
          refine mix_go rfl (by kernel_rfl) fun KK hKK => ?_
          go_simp
          have HBW := hid ((HB.out.alloc hsN (.cells #[.int .i64 (xc' : Int), .int .i64 (yc' : Int)] 88)).trans (show Below N (wr.alloc (.cells #[.int .i64 (xc' : Int), .int .i64 (yc' : Int)] 88)) (wr.alloc (.cells #[.int .i64 (xc' : Int), .int .i64 (yc' : Int)] 88)).drew from ⟨rfl, rfl, rfl, Nat.le_refl _, fun _ _ => rfl⟩))
          have HWW := hid (((Below.refl wr.heap.size wr).alloc (Nat.le_refl _) (.cells #[.int .i64 (xc' : Int), .int .i64 (yc' : Int)] 88)).trans (show Below wr.heap.size (wr.alloc (.cells #[.int .i64 (xc' : Int), .int .i64 (yc' : Int)] 88)) (wr.alloc (.cells #[.int .i64 (xc' : Int), .int .i64 (yc' : Int)] 88)).drew from ⟨rfl, rfl, rfl, Nat.le_refl _, fun _ _ => rfl⟩))
          refine hKK _ _ (fun _ => HSK.out _ HBW.out) ?_
          clear hKK KK
          refine mix_end (NoPanic.normal ?_)
          have HAN := hid (show (wr.alloc (.cells #[.int .i64 (xc' : Int), .int .i64 (yc' : Int)] 88)).drew.heap[wr.heap.size]? = some (.cells [.int .i64 (xc' : Int), .int .i64 (yc' : Int)].toArray 88 (0, 0)) from heap_alloc_new wr (.cells #[.int .i64 (xc' : Int), .int .i64 (yc' : Int)] 88))
          have hWs : (wr.alloc (.cells #[.int .i64 (xc' : Int), .int .i64 (yc' : Int)] 88)).drew.heap.size = wr.heap.size + 1 := by simp
          obtain ⟨W, hW⟩ : ∃ W, W = (wr.alloc (.cells #[.int .i64 (xc' : Int), .int .i64 (yc' : Int)] 88)).drew := ⟨_, rfl⟩
          rw [← hW] at HBW HWW HAN hWs ⊢
          have z0 := cell_row W wr.heap.size 0 _ 88 _ HAN.out rfl
          have z1 := cell_row W wr.heap.size 1 _ 88 _ HAN.out rfl
          have HTW := hid (own_keep HOT.out HWW.out)
          have HLW := hid (own_keep HOL.out HWW.out)
          have HWS := hid hWs
          clear hW HBA HBD HWD hWs a1 a2 b1 b2
          go_wp2_with fail
          refine (HF.out W HWW.out).mono ?_
          rintro e w3 ⟨rfl, b3⟩
          have hNW : N ≤ W.heap.size := by have h5 := HWS.out; omega
          have HB3 := hid (HBW.out.trans (b3.mono hNW))
          have hN3 : N ≤ w3.heap.size := by have h5 := b3.size; omega
          have HT3 := hid (own_keep HTW.out b3)
          have HL3 := hid (own_keep HLW.out b3)
          have y0 : w3.cell? ⟨wr.heap.size, 0, none⟩ = some (.int .i64 (xc' : Int)) := (b3.cell (p := ⟨wr.heap.size, 0, none⟩) (by show wr.heap.size < _; have h5 := HWS.out; omega)).trans z0
          have y1 : w3.cell? ⟨wr.heap.size, 1, none⟩ = some (.int .i64 (yc' : Int)) := (b3.cell (p := ⟨wr.heap.size, 1, none⟩) (by show wr.heap.size < _; have h5 := HWS.out; omega)).trans z1
          clear b3 z0 z1 HTW HLW HAN HF HWW HBW
          go_wp2_with (first | (at_builtin; refine wpList_append_lies _ rfl _ _ 25 rfl N 36 i0 (.agg #[.int .i32 0, .int .i32 0, .int .i64 0]) 3 16 Try.underlying25 hi36 hz0 hz1 hz2 rfl (by decide) _ nL (rks Lc) rfl (HL3.out.alloc _) ⟨w3.heap.size, 0, none⟩ 1 1 (rkc ((ll : Int), (xh : Int), (m : Int))) rfl rfl (news_k w3 ((ll : Int), (xh : Int), (m : Int)) 36) (rkc_one _) (by decide) (by unfold maxLen; omega) (by omega) (by simp; omega) (w3.heap.size + 1) (by simp) ?_; intro q5 c5 w5 o5 gr5 hl5 hlt5; have HB5 := hid ((HB3.out.alloc hN3 (.cells #[.int .i32 (ll : Int), .int .i32 (xh : Int), .int .i64 (m : Int)] 36)).grown gr5 (by simp; omega) (fun k hk => (HL3.out.lt k hk).1)); have HT5 := hid (World.ownsRow.kept (HT3.out.alloc (.cells #[.int .i32 (ll : Int), .int .i32 (xh : Int), .int .i64 (m : Int)] 36)) gr5 (own_ne HT3.out HL3.out (by decide))); have HL5 := hid (show w5.ownsRow N 36 3 (.slice (some ⟨q5, 0, none⟩) (nL + 1) c5) (nL + 1) (rks (Lc ++ [(ll, xh, m)])) by rw [rks_snoc]; exact o5); obtain ⟨p1, _⟩ := HXC.out w5 HB5.out; obtain ⟨p3, _⟩ := HYC.out w5 HB5.out; clear o5 gr5 hl5 hlt5) | fail)
          go_roundw
          case rel => exact ⟨T, Lc ++ [(ll, xh, m)], ti, some ⟨q5, 0, none⟩, nT, nL + 1, tc, c5, ii + 1, kk, xh + 1, rfl, rfl, by go_num, by go_num, by go_num, HNT, (by have h5 := HNL.out; show nL + 1 = _; simp; omega), HIV, HT5, HL5, HB5⟩
          case measure => simp [intOf]; omega
        · rw [show min xh yh = xh by omega, if_pos rfl, if_neg (show ¬ yh = xh by omega)] at HIN
          have c1 : ¬ (yh : Int) < (xh : Int) := by omega
          have c3 : ((yh : Int) == (xh : Int)) = false := by simp; omega
          have h7 : xh ≤ 1114111 := by omega
          have h8 : ll ≤ xh := by omega
          obtain ⟨e1, e2⟩ := fnd_not _ _ hp
          rw [e2] at HIN
          dsimp only at HIN
          rw [← HNT.out] at HIN
          have HF := hid (show ∀ W, Below wr.heap.size wr W → Calls Try.prog 54 #[.slice ti nT tc, .agg #[.int .i64 (xc' : Int), .int .i64 (yc' : Int)]] W fun e w' => e = .returned (.int .i64 (-1)) ∧ Below W.heap.size W w' from fun W hW => by
            have h5 := find_any ti tc T ((xc' : Int), (yc' : Int)) W ((rd_ownP HOT.out).below hW) (by have h6 := HNT.out; omega)
            rw [e1, ← HNT.out] at h5
            exact h5)
          have HIV := hid HIN
          have HSK := hid (show ∀ V, Below N w2 V → (V.cell? ⟨(a.add (ii * 3)).block, (a.add (ii * 3)).off + 2, none⟩ = some (.int .i64 (xc' : Int)) ∧ V.cell? ⟨(b.add (kk * 3)).block, (b.add (kk * 3)).off + 2, none⟩ = some (.int .i64 (yc' : Int))) from fun V hV => ⟨(HXC.out V hV).2, (HYC.out V hV).2⟩)
          have HBD := hid (HB.out.trans (show Below N wr wr.drew from ⟨rfl, rfl, rfl, Nat.le_refl _, fun _ _ => rfl⟩))
          have HWD := hid (show Below wr.heap.size wr wr.drew from ⟨rfl, rfl, rfl, Nat.le_refl _, fun _ _ => rfl⟩)
          clear HIN hp e1 e2 m1 m2 m3 m4 HI
          go_wp2_with fail
          refine wp_region_mix [(0, true), (1, true), (2, true), (3, true), (4, true), (5, true), (6, true), (7, true), (8, true), (9, true), (10, true), (11, false), (12, false)] (fun w' => w'.cell? ⟨(a.add (ii * 3)).block, (a.add (ii * 3)).off + 2, none⟩ = some (.int .i64 (xc' : Int)) ∧ w'.cell? ⟨(b.add (kk * 3)).block, (b.add (kk * 3)).off + 2, none⟩ = some (.int .i64 (yc' : Int))) (fun _ => false) (by kernel_rfl) (by kernel_rfl) (fun j hj => by cases hj) rfl (by kernel_rfl) (HSK.out _ HBD.out) ?_
          iterate 6 (refine mix_free ?_ rfl (by kernel_rfl) (fun w' hS => ?_) ?_; (rotate_left; (obtain ⟨s1, s2⟩ := hS; go_simp; with_reducible rfl); rotate_left))
          simp only [Act.put, List.setIfInBounds_toArray]
          iterate 5 (refine mix_free ?_ rfl (by kernel_rfl) (fun w' hS => ?_) ?_; (rotate_left; (obtain ⟨s1, s2⟩ := hS; go_simp; with_reducible rfl); rotate_left))
          simp only [Act.put]
          refine mix_go rfl (by kernel_rfl) fun KK hKK => ?_
          go_simp
          have HBA := hid ((HB.out.alloc hsN (.cells #[.int .i64 0, .int .i64 0] 88)).trans (show Below N (wr.alloc (.cells #[.int .i64 0, .int .i64 0] 88)) (wr.alloc (.cells #[.int .i64 0, .int .i64 0] 88)).drew from ⟨rfl, rfl, rfl, Nat.le_refl _, fun _ _ => rfl⟩))
          refine hKK _ _ (fun _ => HSK.out _ HBA.out) ?_
          clear hKK KK
          refine mix_go rfl (by kernel_rfl) fun KK hKK => ?_
          go_simp
          have HBW := hid ((HB.out.alloc hsN (.cells #[.int .i64 (xc' : Int), .int .i64 (yc' : Int)] 88)).trans (show Below N (wr.alloc (.cells #[.int .i64 (xc' : Int), .int .i64 (yc' : Int)] 88)) (wr.alloc (.cells #[.int .i64 (xc' : Int), .int .i64 (yc' : Int)] 88)).drew from ⟨rfl, rfl, rfl, Nat.le_refl _, fun _ _ => rfl⟩))
          have HWW := hid (((Below.refl wr.heap.size wr).alloc (Nat.le_refl _) (.cells #[.int .i64 (xc' : Int), .int .i64 (yc' : Int)] 88)).trans (show Below wr.heap.size (wr.alloc (.cells #[.int .i64 (xc' : Int), .int .i64 (yc' : Int)] 88)) (wr.alloc (.cells #[.int .i64 (xc' : Int), .int .i64 (yc' : Int)] 88)).drew from ⟨rfl, rfl, rfl, Nat.le_refl _, fun _ _ => rfl⟩))
          refine hKK _ _ (fun _ => HSK.out _ HBW.out) ?_
          clear hKK KK
          refine mix_end (NoPanic.normal ?_)
          have HAN := hid (show (wr.alloc (.cells #[.int .i64 (xc' : Int), .int .i64 (yc' : Int)] 88)).drew.heap[wr.heap.size]? = some (.cells [.int .i64 (xc' : Int), .int .i64 (yc' : Int)].toArray 88 (0, 0)) from heap_alloc_new wr (.cells #[.int .i64 (xc' : Int), .int .i64 (yc' : Int)] 88))
          have hWs : (wr.alloc (.cells #[.int .i64 (xc' : Int), .int .i64 (yc' : Int)] 88)).drew.heap.size = wr.heap.size + 1 := by simp
          obtain ⟨W, hW⟩ : ∃ W, W = (wr.alloc (.cells #[.int .i64 (xc' : Int), .int .i64 (yc' : Int)] 88)).drew := ⟨_, rfl⟩
          rw [← hW] at HBW HWW HAN hWs ⊢
          have z0 := cell_row W wr.heap.size 0 _ 88 _ HAN.out rfl
          have z1 := cell_row W wr.heap.size 1 _ 88 _ HAN.out rfl
          have HTW := hid (own_keep HOT.out HWW.out)
          have HLW := hid (own_keep HOL.out HWW.out)
          have HWS := hid hWs
          clear hW HBA HBD HWD hWs a1 a2 b1 b2
          go_wp2_with fail
          refine (HF.out W HWW.out).mono ?_
          rintro e w3 ⟨rfl, b3⟩
          have hNW : N ≤ W.heap.size := by have h5 := HWS.out; omega
          have HB3 := hid (HBW.out.trans (b3.mono hNW))
          have hN3 : N ≤ w3.heap.size := by have h5 := b3.size; omega
          have HT3 := hid (own_keep HTW.out b3)
          have HL3 := hid (own_keep HLW.out b3)
          have y0 : w3.cell? ⟨wr.heap.size, 0, none⟩ = some (.int .i64 (xc' : Int)) := (b3.cell (p := ⟨wr.heap.size, 0, none⟩) (by show wr.heap.size < _; have h5 := HWS.out; omega)).trans z0
          have y1 : w3.cell? ⟨wr.heap.size, 1, none⟩ = some (.int .i64 (yc' : Int)) := (b3.cell (p := ⟨wr.heap.size, 1, none⟩) (by show wr.heap.size < _; have h5 := HWS.out; omega)).trans z1
          clear b3 z0 z1 HTW HLW HAN HF HWW HBW
          go_wp2_with (first | (at_builtin; refine wpList_append_lies _ rfl _ _ 49 rfl N 88 j0 (.agg #[.int .i64 0, .int .i64 0]) 2 16 Try.underlying49 hj88 jz0 jz1 jz2 rfl (by decide) _ nT (pks T) rfl (HT3.out.alloc _) ⟨w3.heap.size, 0, none⟩ 1 1 (pkc ((xc' : Int), (yc' : Int))) rfl rfl (news_p w3 ((xc' : Int), (yc' : Int)) 88) (pkc_one _) (by decide) (by unfold maxLen; omega) (by omega) (by simp; omega) (w3.heap.size + 1) (by simp) ?_; intro q4 c4 w4 o4 gr4 hl4 hlt4; have HB4 := hid ((HB3.out.alloc hN3 (.cells #[.int .i64 (xc' : Int), .int .i64 (yc' : Int)] 88)).grown gr4 (by simp; omega) (fun k hk => (HT3.out.lt k hk).1)); have hN4 : N ≤ w4.heap.size := (by have h5 := HB4.out.size; have h6 := HNE.out; omega); have HL4 := hid (World.ownsRow.kept (HL3.out.alloc (.cells #[.int .i64 (xc' : Int), .int .i64 (yc' : Int)] 88)) gr4 (own_ne HL3.out HT3.out (by decide))); have HT4 := hid (show w4.ownsRow N 88 2 (.slice (some ⟨q4, 0, none⟩) (nT + 1) c4) (nT + 1) (pks (T ++ [((xc' : Int), (yc' : Int))])) by rw [pks_snoc]; exact o4); clear o4 gr4 hl4 hlt4 y0 y1) | (at_builtin; refine wpList_append_lies _ rfl _ _ 25 rfl N 36 i0 (.agg #[.int .i32 0, .int .i32 0, .int .i64 0]) 3 16 Try.underlying25 hi36 hz0 hz1 hz2 rfl (by decide) _ nL (rks Lc) rfl (HL4.out.alloc _) ⟨w4.heap.size, 0, none⟩ 1 1 (rkc ((ll : Int), (xh : Int), (nT : Int))) rfl rfl (news_k w4 ((ll : Int), (xh : Int), (nT : Int)) 36) (rkc_one _) (by decide) (by unfold maxLen; omega) (by omega) (by simp; omega) (w4.heap.size + 1) (by simp) ?_; intro q5 c5 w5 o5 gr5 hl5 hlt5; have HB5 := hid ((HB4.out.alloc hN4 (.cells #[.int .i32 (ll : Int), .int .i32 (xh : Int), .int .i64 (nT : Int)] 36)).grown gr5 (by simp; omega) (fun k hk => (HL4.out.lt k hk).1)); have HT5 := hid (World.ownsRow.kept (HT4.out.alloc (.cells #[.int .i32 (ll : Int), .int .i32 (xh : Int), .int .i64 (nT : Int)] 36)) gr5 (own_ne HT4.out HL4.out (by decide))); have HL5 := hid (show w5.ownsRow N 36 3 (.slice (some ⟨q5, 0, none⟩) (nL + 1) c5) (nL + 1) (rks (Lc ++ [(ll, xh, nT)])) by rw [rks_snoc]; exact o5); obtain ⟨p1, _⟩ := HXC.out w5 HB5.out; obtain ⟨p3, _⟩ := HYC.out w5 HB5.out; clear o5 gr5 hl5 hlt5) | fail)
          go_roundw
          case rel => exact ⟨T ++ [((xc' : Int), (yc' : Int))], Lc ++ [(ll, xh, nT)], some ⟨q4, 0, none⟩, some ⟨q5, 0, none⟩, nT + 1, nL + 1, c4, c5, ii + 1, kk, xh + 1, rfl, rfl, by go_num, by go_num, by go_num, (by have h5 := HNT.out; show nT + 1 = _; simp; omega), (by have h5 := HNL.out; show nL + 1 = _; simp; omega), HIV, HT5, HL5, HB5⟩
          case measure => simp [intOf]; omega
      · by_cases hp : ((xc' : Int), (yc' : Int)) ∈ T
        · have he : yh = xh := by omega
          subst he
          rw [Nat.min_self, if_pos rfl, if_pos rfl] at HIN
          have h7 : yh ≤ 1114111 := by omega
          have h8 : ll ≤ yh := by omega
          obtain ⟨m, e1, e2⟩ := fnd_mem _ _ hp
          have hmT : m ≤ 600000 := by have h5 := (fnd_lt _ _ hp).2; have h6 := HNT.out; omega
          rw [e2] at HIN
          have m0 : ¬ (m : Int) < 0 := by omega
          have HF := hid (show ∀ W, Below wr.heap.size wr W → Calls Try.prog 54 #[.slice ti nT tc, .agg #[.int .i64 (xc' : Int), .int .i64 (yc' : Int)]] W fun e w' => e = .returned (.int .i64 (m : Int)) ∧ Below W.heap.size W w' from fun W hW => by
            have h5 := find_any ti tc T ((xc' : Int), (yc' : Int)) W ((rd_ownP HOT.out).below hW) (by have h6 := HNT.out; omega)
            rw [e1, ← HNT.out] at h5
            exact h5)
          have HIV := hid HIN
          have HSK := hid (show ∀ V, Below N w2 V → (V.cell? ⟨(a.add (ii * 3)).block, (a.add (ii * 3)).off + 2, none⟩ = some (.int .i64 (xc' : Int)) ∧ V.cell? ⟨(b.add (kk * 3)).block, (b.add (kk * 3)).off + 2, none⟩ = some (.int .i64 (yc' : Int))) from fun V hV => ⟨(HXC.out V hV).2, (HYC.out V hV).2⟩)
          have HBD := hid (HB.out.trans (show Below N wr wr.drew from ⟨rfl, rfl, rfl, Nat.le_refl _, fun _ _ => rfl⟩))
          have HWD := hid (show Below wr.heap.size wr wr.drew from ⟨rfl, rfl, rfl, Nat.le_refl _, fun _ _ => rfl⟩)
          clear HIN hp e1 e2 m1 m2 m3 m4 HI
          go_wp2_with fail
          refine wp_region_mix [(0, true), (1, true), (2, true), (3, true), (4, true), (5, true), (6, true), (7, true), (8, true), (9, true), (10, true), (11, false), (12, false)] (fun w' => w'.cell? ⟨(a.add (ii * 3)).block, (a.add (ii * 3)).off + 2, none⟩ = some (.int .i64 (xc' : Int)) ∧ w'.cell? ⟨(b.add (kk * 3)).block, (b.add (kk * 3)).off + 2, none⟩ = some (.int .i64 (yc' : Int))) (fun _ => false) (by kernel_rfl) (by kernel_rfl) (fun j hj => by cases hj) rfl (by kernel_rfl) (HSK.out _ HBD.out) ?_
          iterate 6 (refine mix_free ?_ rfl (by kernel_rfl) (fun w' hS => ?_) ?_; (rotate_left; (obtain ⟨s1, s2⟩ := hS; go_simp; with_reducible rfl); rotate_left))
          simp only [Act.put, List.setIfInBounds_toArray]
          iterate 5 (refine mix_free ?_ rfl (by kernel_rfl) (fun w' hS => ?_) ?_; (rotate_left; (obtain ⟨s1, s2⟩ := hS; go_simp; with_reducible rfl); rotate_left))
          simp only [Act.put]
          refine mix_go rfl (by kernel_rfl) fun KK hKK => ?_
          go_simp
          have HBA := hid ((HB.out.alloc hsN (.cells #[.int .i64 0, .int .i64 0] 88)).trans (show Below N (wr.alloc (.cells #[.int .i64 0, .int .i64 0] 88)) (wr.alloc (.cells #[.int .i64 0, .int .i64 0] 88)).drew from ⟨rfl, rfl, rfl, Nat.le_refl _, fun _ _ => rfl⟩))
          refine hKK _ _ (fun _ => HSK.out _ HBA.out) ?_
          clear hKK KK
          refine mix_go rfl (by kernel_rfl) fun KK hKK => ?_
          go_simp
          have HBW := hid ((HB.out.alloc hsN (.cells #[.int .i64 (xc' : Int), .int .i64 (yc' : Int)] 88)).trans (show Below N (wr.alloc (.cells #[.int .i64 (xc' : Int), .int .i64 (yc' : Int)] 88)) (wr.alloc (.cells #[.int .i64 (xc' : Int), .int .i64 (yc' : Int)] 88)).drew from ⟨rfl, rfl, rfl, Nat.le_refl _, fun _ _ => rfl⟩))
          have HWW := hid (((Below.refl wr.heap.size wr).alloc (Nat.le_refl _) (.cells #[.int .i64 (xc' : Int), .int .i64 (yc' : Int)] 88)).trans (show Below wr.heap.size (wr.alloc (.cells #[.int .i64 (xc' : Int), .int .i64 (yc' : Int)] 88)) (wr.alloc (.cells #[.int .i64 (xc' : Int), .int .i64 (yc' : Int)] 88)).drew from ⟨rfl, rfl, rfl, Nat.le_refl _, fun _ _ => rfl⟩))
          refine hKK _ _ (fun _ => HSK.out _ HBW.out) ?_
          clear hKK KK
          refine mix_end (NoPanic.normal ?_)
          have HAN := hid (show (wr.alloc (.cells #[.int .i64 (xc' : Int), .int .i64 (yc' : Int)] 88)).drew.heap[wr.heap.size]? = some (.cells [.int .i64 (xc' : Int), .int .i64 (yc' : Int)].toArray 88 (0, 0)) from heap_alloc_new wr (.cells #[.int .i64 (xc' : Int), .int .i64 (yc' : Int)] 88))
          have hWs : (wr.alloc (.cells #[.int .i64 (xc' : Int), .int .i64 (yc' : Int)] 88)).drew.heap.size = wr.heap.size + 1 := by simp
          obtain ⟨W, hW⟩ : ∃ W, W = (wr.alloc (.cells #[.int .i64 (xc' : Int), .int .i64 (yc' : Int)] 88)).drew := ⟨_, rfl⟩
          rw [← hW] at HBW HWW HAN hWs ⊢
          have z0 := cell_row W wr.heap.size 0 _ 88 _ HAN.out rfl
          have z1 := cell_row W wr.heap.size 1 _ 88 _ HAN.out rfl
          have HTW := hid (own_keep HOT.out HWW.out)
          have HLW := hid (own_keep HOL.out HWW.out)
          have HWS := hid hWs
          clear hW HBA HBD HWD hWs a1 a2 b1 b2
          go_wp2_with fail
          refine (HF.out W HWW.out).mono ?_
          rintro e w3 ⟨rfl, b3⟩
          have hNW : N ≤ W.heap.size := by have h5 := HWS.out; omega
          have HB3 := hid (HBW.out.trans (b3.mono hNW))
          have hN3 : N ≤ w3.heap.size := by have h5 := b3.size; omega
          have HT3 := hid (own_keep HTW.out b3)
          have HL3 := hid (own_keep HLW.out b3)
          have y0 : w3.cell? ⟨wr.heap.size, 0, none⟩ = some (.int .i64 (xc' : Int)) := (b3.cell (p := ⟨wr.heap.size, 0, none⟩) (by show wr.heap.size < _; have h5 := HWS.out; omega)).trans z0
          have y1 : w3.cell? ⟨wr.heap.size, 1, none⟩ = some (.int .i64 (yc' : Int)) := (b3.cell (p := ⟨wr.heap.size, 1, none⟩) (by show wr.heap.size < _; have h5 := HWS.out; omega)).trans z1
          clear b3 z0 z1 HTW HLW HAN HF HWW HBW
          go_wp2_with (first | (at_builtin; refine wpList_append_lies _ rfl _ _ 25 rfl N 36 i0 (.agg #[.int .i32 0, .int .i32 0, .int .i64 0]) 3 16 Try.underlying25 hi36 hz0 hz1 hz2 rfl (by decide) _ nL (rks Lc) rfl (HL3.out.alloc _) ⟨w3.heap.size, 0, none⟩ 1 1 (rkc ((ll : Int), (yh : Int), (m : Int))) rfl rfl (news_k w3 ((ll : Int), (yh : Int), (m : Int)) 36) (rkc_one _) (by decide) (by unfold maxLen; omega) (by omega) (by simp; omega) (w3.heap.size + 1) (by simp) ?_; intro q5 c5 w5 o5 gr5 hl5 hlt5; have HB5 := hid ((HB3.out.alloc hN3 (.cells #[.int .i32 (ll : Int), .int .i32 (yh : Int), .int .i64 (m : Int)] 36)).grown gr5 (by simp; omega) (fun k hk => (HL3.out.lt k hk).1)); have HT5 := hid (World.ownsRow.kept (HT3.out.alloc (.cells #[.int .i32 (ll : Int), .int .i32 (yh : Int), .int .i64 (m : Int)] 36)) gr5 (own_ne HT3.out HL3.out (by decide))); have HL5 := hid (show w5.ownsRow N 36 3 (.slice (some ⟨q5, 0, none⟩) (nL + 1) c5) (nL + 1) (rks (Lc ++ [(ll, yh, m)])) by rw [rks_snoc]; exact o5); obtain ⟨p1, _⟩ := HXC.out w5 HB5.out; obtain ⟨p3, _⟩ := HYC.out w5 HB5.out; clear o5 gr5 hl5 hlt5) | fail)
          go_roundw
          case rel => exact ⟨T, Lc ++ [(ll, yh, m)], ti, some ⟨q5, 0, none⟩, nT, nL + 1, tc, c5, ii + 1, kk + 1, yh + 1, rfl, rfl, by go_num, by go_num, by go_num, HNT, (by have h5 := HNL.out; show nL + 1 = _; simp; omega), HIV, HT5, HL5, HB5⟩
          case measure => simp [intOf]; omega
        · have he : yh = xh := by omega
          subst he
          rw [Nat.min_self, if_pos rfl, if_pos rfl] at HIN
          have h7 : yh ≤ 1114111 := by omega
          have h8 : ll ≤ yh := by omega
          obtain ⟨e1, e2⟩ := fnd_not _ _ hp
          rw [e2] at HIN
          dsimp only at HIN
          rw [← HNT.out] at HIN
          have HF := hid (show ∀ W, Below wr.heap.size wr W → Calls Try.prog 54 #[.slice ti nT tc, .agg #[.int .i64 (xc' : Int), .int .i64 (yc' : Int)]] W fun e w' => e = .returned (.int .i64 (-1)) ∧ Below W.heap.size W w' from fun W hW => by
            have h5 := find_any ti tc T ((xc' : Int), (yc' : Int)) W ((rd_ownP HOT.out).below hW) (by have h6 := HNT.out; omega)
            rw [e1, ← HNT.out] at h5
            exact h5)
          have HIV := hid HIN
          have HSK := hid (show ∀ V, Below N w2 V → (V.cell? ⟨(a.add (ii * 3)).block, (a.add (ii * 3)).off + 2, none⟩ = some (.int .i64 (xc' : Int)) ∧ V.cell? ⟨(b.add (kk * 3)).block, (b.add (kk * 3)).off + 2, none⟩ = some (.int .i64 (yc' : Int))) from fun V hV => ⟨(HXC.out V hV).2, (HYC.out V hV).2⟩)
          have HBD := hid (HB.out.trans (show Below N wr wr.drew from ⟨rfl, rfl, rfl, Nat.le_refl _, fun _ _ => rfl⟩))
          have HWD := hid (show Below wr.heap.size wr wr.drew from ⟨rfl, rfl, rfl, Nat.le_refl _, fun _ _ => rfl⟩)
          clear HIN hp e1 e2 m1 m2 m3 m4 HI
          go_wp2_with fail
          refine wp_region_mix [(0, true), (1, true), (2, true), (3, true), (4, true), (5, true), (6, true), (7, true), (8, true), (9, true), (10, true), (11, false), (12, false)] (fun w' => w'.cell? ⟨(a.add (ii * 3)).block, (a.add (ii * 3)).off + 2, none⟩ = some (.int .i64 (xc' : Int)) ∧ w'.cell? ⟨(b.add (kk * 3)).block, (b.add (kk * 3)).off + 2, none⟩ = some (.int .i64 (yc' : Int))) (fun _ => false) (by kernel_rfl) (by kernel_rfl) (fun j hj => by cases hj) rfl (by kernel_rfl) (HSK.out _ HBD.out) ?_
          iterate 6 (refine mix_free ?_ rfl (by kernel_rfl) (fun w' hS => ?_) ?_; (rotate_left; (obtain ⟨s1, s2⟩ := hS; go_simp; with_reducible rfl); rotate_left))
          simp only [Act.put, List.setIfInBounds_toArray]
          iterate 5 (refine mix_free ?_ rfl (by kernel_rfl) (fun w' hS => ?_) ?_; (rotate_left; (obtain ⟨s1, s2⟩ := hS; go_simp; with_reducible rfl); rotate_left))
          simp only [Act.put]
          refine mix_go rfl (by kernel_rfl) fun KK hKK => ?_
          go_simp
          have HBA := hid ((HB.out.alloc hsN (.cells #[.int .i64 0, .int .i64 0] 88)).trans (show Below N (wr.alloc (.cells #[.int .i64 0, .int .i64 0] 88)) (wr.alloc (.cells #[.int .i64 0, .int .i64 0] 88)).drew from ⟨rfl, rfl, rfl, Nat.le_refl _, fun _ _ => rfl⟩))
          refine hKK _ _ (fun _ => HSK.out _ HBA.out) ?_
          clear hKK KK
          refine mix_go rfl (by kernel_rfl) fun KK hKK => ?_
          go_simp
          have HBW := hid ((HB.out.alloc hsN (.cells #[.int .i64 (xc' : Int), .int .i64 (yc' : Int)] 88)).trans (show Below N (wr.alloc (.cells #[.int .i64 (xc' : Int), .int .i64 (yc' : Int)] 88)) (wr.alloc (.cells #[.int .i64 (xc' : Int), .int .i64 (yc' : Int)] 88)).drew from ⟨rfl, rfl, rfl, Nat.le_refl _, fun _ _ => rfl⟩))
          have HWW := hid (((Below.refl wr.heap.size wr).alloc (Nat.le_refl _) (.cells #[.int .i64 (xc' : Int), .int .i64 (yc' : Int)] 88)).trans (show Below wr.heap.size (wr.alloc (.cells #[.int .i64 (xc' : Int), .int .i64 (yc' : Int)] 88)) (wr.alloc (.cells #[.int .i64 (xc' : Int), .int .i64 (yc' : Int)] 88)).drew from ⟨rfl, rfl, rfl, Nat.le_refl _, fun _ _ => rfl⟩))
          refine hKK _ _ (fun _ => HSK.out _ HBW.out) ?_
          clear hKK KK
          refine mix_end (NoPanic.normal ?_)
          have HAN := hid (show (wr.alloc (.cells #[.int .i64 (xc' : Int), .int .i64 (yc' : Int)] 88)).drew.heap[wr.heap.size]? = some (.cells [.int .i64 (xc' : Int), .int .i64 (yc' : Int)].toArray 88 (0, 0)) from heap_alloc_new wr (.cells #[.int .i64 (xc' : Int), .int .i64 (yc' : Int)] 88))
          have hWs : (wr.alloc (.cells #[.int .i64 (xc' : Int), .int .i64 (yc' : Int)] 88)).drew.heap.size = wr.heap.size + 1 := by simp
          obtain ⟨W, hW⟩ : ∃ W, W = (wr.alloc (.cells #[.int .i64 (xc' : Int), .int .i64 (yc' : Int)] 88)).drew := ⟨_, rfl⟩
          rw [← hW] at HBW HWW HAN hWs ⊢
          have z0 := cell_row W wr.heap.size 0 _ 88 _ HAN.out rfl
          have z1 := cell_row W wr.heap.size 1 _ 88 _ HAN.out rfl
          have HTW := hid (own_keep HOT.out HWW.out)
          have HLW := hid (own_keep HOL.out HWW.out)
          have HWS := hid hWs
          clear hW HBA HBD HWD hWs a1 a2 b1 b2
          go_wp2_with fail
          refine (HF.out W HWW.out).mono ?_
          rintro e w3 ⟨rfl, b3⟩
          have hNW : N ≤ W.heap.size := by have h5 := HWS.out; omega
          have HB3 := hid (HBW.out.trans (b3.mono hNW))
          have hN3 : N ≤ w3.heap.size := by have h5 := b3.size; omega
          have HT3 := hid (own_keep HTW.out b3)
          have HL3 := hid (own_keep HLW.out b3)
          have y0 : w3.cell? ⟨wr.heap.size, 0, none⟩ = some (.int .i64 (xc' : Int)) := (b3.cell (p := ⟨wr.heap.size, 0, none⟩) (by show wr.heap.size < _; have h5 := HWS.out; omega)).trans z0
          have y1 : w3.cell? ⟨wr.heap.size, 1, none⟩ = some (.int .i64 (yc' : Int)) := (b3.cell (p := ⟨wr.heap.size, 1, none⟩) (by show wr.heap.size < _; have h5 := HWS.out; omega)).trans z1
          clear b3 z0 z1 HTW HLW HAN HF HWW HBW
          go_wp2_with (first | (at_builtin; refine wpList_append_lies _ rfl _ _ 49 rfl N 88 j0 (.agg #[.int .i64 0, .int .i64 0]) 2 16 Try.underlying49 hj88 jz0 jz1 jz2 rfl (by decide) _ nT (pks T) rfl (HT3.out.alloc _) ⟨w3.heap.size, 0, none⟩ 1 1 (pkc ((xc' : Int), (yc' : Int))) rfl rfl (news_p w3 ((xc' : Int), (yc' : Int)) 88) (pkc_one _) (by decide) (by unfold maxLen; omega) (by omega) (by simp; omega) (w3.heap.size + 1) (by simp) ?_; intro q4 c4 w4 o4 gr4 hl4 hlt4; have HB4 := hid ((HB3.out.alloc hN3 (.cells #[.int .i64 (xc' : Int), .int .i64 (yc' : Int)] 88)).grown gr4 (by simp; omega) (fun k hk => (HT3.out.lt k hk).1)); have hN4 : N ≤ w4.heap.size := (by have h5 := HB4.out.size; have h6 := HNE.out; omega); have HL4 := hid (World.ownsRow.kept (HL3.out.alloc (.cells #[.int .i64 (xc' : Int), .int .i64 (yc' : Int)] 88)) gr4 (own_ne HL3.out HT3.out (by decide))); have HT4 := hid (show w4.ownsRow N 88 2 (.slice (some ⟨q4, 0, none⟩) (nT + 1) c4) (nT + 1) (pks (T ++ [((xc' : Int), (yc' : Int))])) by rw [pks_snoc]; exact o4); clear o4 gr4 hl4 hlt4 y0 y1) | (at_builtin; refine wpList_append_lies _ rfl _ _ 25 rfl N 36 i0 (.agg #[.int .i32 0, .int .i32 0, .int .i64 0]) 3 16 Try.underlying25 hi36 hz0 hz1 hz2 rfl (by decide) _ nL (rks Lc) rfl (HL4.out.alloc _) ⟨w4.heap.size, 0, none⟩ 1 1 (rkc ((ll : Int), (yh : Int), (nT : Int))) rfl rfl (news_k w4 ((ll : Int), (yh : Int), (nT : Int)) 36) (rkc_one _) (by decide) (by unfold maxLen; omega) (by omega) (by simp; omega) (w4.heap.size + 1) (by simp) ?_; intro q5 c5 w5 o5 gr5 hl5 hlt5; have HB5 := hid ((HB4.out.alloc hN4 (.cells #[.int .i32 (ll : Int), .int .i32 (yh : Int), .int .i64 (nT : Int)] 36)).grown gr5 (by simp; omega) (fun k hk => (HL4.out.lt k hk).1)); have HT5 := hid (World.ownsRow.kept (HT4.out.alloc (.cells #[.int .i32 (ll : Int), .int .i32 (yh : Int), .int .i64 (nT : Int)] 36)) gr5 (own_ne HT4.out HL4.out (by decide))); have HL5 := hid (show w5.ownsRow N 36 3 (.slice (some ⟨q5, 0, none⟩) (nL + 1) c5) (nL + 1) (rks (Lc ++ [(ll, yh, nT)])) by rw [rks_snoc]; exact o5); obtain ⟨p1, _⟩ := HXC.out w5 HB5.out; obtain ⟨p3, _⟩ := HYC.out w5 HB5.out; clear o5 gr5 hl5 hlt5) | fail)
          go_roundw
          case rel => exact ⟨T ++ [((xc' : Int), (yc' : Int))], Lc ++ [(ll, yh, nT)], some ⟨q4, 0, none⟩, some ⟨q5, 0, none⟩, nT + 1, nL + 1, c4, c5, ii + 1, kk + 1, yh + 1, rfl, rfl, by go_num, by go_num, by go_num, (by have h5 := HNT.out; show nT + 1 = _; simp; omega), (by have h5 := HNL.out; show nL + 1 = _; simp; omega), HIV, HT5, HL5, HB5⟩
          case measure => simp [intOf]; omega
      · by_cases hp : ((xc' : Int), (yc' : Int)) ∈ T
        · rw [show min xh yh = yh by omega, if_neg (show ¬ xh = yh by omega), if_pos rfl] at HIN
          have c1 : (yh : Int) < (xh : Int) := by omega
          have c3 : ((xh : Int) == (yh : Int)) = false := by simp; omega
          have h7 : yh ≤ 1114111 := by omega
          have h8 : ll ≤ yh := by omega
          obtain ⟨m, e1, e2⟩ := fnd_mem _ _ hp
          have hmT : m ≤ 600000 := by have h5 := (fnd_lt _ _ hp).2; have h6 := HNT.out; omega
          rw [e2] at HIN
          have m0 : ¬ (m : Int) < 0 := by omega
          have HF := hid (show ∀ W, Below wr.heap.size wr W → Calls Try.prog 54 #[.slice ti nT tc, .agg #[.int .i64 (xc' : Int), .int .i64 (yc' : Int)]] W fun e w' => e = .returned (.int .i64 (m : Int)) ∧ Below W.heap.size W w' from fun W hW => by
            have h5 := find_any ti tc T ((xc' : Int), (yc' : Int)) W ((rd_ownP HOT.out).below hW) (by have h6 := HNT.out; omega)
            rw [e1, ← HNT.out] at h5
            exact h5)
          have HIV := hid HIN
          have HSK := hid (show ∀ V, Below N w2 V → (V.cell? ⟨(a.add (ii * 3)).block, (a.add (ii * 3)).off + 2, none⟩ = some (.int .i64 (xc' : Int)) ∧ V.cell? ⟨(b.add (kk * 3)).block, (b.add (kk * 3)).off + 2, none⟩ = some (.int .i64 (yc' : Int))) from fun V hV => ⟨(HXC.out V hV).2, (HYC.out V hV).2⟩)
          have HBD := hid (HB.out.trans (show Below N wr wr.drew from ⟨rfl, rfl, rfl, Nat.le_refl _, fun _ _ => rfl⟩))
          have HWD := hid (show Below wr.heap.size wr wr.drew from ⟨rfl, rfl, rfl, Nat.le_refl _, fun _ _ => rfl⟩)
          clear HIN hp e1 e2 m1 m2 m3 m4 HI
          go_wp2_with fail
          refine wp_region_mix [(0, true), (1, true), (2, true), (3, true), (4, true), (5, true), (6, true), (7, true), (8, true), (9, true), (10, true), (11, false), (12, false)] (fun w' => w'.cell? ⟨(a.add (ii * 3)).block, (a.add (ii * 3)).off + 2, none⟩ = some (.int .i64 (xc' : Int)) ∧ w'.cell? ⟨(b.add (kk * 3)).block, (b.add (kk * 3)).off + 2, none⟩ = some (.int .i64 (yc' : Int))) (fun _ => false) (by kernel_rfl) (by kernel_rfl) (fun j hj => by cases hj) rfl (by kernel_rfl) (HSK.out _ HBD.out) ?_
          iterate 6 (refine mix_free ?_ rfl (by kernel_rfl) (fun w' hS => ?_) ?_; (rotate_left; (obtain ⟨s1, s2⟩ := hS; go_simp; with_reducible rfl); rotate_left))
          simp only [Act.put, List.setIfInBounds_toArray]
          iterate 5 (refine mix_free ?_ rfl (by kernel_rfl) (fun w' hS => ?_) ?_; (rotate_left; (obtain ⟨s1, s2⟩ := hS; go_simp; with_reducible rfl); rotate_left))
          simp only [Act.put]
          refine mix_go rfl (by kernel_rfl) fun KK hKK => ?_
          go_simp
          have HBA := hid ((HB.out.alloc hsN (.cells #[.int .i64 0, .int .i64 0] 88)).trans (show Below N (wr.alloc (.cells #[.int .i64 0, .int .i64 0] 88)) (wr.alloc (.cells #[.int .i64 0, .int .i64 0] 88)).drew from ⟨rfl, rfl, rfl, Nat.le_refl _, fun _ _ => rfl⟩))
          refine hKK _ _ (fun _ => HSK.out _ HBA.out) ?_
          clear hKK KK
          refine mix_go rfl (by kernel_rfl) fun KK hKK => ?_
          go_simp
          have HBW := hid ((HB.out.alloc hsN (.cells #[.int .i64 (xc' : Int), .int .i64 (yc' : Int)] 88)).trans (show Below N (wr.alloc (.cells #[.int .i64 (xc' : Int), .int .i64 (yc' : Int)] 88)) (wr.alloc (.cells #[.int .i64 (xc' : Int), .int .i64 (yc' : Int)] 88)).drew from ⟨rfl, rfl, rfl, Nat.le_refl _, fun _ _ => rfl⟩))
          have HWW := hid (((Below.refl wr.heap.size wr).alloc (Nat.le_refl _) (.cells #[.int .i64 (xc' : Int), .int .i64 (yc' : Int)] 88)).trans (show Below wr.heap.size (wr.alloc (.cells #[.int .i64 (xc' : Int), .int .i64 (yc' : Int)] 88)) (wr.alloc (.cells #[.int .i64 (xc' : Int), .int .i64 (yc' : Int)] 88)).drew from ⟨rfl, rfl, rfl, Nat.le_refl _, fun _ _ => rfl⟩))
          refine hKK _ _ (fun _ => HSK.out _ HBW.out) ?_
          clear hKK KK
          refine mix_end (NoPanic.normal ?_)
          have HAN := hid (show (wr.alloc (.cells #[.int .i64 (xc' : Int), .int .i64 (yc' : Int)] 88)).drew.heap[wr.heap.size]? = some (.cells [.int .i64 (xc' : Int), .int .i64 (yc' : Int)].toArray 88 (0, 0)) from heap_alloc_new wr (.cells #[.int .i64 (xc' : Int), .int .i64 (yc' : Int)] 88))
          have hWs : (wr.alloc (.cells #[.int .i64 (xc' : Int), .int .i64 (yc' : Int)] 88)).drew.heap.size = wr.heap.size + 1 := by simp
          obtain ⟨W, hW⟩ : ∃ W, W = (wr.alloc (.cells #[.int .i64 (xc' : Int), .int .i64 (yc' : Int)] 88)).drew := ⟨_, rfl⟩
          rw [← hW] at HBW HWW HAN hWs ⊢
          have z0 := cell_row W wr.heap.size 0 _ 88 _ HAN.out rfl
          have z1 := cell_row W wr.heap.size 1 _ 88 _ HAN.out rfl
          have HTW := hid (own_keep HOT.out HWW.out)
          have HLW := hid (own_keep HOL.out HWW.out)
          have HWS := hid hWs
          clear hW HBA HBD HWD hWs a1 a2 b1 b2
          go_wp2_with fail
          refine (HF.out W HWW.out).mono ?_
          rintro e w3 ⟨rfl, b3⟩
          have hNW : N ≤ W.heap.size := by have h5 := HWS.out; omega
          have HB3 := hid (HBW.out.trans (b3.mono hNW))
          have hN3 : N ≤ w3.heap.size := by have h5 := b3.size; omega
          have HT3 := hid (own_keep HTW.out b3)
          have HL3 := hid (own_keep HLW.out b3)
          have y0 : w3.cell? ⟨wr.heap.size, 0, none⟩ = some (.int .i64 (xc' : Int)) := (b3.cell (p := ⟨wr.heap.size, 0, none⟩) (by show wr.heap.size < _; have h5 := HWS.out; omega)).trans z0
          have y1 : w3.cell? ⟨wr.heap.size, 1, none⟩ = some (.int .i64 (yc' : Int)) := (b3.cell (p := ⟨wr.heap.size, 1, none⟩) (by show wr.heap.size < _; have h5 := HWS.out; omega)).trans z1
          clear b3 z0 z1 HTW HLW HAN HF HWW HBW
          go_wp2_with (first | (at_builtin; refine wpList_append_lies _ rfl _ _ 25 rfl N 36 i0 (.agg #[.int .i32 0, .int .i32 0, .int .i64 0]) 3 16 Try.underlying25 hi36 hz0 hz1 hz2 rfl (by decide) _ nL (rks Lc) rfl (HL3.out.alloc _) ⟨w3.heap.size, 0, none⟩ 1 1 (rkc ((ll : Int), (yh : Int), (m : Int))) rfl rfl (news_k w3 ((ll : Int), (yh : Int), (m : Int)) 36) (rkc_one _) (by decide) (by unfold maxLen; omega) (by omega) (by simp; omega) (w3.heap.size + 1) (by simp) ?_; intro q5 c5 w5 o5 gr5 hl5 hlt5; have HB5 := hid ((HB3.out.alloc hN3 (.cells #[.int .i32 (ll : Int), .int .i32 (yh : Int), .int .i64 (m : Int)] 36)).grown gr5 (by simp; omega) (fun k hk => (HL3.out.lt k hk).1)); have HT5 := hid (World.ownsRow.kept (HT3.out.alloc (.cells #[.int .i32 (ll : Int), .int .i32 (yh : Int), .int .i64 (m : Int)] 36)) gr5 (own_ne HT3.out HL3.out (by decide))); have HL5 := hid (show w5.ownsRow N 36 3 (.slice (some ⟨q5, 0, none⟩) (nL + 1) c5) (nL + 1) (rks (Lc ++ [(ll, yh, m)])) by rw [rks_snoc]; exact o5); obtain ⟨p1, _⟩ := HXC.out w5 HB5.out; obtain ⟨p3, _⟩ := HYC.out w5 HB5.out; clear o5 gr5 hl5 hlt5) | fail)
          go_roundw
          case rel => exact ⟨T, Lc ++ [(ll, yh, m)], ti, some ⟨q5, 0, none⟩, nT, nL + 1, tc, c5, ii, kk + 1, yh + 1, rfl, rfl, by go_num, by go_num, by go_num, HNT, (by have h5 := HNL.out; show nL + 1 = _; simp; omega), HIV, HT5, HL5, HB5⟩
          case measure => simp [intOf]; omega
        · rw [show min xh yh = yh by omega, if_neg (show ¬ xh = yh by omega), if_pos rfl] at HIN
          have c1 : (yh : Int) < (xh : Int) := by omega
          have c3 : ((xh : Int) == (yh : Int)) = false := by simp; omega
          have h7 : yh ≤ 1114111 := by omega
          have h8 : ll ≤ yh := by omega
          obtain ⟨e1, e2⟩ := fnd_not _ _ hp
          rw [e2] at HIN
          dsimp only at HIN
          rw [← HNT.out] at HIN
          have HF := hid (show ∀ W, Below wr.heap.size wr W → Calls Try.prog 54 #[.slice ti nT tc, .agg #[.int .i64 (xc' : Int), .int .i64 (yc' : Int)]] W fun e w' => e = .returned (.int .i64 (-1)) ∧ Below W.heap.size W w' from fun W hW => by
            have h5 := find_any ti tc T ((xc' : Int), (yc' : Int)) W ((rd_ownP HOT.out).below hW) (by have h6 := HNT.out; omega)
            rw [e1, ← HNT.out] at h5
            exact h5)
          have HIV := hid HIN
          have HSK := hid (show ∀ V, Below N w2 V → (V.cell? ⟨(a.add (ii * 3)).block, (a.add (ii * 3)).off + 2, none⟩ = some (.int .i64 (xc' : Int)) ∧ V.cell? ⟨(b.add (kk * 3)).block, (b.add (kk * 3)).off + 2, none⟩ = some (.int .i64 (yc' : Int))) from fun V hV => ⟨(HXC.out V hV).2, (HYC.out V hV).2⟩)
          have HBD := hid (HB.out.trans (show Below N wr wr.drew from ⟨rfl, rfl, rfl, Nat.le_refl _, fun _ _ => rfl⟩))
          have HWD := hid (show Below wr.heap.size wr wr.drew from ⟨rfl, rfl, rfl, Nat.le_refl _, fun _ _ => rfl⟩)
          clear HIN hp e1 e2 m1 m2 m3 m4 HI
          go_wp2_with fail
          refine wp_region_mix [(0, true), (1, true), (2, true), (3, true), (4, true), (5, true), (6, true), (7, true), (8, true), (9, true), (10, true), (11, false), (12, false)] (fun w' => w'.cell? ⟨(a.add (ii * 3)).block, (a.add (ii * 3)).off + 2, none⟩ = some (.int .i64 (xc' : Int)) ∧ w'.cell? ⟨(b.add (kk * 3)).block, (b.add (kk * 3)).off + 2, none⟩ = some (.int .i64 (yc' : Int))) (fun _ => false) (by kernel_rfl) (by kernel_rfl) (fun j hj => by cases hj) rfl (by kernel_rfl) (HSK.out _ HBD.out) ?_
          iterate 6 (refine mix_free ?_ rfl (by kernel_rfl) (fun w' hS => ?_) ?_; (rotate_left; (obtain ⟨s1, s2⟩ := hS; go_simp; with_reducible rfl); rotate_left))
          simp only [Act.put, List.setIfInBounds_toArray]
          iterate 5 (refine mix_free ?_ rfl (by kernel_rfl) (fun w' hS => ?_) ?_; (rotate_left; (obtain ⟨s1, s2⟩ := hS; go_simp; with_reducible rfl); rotate_left))
          simp only [Act.put]
          refine mix_go rfl (by kernel_rfl) fun KK hKK => ?_
          go_simp
          have HBA := hid ((HB.out.alloc hsN (.cells #[.int .i64 0, .int .i64 0] 88)).trans (show Below N (wr.alloc (.cells #[.int .i64 0, .int .i64 0] 88)) (wr.alloc (.cells #[.int .i64 0, .int .i64 0] 88)).drew from ⟨rfl, rfl, rfl, Nat.le_refl _, fun _ _ => rfl⟩))
          refine hKK _ _ (fun _ => HSK.out _ HBA.out) ?_
          clear hKK KK
          refine mix_go rfl (by kernel_rfl) fun KK hKK => ?_
          go_simp
          have HBW := hid ((HB.out.alloc hsN (.cells #[.int .i64 (xc' : Int), .int .i64 (yc' : Int)] 88)).trans (show Below N (wr.alloc (.cells #[.int .i64 (xc' : Int), .int .i64 (yc' : Int)] 88)) (wr.alloc (.cells #[.int .i64 (xc' : Int), .int .i64 (yc' : Int)] 88)).drew from ⟨rfl, rfl, rfl, Nat.le_refl _, fun _ _ => rfl⟩))
          have HWW := hid (((Below.refl wr.heap.size wr).alloc (Nat.le_refl _) (.cells #[.int .i64 (xc' : Int), .int .i64 (yc' : Int)] 88)).trans (show Below wr.heap.size (wr.alloc (.cells #[.int .i64 (xc' : Int), .int .i64 (yc' : Int)] 88)) (wr.alloc (.cells #[.int .i64 (xc' : Int), .int .i64 (yc' : Int)] 88)).drew from ⟨rfl, rfl, rfl, Nat.le_refl _, fun _ _ => rfl⟩))
          refine hKK _ _ (fun _ => HSK.out _ HBW.out) ?_
          clear hKK KK
          refine mix_end (NoPanic.normal ?_)
          have HAN := hid (show (wr.alloc (.cells #[.int .i64 (xc' : Int), .int .i64 (yc' : Int)] 88)).drew.heap[wr.heap.size]? = some (.cells [.int .i64 (xc' : Int), .int .i64 (yc' : Int)].toArray 88 (0, 0)) from heap_alloc_new wr (.cells #[.int .i64 (xc' : Int), .int .i64 (yc' : Int)] 88))
          have hWs : (wr.alloc (.cells #[.int .i64 (xc' : Int), .int .i64 (yc' : Int)] 88)).drew.heap.size = wr.heap.size + 1 := by simp
          obtain ⟨W, hW⟩ : ∃ W, W = (wr.alloc (.cells #[.int .i64 (xc' : Int), .int .i64 (yc' : Int)] 88)).drew := ⟨_, rfl⟩
          rw [← hW] at HBW HWW HAN hWs ⊢
          have z0 := cell_row W wr.heap.size 0 _ 88 _ HAN.out rfl
          have z1 := cell_row W wr.heap.size 1 _ 88 _ HAN.out rfl
          have HTW := hid (own_keep HOT.out HWW.out)
          have HLW := hid (own_keep HOL.out HWW.out)
          have HWS := hid hWs
          clear hW HBA HBD HWD hWs a1 a2 b1 b2
          go_wp2_with fail
          refine (HF.out W HWW.out).mono ?_
          rintro e w3 ⟨rfl, b3⟩
          have hNW : N ≤ W.heap.size := by have h5 := HWS.out; omega
          have HB3 := hid (HBW.out.trans (b3.mono hNW))
          have hN3 : N ≤ w3.heap.size := by have h5 := b3.size; omega
          have HT3 := hid (own_keep HTW.out b3)
          have HL3 := hid (own_keep HLW.out b3)
          have y0 : w3.cell? ⟨wr.heap.size, 0, none⟩ = some (.int .i64 (xc' : Int)) := (b3.cell (p := ⟨wr.heap.size, 0, none⟩) (by show wr.heap.size < _; have h5 := HWS.out; omega)).trans z0
          have y1 : w3.cell? ⟨wr.heap.size, 1, none⟩ = some (.int .i64 (yc' : Int)) := (b3.cell (p := ⟨wr.heap.size, 1, none⟩) (by show wr.heap.size < _; have h5 := HWS.out; omega)).trans z1
          clear b3 z0 z1 HTW HLW HAN HF HWW HBW
          go_wp2_with (first | (at_builtin; refine wpList_append_lies _ rfl _ _ 49 rfl N 88 j0 (.agg #[.int .i64 0, .int .i64 0]) 2 16 Try.underlying49 hj88 jz0 jz1 jz2 rfl (by decide) _ nT (pks T) rfl (HT3.out.alloc _) ⟨w3.heap.size, 0, none⟩ 1 1 (pkc ((xc' : Int), (yc' : Int))) rfl rfl (news_p w3 ((xc' : Int), (yc' : Int)) 88) (pkc_one _) (by decide) (by unfold maxLen; omega) (by omega) (by simp; omega) (w3.heap.size + 1) (by simp) ?_; intro q4 c4 w4 o4 gr4 hl4 hlt4; have HB4 := hid ((HB3.out.alloc hN3 (.cells #[.int .i64 (xc' : Int), .int .i64 (yc' : Int)] 88)).grown gr4 (by simp; omega) (fun k hk => (HT3.out.lt k hk).1)); have hN4 : N ≤ w4.heap.size := (by have h5 := HB4.out.size; have h6 := HNE.out; omega); have HL4 := hid (World.ownsRow.kept (HL3.out.alloc (.cells #[.int .i64 (xc' : Int), .int .i64 (yc' : Int)] 88)) gr4 (own_ne HL3.out HT3.out (by decide))); have HT4 := hid (show w4.ownsRow N 88 2 (.slice (some ⟨q4, 0, none⟩) (nT + 1) c4) (nT + 1) (pks (T ++ [((xc' : Int), (yc' : Int))])) by rw [pks_snoc]; exact o4); clear o4 gr4 hl4 hlt4 y0 y1) | (at_builtin; refine wpList_append_lies _ rfl _ _ 25 rfl N 36 i0 (.agg #[.int .i32 0, .int .i32 0, .int .i64 0]) 3 16 Try.underlying25 hi36 hz0 hz1 hz2 rfl (by decide) _ nL (rks Lc) rfl (HL4.out.alloc _) ⟨w4.heap.size, 0, none⟩ 1 1 (rkc ((ll : Int), (yh : Int), (nT : Int))) rfl rfl (news_k w4 ((ll : Int), (yh : Int), (nT : Int)) 36) (rkc_one _) (by decide) (by unfold maxLen; omega) (by omega) (by simp; omega) (w4.heap.size + 1) (by simp) ?_; intro q5 c5 w5 o5 gr5 hl5 hlt5; have HB5 := hid ((HB4.out.alloc hN4 (.cells #[.int .i32 (ll : Int), .int .i32 (yh : Int), .int .i64 (nT : Int)] 36)).grown gr5 (by simp; omega) (fun k hk => (HL4.out.lt k hk).1)); have HT5 := hid (World.ownsRow.kept (HT4.out.alloc (.cells #[.int .i32 (ll : Int), .int .i32 (yh : Int), .int .i64 (nT : Int)] 36)) gr5 (own_ne HT4.out HL4.out (by decide))); have HL5 := hid (show w5.ownsRow N 36 3 (.slice (some ⟨q5, 0, none⟩) (nL + 1) c5) (nL + 1) (rks (Lc ++ [(ll, yh, nT)])) by rw [rks_snoc]; exact o5); obtain ⟨p1, _⟩ := HXC.out w5 HB5.out; obtain ⟨p3, _⟩ := HYC.out w5 HB5.out; clear o5 gr5 hl5 hlt5) | fail)
          go_roundw
          case rel => exact ⟨T ++ [((xc' : Int), (yc' : Int))], Lc ++ [(ll, yh, nT)], some ⟨q4, 0, none⟩, some ⟨q5, 0, none⟩, nT + 1, nL + 1, c4, c5, ii, kk + 1, yh + 1, rfl, rfl, by go_num, by go_num, by go_num, (by have h5 := HNT.out; show nT + 1 = _; simp; omega), (by have h5 := HNL.out; show nL + 1 = _; simp; omega), HIV, HT5, HL5, HB5⟩
          case measure => simp [intOf]; omega
    · have hz := iv_end A D T Lc _ _ ll HI.out hlt
      have t0 : ¬ (ll : Int) ≤ 1114111 := by omega
      have HRS := hid (show T.length ≤ 256 → Ris 0 Lc from fun h5 => by have h6 := zpF_ris A D HCA.out HCD.out (by rw [hz]; exact h5); rw [hz] at h6; exact h6)
      have HZ2 := hid (show (zpF A D).2 = Lc by rw [hz])
      by_cases hp : ((r : Int), (q : Int)) ∈ T
      · obtain ⟨m, e1, e2⟩ := fnd_mem _ _ hp
        have HE := hid (show ad ((r : Int), (q : Int)) (zpF A D).1 = (T, m) by rw [hz]; exact e2)
        have hmT : m < nT := by have h5 := (fnd_lt _ _ hp).2; have h6 := HNT.out; omega
        have m0 : ¬ (m : Int) < 0 := by omega
        have HF := hid (show ∀ W, Below wr.heap.size wr W → Calls Try.prog 54 #[.slice ti nT tc, .agg #[.int .i64 (r : Int), .int .i64 (q : Int)]] W fun e w' => e = .returned (.int .i64 (m : Int)) ∧ Below W.heap.size W w' from fun W hW => by
          have h5 := find_any ti tc T ((r : Int), (q : Int)) W ((rd_ownP HOT.out).below hW) (by have h6 := HNT.out; omega)
          rw [e1, ← HNT.out] at h5
          exact h5)
        have HBD := hid (HB.out.trans (show Below N wr wr.drew from ⟨rfl, rfl, rfl, Nat.le_refl _, fun _ _ => rfl⟩))
        clear hp e1 e2 hz HI
        go_wp2_with fail
        refine wp_region_mix [(0, true), (1, true), (2, true), (3, true), (4, true), (5, true), (6, true), (7, true), (8, true), (9, false), (10, false)] (fun w' => w'.cell? ⟨P1, 1, none⟩ = some (.int .i64 (r : Int)) ∧ w'.cell? ⟨P2, 1, none⟩ = some (.int .i64 (q : Int))) (fun _ => false) (by kernel_rfl) (by kernel_rfl) (fun j hj => by cases hj) rfl (by kernel_rfl) (HPD.out _ HBD.out) ?_
        iterate 5 (refine mix_free ?_ rfl (by kernel_rfl) (fun w' hS => ?_) ?_; (rotate_left; (obtain ⟨s1, s2⟩ := hS; go_simp; with_reducible rfl); rotate_left))
        simp only [Act.put, List.setIfInBounds_toArray]
        iterate 4 (refine mix_free ?_ rfl (by kernel_rfl) (fun w' hS => ?_) ?_; (rotate_left; (obtain ⟨s1, s2⟩ := hS; go_simp; with_reducible rfl); rotate_left))
        simp only [Act.put]
        refine mix_go rfl (by kernel_rfl) fun KK hKK => ?_
        go_simp
        have HBA := hid ((HB.out.alloc hsN (.cells #[.int .i64 0, .int .i64 0] 88)).trans (show Below N (wr.alloc (.cells #[.int .i64 0, .int .i64 0] 88)) (wr.alloc (.cells #[.int .i64 0, .int .i64 0] 88)).drew from ⟨rfl, rfl, rfl, Nat.le_refl _, fun _ _ => rfl⟩))
        refine hKK _ _ (fun _ => HPD.out _ HBA.out) ?_
        clear hKK KK
        refine mix_go rfl (by kernel_rfl) fun KK hKK => ?_
        go_simp
        have HBW := hid ((HB.out.alloc hsN (.cells #[.int .i64 (r : Int), .int .i64 (q : Int)] 88)).trans (show Below N (wr.alloc (.cells #[.int .i64 (r : Int), .int .i64 (q : Int)] 88)) (wr.alloc (.cells #[.int .i64 (r : Int), .int .i64 (q : Int)] 88)).drew from ⟨rfl, rfl, rfl, Nat.le_refl _, fun _ _ => rfl⟩))
        have HWW := hid (((Below.refl wr.heap.size wr).alloc (Nat.le_refl _) (.cells #[.int .i64 (r : Int), .int .i64 (q : Int)] 88)).trans (show Below wr.heap.size (wr.alloc (.cells #[.int .i64 (r : Int), .int .i64 (q : Int)] 88)) (wr.alloc (.cells #[.int .i64 (r : Int), .int .i64 (q : Int)] 88)).drew from ⟨rfl, rfl, rfl, Nat.le_refl _, fun _ _ => rfl⟩))
        refine hKK _ _ (fun _ => HPD.out _ HBW.out) ?_
        clear hKK KK
        refine mix_end (NoPanic.normal ?_)
        have HAN := hid (show (wr.alloc (.cells #[.int .i64 (r : Int), .int .i64 (q : Int)] 88)).drew.heap[wr.heap.size]? = some (.cells [.int .i64 (r : Int), .int .i64 (q : Int)].toArray 88 (0, 0)) from heap_alloc_new wr (.cells #[.int .i64 (r : Int), .int .i64 (q : Int)] 88))
        have hWs : (wr.alloc (.cells #[.int .i64 (r : Int), .int .i64 (q : Int)] 88)).drew.heap.size = wr.heap.size + 1 := by simp
        obtain ⟨W, hW⟩ : ∃ W, W = (wr.alloc (.cells #[.int .i64 (r : Int), .int .i64 (q : Int)] 88)).drew := ⟨_, rfl⟩
        rw [← hW] at HBW HWW HAN hWs ⊢
        have z0 := cell_row W wr.heap.size 0 _ 88 _ HAN.out rfl
        have z1 := cell_row W wr.heap.size 1 _ 88 _ HAN.out rfl
        have HTW := hid (own_keep HOT.out HWW.out)
        have HLW := hid (own_keep HOL.out HWW.out)
        have HWS := hid hWs
        clear hW HBA HBD hWs
        go_wp2_with fail
        refine (HF.out W HWW.out).mono ?_
        rintro e w3 ⟨rfl, b3⟩
        have hNW : N ≤ W.heap.size := by have h5 := HWS.out; omega
        have HB3 := hid (HBW.out.trans (b3.mono hNW))
        have hN3 : N ≤ w3.heap.size := by have h5 := b3.size; omega
        have HT3 := hid (own_keep HTW.out b3)
        have HL3 := hid (own_keep HLW.out b3)
        have y0 : w3.cell? ⟨wr.heap.size, 0, none⟩ = some (.int .i64 (r : Int)) := (b3.cell (p := ⟨wr.heap.size, 0, none⟩) (by show wr.heap.size < _; have h5 := HWS.out; omega)).trans z0
        have y1 : w3.cell? ⟨wr.heap.size, 1, none⟩ = some (.int .i64 (q : Int)) := (b3.cell (p := ⟨wr.heap.size, 1, none⟩) (by show wr.heap.size < _; have h5 := HWS.out; omega)).trans z1
        clear b3 z0 z1 HTW HLW HAN HF HWW HBW
        by_cases hmany : 256 < nT
        · have hm' : (256 : Int) < ((nT : Nat) : Int) := by omega
          go_wp2
          go_ret3
          rw [HE.out]
          exact ⟨HBO.out _ HB3.out, .inl ⟨by show 256 < T.length; have h5 := HNT.out; simp; omega, rfl⟩⟩
        · have hm' : ¬ (256 : Int) < ((nT : Nat) : Int) := by omega
          have HRI := hid (HRS.out (by have h5 := HNT.out; omega))
          have HNR := hid (show ∀ W, W.ownsRow N 36 3 (.slice li nL lc) nL (rks Lc) → Calls Try.prog 42 #[.slice li nL lc, .int .i64 (m : Int)] W fun e w' => ∃ v', e = .returned v' ∧ w'.ownsRow W.heap.size 36 3 v' (nrA m [] Lc).length (rks (nrA m [] Lc)) ∧ Below W.heap.size W w' from fun W hW => by
            have h5 := normal_any li lc Lc m W (rd_own hW) (by have h5 := HNL.out; omega) (by omega) HRI.out
            rw [← HNL.out] at h5
            exact h5)
          obtain ⟨Z, hZ⟩ : ∃ Z, Z = nrA m [] Lc := ⟨_, rfl⟩
          rw [← hZ] at HNR
          have HZE := hid hZ
          clear hZ
          go_wp2_with fail
          refine (HNR.out _ HL3.out).mono ?_
          rintro e w6 ⟨v6, rfl, o6, b6⟩
          obtain ⟨vo6, vc6, rfl⟩ := own_form o6
          have HB6 := hid (HB3.out.trans (b6.mono hN3))
          have hN6 : N ≤ w6.heap.size := by have h5 := b6.size; omega
          have HO6 := hid (own_mono o6 hN3)
          have HT6 := hid (own_keep HT3.out b6)
          clear o6 b6 HNR
          have HB7 := hid (HB6.out.alloc hN6 (.cells #[.slice vo6 Z.length vc6, .int .i64 (m : Int)] 74))
          have HRT := hid (show RtAt w.heap.size w6.heap.size Z m (w6.alloc (.cells #[.slice vo6 Z.length vc6, .int .i64 (m : Int)] 74)) from ⟨_, heap_alloc_new w6 _, own_mono (HO6.out.alloc _) hwN⟩)
          have HTP := hid (rd_ownP (HT6.out.alloc (.cells #[.slice vo6 Z.length vc6, .int .i64 (m : Int)] 74)))
          go_wp2
          go_ret3
          rw [HE.out, HZ2.out]
          refine ⟨HBO.out _ HB7.out, .inr ⟨by show T.length ≤ 256; have h5 := HNT.out; omega, w6.heap.size, ti, tc, ?_, by omega, HTP.out, ?_⟩⟩
          · rw [← HNT.out]; rfl
          · rw [← HZE.out]; exact HRT.out
      · obtain ⟨e1, e2⟩ := fnd_not _ _ hp
        have HE := hid (show ad ((r : Int), (q : Int)) (zpF A D).1 = (T ++ [((r : Int), (q : Int))], T.length) by rw [hz]; exact e2)
        have HF := hid (show ∀ W, Below wr.heap.size wr W → Calls Try.prog 54 #[.slice ti nT tc, .agg #[.int .i64 (r : Int), .int .i64 (q : Int)]] W fun e w' => e = .returned (.int .i64 (-1)) ∧ Below W.heap.size W w' from fun W hW => by
          have h5 := find_any ti tc T ((r : Int), (q : Int)) W ((rd_ownP HOT.out).below hW) (by have h6 := HNT.out; omega)
          rw [e1, ← HNT.out] at h5
          exact h5)
        have HBD := hid (HB.out.trans (show Below N wr wr.drew from ⟨rfl, rfl, rfl, Nat.le_refl _, fun _ _ => rfl⟩))
        clear hp e1 e2 hz HI
        go_wp2_with fail
        refine wp_region_mix [(0, true), (1, true), (2, true), (3, true), (4, true), (5, true), (6, true), (7, true), (8, true), (9, false), (10, false)] (fun w' => w'.cell? ⟨P1, 1, none⟩ = some (.int .i64 (r : Int)) ∧ w'.cell? ⟨P2, 1, none⟩ = some (.int .i64 (q : Int))) (fun _ => false) (by kernel_rfl) (by kernel_rfl) (fun j hj => by cases hj) rfl (by kernel_rfl) (HPD.out _ HBD.out) ?_
        iterate 5 (refine mix_free ?_ rfl (by kernel_rfl) (fun w' hS => ?_) ?_; (rotate_left; (obtain ⟨s1, s2⟩ := hS; go_simp; with_reducible rfl); rotate_left))
        simp only [Act.put, List.setIfInBounds_toArray]
        iterate 4 (refine mix_free ?_ rfl (by kernel_rfl) (fun w' hS => ?_) ?_; (rotate_left; (obtain ⟨s1, s2⟩ := hS; go_simp; with_reducible rfl); rotate_left))
        simp only [Act.put]
        refine mix_go rfl (by kernel_rfl) fun KK hKK => ?_
        go_simp
        have HBA := hid ((HB.out.alloc hsN (.cells #[.int .i64 0, .int .i64 0] 88)).trans (show Below N (wr.alloc (.cells #[.int .i64 0, .int .i64 0] 88)) (wr.alloc (.cells #[.int .i64 0, .int .i64 0] 88)).drew from ⟨rfl, rfl, rfl, Nat.le_refl _, fun _ _ => rfl⟩))
        refine hKK _ _ (fun _ => HPD.out _ HBA.out) ?_
        clear hKK KK
        refine mix_go rfl (by kernel_rfl) fun KK hKK => ?_
        go_simp
        have HBW := hid ((HB.out.alloc hsN (.cells #[.int .i64 (r : Int), .int .i64 (q : Int)] 88)).trans (show Below N (wr.alloc (.cells #[.int .i64 (r : Int), .int .i64 (q : Int)] 88)) (wr.alloc (.cells #[.int .i64 (r : Int), .int .i64 (q : Int)] 88)).drew from ⟨rfl, rfl, rfl, Nat.le_refl _, fun _ _ => rfl⟩))
        have HWW := hid (((Below.refl wr.heap.size wr).alloc (Nat.le_refl _) (.cells #[.int .i64 (r : Int), .int .i64 (q : Int)] 88)).trans (show Below wr.heap.size (wr.alloc (.cells #[.int .i64 (r : Int), .int .i64 (q : Int)] 88)) (wr.alloc (.cells #[.int .i64 (r : Int), .int .i64 (q : Int)] 88)).drew from ⟨rfl, rfl, rfl, Nat.le_refl _, fun _ _ => rfl⟩))
        refine hKK _ _ (fun _ => HPD.out _ HBW.out) ?_
        clear hKK KK
        refine mix_end (NoPanic.normal ?_)
        have HAN := hid (show (wr.alloc (.cells #[.int .i64 (r : Int), .int .i64 (q : Int)] 88)).drew.heap[wr.heap.size]? = some (.cells [.int .i64 (r : Int), .int .i64 (q : Int)].toArray 88 (0, 0)) from heap_alloc_new wr (.cells #[.int .i64 (r : Int), .int .i64 (q : Int)] 88))
        have hWs : (wr.alloc (.cells #[.int .i64 (r : Int), .int .i64 (q : Int)] 88)).drew.heap.size = wr.heap.size + 1 := by simp
        obtain ⟨W, hW⟩ : ∃ W, W = (wr.alloc (.cells #[.int .i64 (r : Int), .int .i64 (q : Int)] 88)).drew := ⟨_, rfl⟩
        rw [← hW] at HBW HWW HAN hWs ⊢
        have z0 := cell_row W wr.heap.size 0 _ 88 _ HAN.out rfl
        have z1 := cell_row W wr.heap.size 1 _ 88 _ HAN.out rfl
        have HTW := hid (own_keep HOT.out HWW.out)
        have HLW := hid (own_keep HOL.out HWW.out)
        have HWS := hid hWs
        clear hW HBA HBD hWs
        go_wp2_with fail
        refine (HF.out W HWW.out).mono ?_
        rintro e w3 ⟨rfl, b3⟩
        have hNW : N ≤ W.heap.size := by have h5 := HWS.out; omega
        have HB3 := hid (HBW.out.trans (b3.mono hNW))
        have hN3 : N ≤ w3.heap.size := by have h5 := b3.size; omega
        have HT3 := hid (own_keep HTW.out b3)
        have HL3 := hid (own_keep HLW.out b3)
        have y0 : w3.cell? ⟨wr.heap.size, 0, none⟩ = some (.int .i64 (r : Int)) := (b3.cell (p := ⟨wr.heap.size, 0, none⟩) (by show wr.heap.size < _; have h5 := HWS.out; omega)).trans z0
        have y1 : w3.cell? ⟨wr.heap.size, 1, none⟩ = some (.int .i64 (q : Int)) := (b3.cell (p := ⟨wr.heap.size, 1, none⟩) (by show wr.heap.size < _; have h5 := HWS.out; omega)).trans z1
        clear b3 z0 z1 HTW HLW HAN HF HWW HBW
        by_cases hmany : 256 < nT + 1
        · have hm' : (256 : Int) < ((nT + 1 : Nat) : Int) := by omega
          have hm2 : (256 : Int) < (nT : Int) + 1 := by omega
          go_wp2_with (first | (at_builtin; refine wpList_append_lies _ rfl _ _ 49 rfl N 88 j0 (.agg #[.int .i64 0, .int .i64 0]) 2 16 Try.underlying49 hj88 jz0 jz1 jz2 rfl (by decide) _ nT (pks T) rfl (HT3.out.alloc _) ⟨w3.heap.size, 0, none⟩ 1 1 (pkc ((r : Int), (q : Int))) rfl rfl (news_p w3 ((r : Int), (q : Int)) 88) (pkc_one _) (by decide) (by unfold maxLen; omega) (by omega) (by simp; omega) (w3.heap.size + 1) (by simp) ?_; intro q4 c4 w4 o4 gr4 hl4 hlt4; have HB4 := hid ((HB3.out.alloc hN3 (.cells #[.int .i64 (r : Int), .int .i64 (q : Int)] 88)).grown gr4 (by simp; omega) (fun k hk => (HT3.out.lt k hk).1)); have hN4 : N ≤ w4.heap.size := (by have h5 := HB4.out.size; have h6 := HNE.out; omega); have HL4 := hid (World.ownsRow.kept (HL3.out.alloc (.cells #[.int .i64 (r : Int), .int .i64 (q : Int)] 88)) gr4 (own_ne HL3.out HT3.out (by decide))); have HT4 := hid (show w4.ownsRow N 88 2 (.slice (some ⟨q4, 0, none⟩) (nT + 1) c4) (nT + 1) (pks (T ++ [((r : Int), (q : Int))])) by rw [pks_snoc]; exact o4); clear o4 gr4 hl4 hlt4 y0 y1) | fail)
          go_ret3
          rw [HE.out]
          exact ⟨HBO.out _ HB4.out, .inl ⟨by show 256 < (T ++ [((r : Int), (q : Int))]).length; have h5 := HNT.out; simp; omega, rfl⟩⟩
        · have hm' : ¬ (256 : Int) < ((nT + 1 : Nat) : Int) := by omega
          have hm2 : ¬ (256 : Int) < (nT : Int) + 1 := by omega
          have HRI := hid (HRS.out (by have h5 := HNT.out; omega))
          have HNR := hid (show ∀ W, W.ownsRow N 36 3 (.slice li nL lc) nL (rks Lc) → Calls Try.prog 42 #[.slice li nL lc, .int .i64 (nT : Int)] W fun e w' => ∃ v', e = .returned v' ∧ w'.ownsRow W.heap.size 36 3 v' (nrA nT [] Lc).length (rks (nrA nT [] Lc)) ∧ Below W.heap.size W w' from fun W hW => by
            have h5 := normal_any li lc Lc nT W (rd_own hW) (by have h5 := HNL.out; omega) (by omega) HRI.out
            rw [← HNL.out] at h5
            exact h5)
          obtain ⟨Z, hZ⟩ : ∃ Z, Z = nrA nT [] Lc := ⟨_, rfl⟩
          rw [← hZ] at HNR
          have HZE := hid hZ
          clear hZ
          go_wp2_with (first | (at_builtin; refine wpList_append_lies _ rfl _ _ 49 rfl N 88 j0 (.agg #[.int .i64 0, .int .i64 0]) 2 16 Try.underlying49 hj88 jz0 jz1 jz2 rfl (by decide) _ nT (pks T) rfl (HT3.out.alloc _) ⟨w3.heap.size, 0, none⟩ 1 1 (pkc ((r : Int), (q : Int))) rfl rfl (news_p w3 ((r : Int), (q : Int)) 88) (pkc_one _) (by decide) (by unfold maxLen; omega) (by omega) (by simp; omega) (w3.heap.size + 1) (by simp) ?_; intro q4 c4 w4 o4 gr4 hl4 hlt4; have HB4 := hid ((HB3.out.alloc hN3 (.cells #[.int .i64 (r : Int), .int .i64 (q : Int)] 88)).grown gr4 (by simp; omega) (fun k hk => (HT3.out.lt k hk).1)); have hN4 : N ≤ w4.heap.size := (by have h5 := HB4.out.size; have h6 := HNE.out; omega); have HL4 := hid (World.ownsRow.kept (HL3.out.alloc (.cells #[.int .i64 (r : Int), .int .i64 (q : Int)] 88)) gr4 (own_ne HL3.out HT3.out (by decide))); have HT4 := hid (show w4.ownsRow N 88 2 (.slice (some ⟨q4, 0, none⟩) (nT + 1) c4) (nT + 1) (pks (T ++ [((r : Int), (q : Int))])) by rw [pks_snoc]; exact o4); clear o4 gr4 hl4 hlt4 y0 y1) | fail)
          refine (HNR.out _ HL4.out).mono ?_
          rintro e w6 ⟨v6, rfl, o6, b6⟩
          obtain ⟨vo6, vc6, rfl⟩ := own_form o6
          have HB6 := hid (HB4.out.trans (b6.mono hN4))
          have hN6 : N ≤ w6.heap.size := by have h5 := b6.size; omega
          have HO6 := hid (own_mono o6 hN4)
          have HT6 := hid (own_keep HT4.out b6)
          clear o6 b6 HNR
          have HB7 := hid (HB6.out.alloc hN6 (.cells #[.slice vo6 Z.length vc6, .int .i64 (nT : Int)] 74))
          have HRT := hid (show RtAt w.heap.size w6.heap.size Z nT (w6.alloc (.cells #[.slice vo6 Z.length vc6, .int .i64 (nT : Int)] 74)) from ⟨_, heap_alloc_new w6 _, own_mono (HO6.out.alloc _) hwN⟩)
          have HTP := hid (rd_ownP (HT6.out.alloc (.cells #[.slice vo6 Z.length vc6, .int .i64 (nT : Int)] 74)))
          go_wp2
          go_ret3
          rw [HE.out, HZ2.out]
          refine ⟨HBO.out _ HB7.out, .inr ⟨by show (T ++ [((r : Int), (q : Int))]).length ≤ 256; have h5 := HNT.out; simp; omega, w6.heap.size, some ⟨q4, 0, none⟩, c4, ?_, by omega, HTP.out, ?_⟩⟩
          · rw [show (T ++ [((r : Int), (q : Int))]).length = nT + 1 by have h5 := HNT.out; simp; omega]; rfl
          · rw [← HNT.out, ← HZE.out]; exact HRT.out
end Go.Proofs.Ytljlhlcoaajggaa
/- The contract of own (package kerflaw03); lists of any ranges in rows; two of them changed for one another; TableOrder answers true. -/
namespace Go.Proofs.Ytljlhlcoaajggaa
open Go.RowKit

/-- The cells of ranges. -/
def rkL (l : List Rk) : List Value := l.flatMap rkc
theorem rkL_app (l m : List Rk) : rkL (l ++ m) = rkL l ++ rkL m := by simp [rkL]
theorem rkL_len (l : List Rk) : (rkL l).length = l.length * 3 := by
  induction l with
  | nil => rfl
  | cons g l ih =>
    show (rkc g ++ rkL l).length = _
    rw [List.length_append, ih]
    simp [rkc]; omega
theorem rkL_one (l : List Rk) : ∀ v ∈ rkL l, v.oneCell' = true := fun v hv => by
  obtain ⟨g, _, hg⟩ := List.mem_flatMap.1 hv
  exact rkc_one _ v hg
theorem rkL_split (l : List Rk) (k : Nat) (h : k < l.length) : rkL l = rkL (l.take k) ++ (rkc l[k] ++ rkL (l.drop (k + 1))) := by
  have e : l = l.take k ++ l[k] :: l.drop (k + 1) := by rw [List.getElem_cons_drop, List.take_append_drop]
  conv => lhs; rw [e, rkL_app]
  rfl
theorem rkL_at (l : List Rk) (k c : Nat) (v : Value) (h : k < l.length) (hv : (rkc l[k])[c]? = some v) : (rkL l)[k * 3 + c]? = some v := by
  have hc : c < 3 := (List.getElem?_eq_some_iff.1 hv).1
  have hl : (rkL (l.take k)).length = k * 3 := by rw [rkL_len, List.length_take]; omega
  rw [rkL_split l k h, List.getElem?_append_right (by omega), hl, show k * 3 + c - k * 3 = c by omega, List.getElem?_append_left hc]
  exact hv
theorem rkL_set (l : List Rk) (k : Nat) (g : Rk) (h : k < l.length) : lset (rkL l) (k * 3) (rkc g) = rkL (l.set k g) := by
  have hl : (rkL (l.take k)).length = k * 3 := by rw [rkL_len, List.length_take]; omega
  have e1 := lset_mid (rkc g) (rkL (l.take k)) (rkc l[k]) (rkL (l.drop (k + 1))) rfl
  rw [hl, List.append_assoc, ← rkL_split l k h] at e1
  rw [e1]
  have e2 : l.set k g = l.take k ++ g :: l.drop (k + 1) := List.set_eq_take_append_cons_drop.trans (if_pos h)
  rw [e2, rkL_app, List.append_assoc]
  rfl
theorem rd_ownL {B n cap : Nat} {ao : Option Addr} {l : List Rk} {w : World} (h : w.ownsRow B 36 3 (.slice ao n cap) n (rkL l)) : RdK w ao l := by
  intro k g hk
  obtain ⟨hkl, rfl⟩ := List.getElem?_eq_some_iff.1 hk
  have hn : l.length = n := by have := h.1; rw [rkL_len] at this; omega
  rcases h.2 with ⟨h', h0⟩ | ⟨q, cap', cur, h', hb, hg, hnc, hcm, hcs, htk⟩
  · omega
  · simp only [Value.slice.injEq, true_and] at h'
    obtain ⟨rfl, rfl⟩ := h'
    have hc : ∀ j v, (rkc l[k])[j]? = some v → w.cell? ⟨q, k * 3 + j, none⟩ = some v := fun j v hj => by
      have hj3 : j < 3 := (List.getElem?_eq_some_iff.1 hj).1
      rw [h.cellAt _ (by omega)]
      exact rkL_at l k j v hkl hj
    have ha : (⟨q, 0, none⟩ : Addr).add (k * 3) = ⟨q, k * 3, none⟩ := by rw [Addr.add_lit, Nat.zero_add]
    refine ⟨_, rfl, (h.lt q rfl).2, ?_, ?_, ?_⟩
    · rw [ha]; exact hc 0 _ rfl
    · rw [ha]; exact hc 1 _ rfl
    · rw [ha]; exact hc 2 _ rfl
/-- Two changed for one another. -/
theorem swap_perm (M : List Rk) (k : Nat) (h0 : 0 < M.length) (hk : k < M.length) : List.Perm M ((M.set 0 M[k]).set k M[0]) := by
  cases M with
  | nil => simp at h0
  | cons a T =>
    cases k with
    | zero => exact List.Perm.refl _
    | succ j =>
      have hj : j < T.length := by simpa using hk
      show List.Perm (a :: T) (T[j] :: T.set j a)
      have e1 : T = T.take j ++ T[j] :: T.drop (j + 1) := by rw [List.getElem_cons_drop, List.take_append_drop]
      have e2 : T.set j a = T.take j ++ a :: T.drop (j + 1) := List.set_eq_take_append_cons_drop.trans (if_pos hj)
      rw [e2]
      conv => lhs; rw [e1]
      refine (List.Perm.cons a List.perm_middle).trans ?_
      refine (List.Perm.swap _ _ _).trans ?_
      exact List.Perm.cons _ List.perm_middle.symm
theorem add_one3 (a : Addr) (k : Nat) : a.add (k + 1) = ⟨(a.add k).block, (a.add k).off + 1, none⟩ := by
  unfold Addr.add
  rw [if_neg (by omega)]
  split
  · rename_i h; subst h; rfl
  · rfl
theorem row_none (w : World) : (w.alloc (.cells #[] 36)).ownsRow w.heap.size 36 3 (.slice (some ⟨w.heap.size, 0, none⟩) 0 0) 0 [] :=
  ⟨by simp, .inr ⟨w.heap.size, 0, #[], rfl, Nat.le_refl _, heap_alloc_new w _, Nat.le_refl _, by simp [maxLen], by simp, by simp⟩⟩
theorem rkL_reads {w : World} {a : Addr} {l : List Rk} (h : RdK w (some a) l) : ∀ j u, (rkL l)[j]? = some u → w.cell? (a.add j) = some u := fun j u hj => by
  have hjl := (List.getElem?_eq_some_iff.1 hj).1
  rw [rkL_len] at hjl
  obtain ⟨t, ht⟩ : ∃ t, t = j / 3 := ⟨_, rfl⟩
  obtain ⟨s, hs⟩ : ∃ s, s = j % 3 := ⟨_, rfl⟩
  have hjt : j = t * 3 + s := by omega
  have hk : t < l.length := by omega
  have hs3 : s < 3 := by omega
  clear ht hs hjl
  subst hjt
  obtain ⟨b, hb, _, h0, h1, h2⟩ := h t l[t] (List.getElem?_eq_getElem hk)
  cases hb
  have hc : (rkc l[t])[s]? = some u := by
    have h5 := rkL_at l t s ((rkc l[t])[s]'(by show s < 3; exact hs3)) hk (List.getElem?_eq_getElem _)
    rw [h5] at hj
    rw [← hj, List.getElem?_eq_getElem]
  rcases (show s = 0 ∨ s = 1 ∨ s = 2 by omega) with e | e | e
  · subst e; cases hc; exact h0
  · subst e; cases hc
    rw [add_one3]
    exact h1
  · subst e; cases hc
    rw [show t * 3 + 2 = t * 3 + 1 + 1 by omega, add_one3, add_one3]
    exact h2
theorem own_any (ao : Option Addr) (ac : Nat) (l : List Rk) (w : World) (ha : RdK w ao l) (hcap : ao = none → ac = 0) (hl : l.length ≤ 100000) :
    Calls Try.prog 11 #[.slice ao l.length ac] w fun e w' => ∃ g cap, e = .returned (.slice (some ⟨g, 0, none⟩) l.length cap) ∧ w'.ownsRow w.heap.size 36 3 (.slice (some ⟨g, 0, none⟩) l.length cap) l.length (rkL l) ∧ Below w.heap.size w w' := by
  obtain ⟨i0, hi, hz0, hz1, hz2⟩ := info_parts Try.info36
  have o0 := row_none w
  have hb0 := (Below.refl w.heap.size w).alloc (Nat.le_refl _) (.cells #[] 36)
  have HB0 := hid hb0
  have HE0 := hid (ha.below hb0)
  cases ao with
  | none =>
    have hn : l = [] := by
      cases l with
      | nil => rfl
      | cons y ys => obtain ⟨a', h', _⟩ := ha 0 y rfl; cases h'
    subst hn
    have hc := hcap rfl
    subst hc
    clear ha hcap hb0 HE0
    go_enter Try.func11, Try.ntmps11
    go_wp2_with (at_builtin; refine wpList_append_own_none rfl _ _ 25 rfl w.heap.size 36 i0 3 Try.underlying25 hi (.slice (some ⟨w.heap.size, 0, none⟩) 0 0) 0 [] rfl o0 rfl ?_)
    go_ret
    exact ⟨_, _, rfl, o0, HB0.out⟩
  | some a =>
    have HRD := hid (rkL_reads HE0.out)
    have hll := rkL_len l
    have HON := hid (rkL_one l)
    obtain ⟨n, hn⟩ : ∃ n, n = l.length := ⟨_, rfl⟩
    rw [← hn] at hl hll ⊢
    clear ha hcap hb0 HE0 hn
    cases Nat.eq_zero_or_pos n with
    | inl h0 =>
      subst h0
      have hnil : rkL l = [] := List.length_eq_zero_iff.1 (by omega)
      have HNL := hid hnil
      rw [hnil] at HRD HON
      clear hnil hll
      go_enter Try.func11, Try.ntmps11
      go_wp2_with (at_builtin; refine wpList_append_fits _ rfl _ _ 25 rfl w.heap.size 36 i0 3 Try.underlying25 hi hz1 w.heap.size 0 0 [] rfl o0 a 0 ac [] rfl rfl HRD.out HON.out (Nat.le_refl _) ?_; intro w1 o1 gr1)
      have HB1 := hid (HB0.out.grown gr1 (by simp) (fun k hk => (o0.lt k hk).1))
      have HO1 := hid o1
      clear o1 gr1
      go_ret
      exact ⟨_, _, rfl, by rw [HNL.out]; exact HO1.out, HB1.out⟩
    | inr hp =>
      go_enter Try.func11, Try.ntmps11
      go_wp2_with (at_builtin; refine wpList_append_lies _ rfl _ _ 25 rfl w.heap.size 36 i0 (.agg #[.int .i32 0, .int .i32 0, .int .i64 0]) 3 16 Try.underlying25 hi hz0 hz1 hz2 rfl (by decide) _ 0 [] rfl o0 a n ac (rkL l) rfl hll HRD.out HON.out hp (by unfold maxLen; omega) (by omega) (by simp) (w.heap.size + 1) (by simp) ?_; intro q cap' w1 o1 gr1 hlie hg1)
      have HB1 := hid (HB0.out.grown gr1 (by simp) (fun k hk => (o0.lt k hk).1))
      rw [Nat.zero_add, List.nil_append] at o1
      have HO1 := hid o1
      clear o1 gr1
      go_ret
      exact ⟨q, cap', by simp, HO1.out, HB1.out⟩

theorem step_store_mid {ops : Array Oper} {o : Oper} {a : Act} {w : World} {K : Act → World → Prop} {Q : Exit → Act → World → Prop} {E : Prop}
    (hg : o.guard = none) (ty : TypeId) (x y : Operand) (ho : o.op = .store ty x y) (b f : Nat) (cells : Array Value) (hx : a.eval x = .pointer (some ⟨b, f, none⟩)) (hy : a.eval y = .agg cells)
    (ht : w.there b f cells.size) (hi : (Try.prog.info? ty).map (·.size) = some cells.size) (h1 : cells.all (·.oneCell') = true) (hK : K (a.put o.dst undef) (w.setCells b f cells.toList)) :
    if Region.wanted o (yielded ops a.tmps) = true then Oper.wp Try.prog o a w K Q else E := by
  rw [if_pos (by simp [Region.wanted, hg])]
  exact wp_store_mid ty x y ho b f cells hx hy ht hi h1 hK
/-- A slice of numbers, nil or not, reads as a list. -/
def RdJ (w : World) (ao : Option Addr) (l : List Int) : Prop := ∀ (k : Nat) (z : Int), l[k]? = some z → ∃ a : Addr, ao = some a ∧ a.block < w.heap.size ∧ w.cell? (a.add k) = some (.int .i64 z)
theorem RdJ.below {w w' : World} {ao : Option Addr} {l : List Int} (h : RdJ w ao l) (hb : Below w.heap.size w w') : RdJ w' ao l := fun k c hk => by
  obtain ⟨a, h1, h2, h3⟩ := h k c hk
  exact ⟨a, h1, Nat.lt_of_lt_of_le h2 hb.size, (hb.cell (p := a.add k) (by rw [add_blk]; exact h2)).trans h3⟩
theorem flt_ne : ∀ (l : List Rk) (D : List Tr) (i : Nat) (c : Int) (k : Nat), flt D i l = some (c, k) → c ≠ 0
  | [], _, _, _, _, h => by cases h
  | g :: l, D, i, c, k, h => by
    unfold flt at h
    split at h
    · split at h
      · cases h; decide
      · exact flt_ne l _ _ c k h
    · cases h; decide
theorem bo_ne {l : List Rk} {r c : Int} {k : Nat} (h : bo l r = some (c, k)) : c ≠ 0 := by
  unfold bo at h
  split at h
  · split at h
    · cases h; decide
    · exact flt_ne l _ _ c k h
  · cases h; decide
theorem bo_none {l : List Rk} {r : Int} (h : bo l r = none) : icl r = true ∧ l.length ≤ 4096 ∧ flt [] 0 l = none := by
  unfold bo at h
  split at h
  · rename_i h1
    split at h
    · cases h
    · rename_i h2
      exact ⟨h1, by omega, h⟩
  · cases h
theorem bo_same {l m : List Rk} {r : Int} (h : bo l r = none) (hp : List.Perm l m) : bo m r = none ∧ srt [] m = srt [] l := by
  obtain ⟨h1, h2, h3⟩ := bo_none h
  obtain ⟨h4, h5⟩ := srt_same h3 hp
  refine ⟨?_, h5⟩
  unfold bo
  rw [if_pos h1, if_neg (by rw [← hp.length_eq]; omega), h4]
theorem bo_self {A : List Tr} {r : Int} (hr : icl r = true) (h : Ris 0 A) (hl : A.length ≤ 4096) : bo (A.map rkT) r = none ∧ srt [] (A.map rkT) = A := by
  obtain ⟨h4, h5⟩ := srt_self A h
  refine ⟨?_, h5⟩
  unfold bo
  rw [if_pos hr, if_neg (by rw [List.length_map]; omega), h4]

theorem below_drew (B : Nat) (w : World) : Below B w w.drew := ⟨rfl, rfl, rfl, Nat.le_refl _, fun _ _ => rfl⟩
theorem six_cells (w : World) (g k : Nat) (a b c d e f : Value) : ((((((w.setCell ⟨g, 0, none⟩ a).setCell ⟨g, 1, none⟩ b).setCell ⟨g, 2, none⟩ c).setCell ⟨g, k * 3, none⟩ d).setCell ⟨g, k * 3 + 1, none⟩ e).setCell ⟨g, k * 3 + 2, none⟩ f).drew = ((w.setCells g 0 [a, b, c]).setCells g (k * 3) [d, e, f]).drew := rfl
theorem six_zero (w : World) (g : Nat) (a b c d e f : Value) : ((((((w.setCell ⟨g, 0, none⟩ a).setCell ⟨g, 1, none⟩ b).setCell ⟨g, 2, none⟩ c).setCell ⟨g, 0, none⟩ d).setCell ⟨g, 1, none⟩ e).setCell ⟨g, 2, none⟩ f).drew = ((w.setCells g 0 [a, b, c]).setCells g 0 [d, e, f]).drew := rfl
set_option maxHeartbeats 8000000 in
set_option maxRecDepth 100000 in
theorem order_walk (ao to : Option Addr) (ac tc : Nat) (l : List Rk) (r : Int) (t : List Int) (w : World) (ha : RdK w ao l) (hna : ao = none → ac = 0) (hl0 : l.length ≤ 9223372036854775807) (ht : RdJ w to t) (htl0 : t.length ≤ 9223372036854775807) :
    Calls Try.prog 8 #[.slice ao l.length ac, .int .i64 r, .slice to t.length tc] w fun e w' => e = .returned (.bool true) ∧ Below w.heap.size w w' := by
  have HA := hid ha
  have HTU := hid ht
  obtain ⟨n, hn⟩ : ∃ n, n = l.length := ⟨_, rfl⟩
  obtain ⟨m, hm⟩ : ∃ m, m = t.length := ⟨_, rfl⟩
  rw [← hn, ← hm]
  have HN := hid hn
  have HM := hid hm
  clear ha ht
  by_cases c1 : 300 < n
  · have c1' : (300 : Int) < (n : Int) := by omega
    clear hn hm
    go_enter Try.func8, Try.ntmps8
    go_wp2_with fail
    refine (live_any _).mono ?_
    rintro e w1 ⟨rfl, b1⟩
    have HB1 := hid b1
    clear b1
    go_wp2
    go_ret
    exact ⟨rfl, HB1.out⟩
  by_cases c2 : 300 < m
  · have c1' : ¬ (300 : Int) < (n : Int) := by omega
    have c2' : (300 : Int) < (m : Int) := by omega
    clear hn hm
    go_enter Try.func8, Try.ntmps8
    go_wp2_with fail
    refine (live_any _).mono ?_
    rintro e w1 ⟨rfl, b1⟩
    have HB1 := hid b1
    clear b1
    go_wp2
    go_ret
    exact ⟨rfl, HB1.out⟩
  have c1' : ¬ (300 : Int) < (n : Int) := by omega
  have c2' : ¬ (300 : Int) < (m : Int) := by omega
  have HO := hid (own_any ao ac l w HA.out hna (by omega))
  rw [← hn] at HO
  have hn3 : n ≤ 300 := by omega
  have hm3 : m ≤ 300 := by omega
  clear hn hm
  go_enter Try.func8, Try.ntmps8
  go_wp2_with fail
  refine HO.out.mono ?_
  rintro e w1 ⟨g1, p1, rfl, o1, b1⟩
  have HB1 := hid b1
  have HBU := hid (build_any (some ⟨g1, 0, none⟩) p1 l r w1 (rd_ownL o1) (by have h5 := HN.out; omega))
  rw [← HN.out] at HBU
  clear o1 b1 HO
  go_wp2_with fail
  refine HBU.out.mono ?_
  rintro e w2 ⟨b2, hc⟩
  have HB2 := hid (HB1.out.trans (b2.mono HB1.out.size))
  clear b2 HBU
  rcases hc with ⟨c, k, hc, rfl⟩ | ⟨hbo, T, F, rfl, hTs, hF, hsl, hTb⟩
  · have hc0 : (c == 0) = false := by simpa using bo_ne hc
    have hc1 : ¬ (c = 0) := bo_ne hc
    clear hc
    go_wp2_with (first | (go_at_call 9; refine (num_any _ _).mono ?_; rintro e w9 ⟨rfl, h9⟩; obtain rfl := h9.symm) | fail)
    refine (live_any _).mono ?_
    rintro e w3 ⟨rfl, b3⟩
    have HB3 := hid (HB2.out.trans (b3.mono HB2.out.size))
    clear b3
    go_wp2
    go_ret
    exact ⟨rfl, HB3.out⟩
  have HBO := hid hbo
  have HF := hid hF
  have HTb := hid hTb
  have HO2 := hid (own_any ao ac l w2 (HA.out.below HB2.out) hna (by have h5 := HN.out; omega))
  rw [← HN.out] at HO2
  clear hbo hF hTb hTs
  go_wp2_with (first | (go_at_call 9; refine (num_any _ _).mono ?_; rintro e w9 ⟨rfl, h9⟩; obtain rfl := h9.symm) | fail)
  refine HO2.out.mono ?_
  rintro e w3 ⟨g3, p3, rfl, o3, b3⟩
  obtain ⟨B3, hB3⟩ : ∃ B3, B3 = w2.heap.size := ⟨_, rfl⟩
  rw [← hB3] at o3 b3
  have HBE3 := hid hB3
  have HO3 := hid o3
  have HB3 := hid b3
  clear o3 b3 HO2 hB3
  go_wp2
  have HP0 := hid (List.Perm.refl l)
  have HNL := hid (show l.length = n from HN.out.symm)
  go_loopw [11] (fun x wr => ∃ (i : Nat) (M : List Rk), x = .int .i64 (i : Int) ∧ i ≤ m ∧ Hid (M.length = n) ∧ Hid (List.Perm l M) ∧ Hid (wr.ownsRow B3 36 3 (.slice (some ⟨g3, 0, none⟩) n p3) n (rkL M)) ∧ Hid (Below B3 w2 wr)) (fun x _ => m - (intOf x).toNat)
  case atStart => exact ⟨0, l, rfl, by omega, HNL, HP0, HO3, HB3⟩
  case round =>
    obtain ⟨i, M, rfl, hi, HML, HPM, HOM, HBM⟩ := hrel
    by_cases hgo : i < m ∧ 0 < n
    · obtain ⟨him, hn0⟩ := hgo
      have hw2 := HB2.out.size
      have HBW := hid (show Below w.heap.size w wr from HB2.out.trans (HBM.out.mono (by have h5 := HBE3.out; omega)))
      have hit : i < t.length := by have h5 := HM.out; omega
      obtain ⟨a, rfl, _, at0⟩ := (HTU.out.below HBW.out) i t[i] (List.getElem?_eq_getElem hit)
      obtain ⟨z, hz⟩ : ∃ z, z = t[i] := ⟨_, rfl⟩
      rw [← hz] at at0
      obtain ⟨y, hy⟩ : ∃ y, y = z.tmod (n : Int) := ⟨_, rfl⟩
      have hy1 : y < (n : Int) := by rw [hy]; exact Int.tmod_lt_of_pos z (by omega)
      have hy2 : -(n : Int) < y := by rw [hy]; exact Int.lt_tmod_of_pos z (by omega)
      obtain ⟨s, hs⟩ : ∃ s : Nat, (s : Int) = y + (n : Int) := ⟨(y + n).toNat, by omega⟩
      obtain ⟨k, hk⟩ : ∃ k, k = s % n := ⟨_, rfl⟩
      have hkn : k < n := by rw [hk]; exact Nat.mod_lt _ hn0
      have e1 : z.tmod (n : Int) = y := hy.symm
      have e2 : IntKind.i64.wrap y = y := by rw [IntKind.wrap_i64]; omega
      have e3 : y + (n : Int) = (s : Int) := hs.symm
      have e4 : IntKind.i64.wrap (s : Int) = (s : Int) := by rw [IntKind.wrap_i64]; omega
      have e5 : (s : Int).tmod (n : Int) = (k : Int) := by rw [Int.tmod_eq_emod_of_nonneg (by omega), hk]; omega
      have e6 : IntKind.i64.wrap (k : Int) = (k : Int) := by rw [IntKind.wrap_i64]; omega
      have nz : ¬ ((n : Int) = 0) := by omega
      have nz2 : ((n : Int) == 0) = false := by simp; omega
      have i3 : (i : Int) < (m : Int) := by omega
      have i0 : (0 : Int) ≤ (i : Int) := by omega
      have n0 : (0 : Int) < (n : Int) := by omega
      have k3 : (k : Int) < (n : Int) := by omega
      have k0 : (0 : Int) ≤ (k : Int) := by omega
      have hML := HML.out
      have hkM : k < M.length := by omega
      have h0M : 0 < M.length := by omega
      have HSW := hid (HPM.out.trans (swap_perm M k h0M hkM))
      have ck : ∀ c v, (rkc M[k])[c]? = some v → wr.cell? ⟨g3, k * 3 + c, none⟩ = some v := fun c v hv => by
        have h3 : c < 3 := (List.getElem?_eq_some_iff.1 hv).1
        rw [HOM.out.cellAt _ (by omega)]
        exact rkL_at M k c v hkM hv
      have c0 : ∀ c v, (rkc M[0])[c]? = some v → wr.cell? ⟨g3, c, none⟩ = some v := fun c v hv => by
        have h3 : c < 3 := (List.getElem?_eq_some_iff.1 hv).1
        rw [HOM.out.cellAt _ (by omega)]
        have h5 := rkL_at M 0 c v h0M hv
        rw [Nat.zero_mul, Nat.zero_add] at h5
        exact h5
      have x0 : wr.cell? ⟨g3, k * 3, none⟩ = some (.int .i32 M[k].1) := ck 0 _ rfl
      have x1 : wr.cell? ⟨g3, k * 3 + 1, none⟩ = some (.int .i32 M[k].2.1) := ck 1 _ rfl
      have x2 : wr.cell? ⟨g3, k * 3 + 2, none⟩ = some (.int .i64 M[k].2.2) := ck 2 _ rfl
      have y0 : wr.cell? ⟨g3, 0, none⟩ = some (.int .i32 M[0].1) := c0 0 _ rfl
      have y1 : wr.cell? ⟨g3, 1, none⟩ = some (.int .i32 M[0].2.1) := c0 1 _ rfl
      have y2 : wr.cell? ⟨g3, 2, none⟩ = some (.int .i64 M[0].2.2) := c0 2 _ rfl
      obtain ⟨o4, b4⟩ := own_sets (rkc M[k]) (0 * 3) (rkL M) wr HOM.out
      rw [rkL_set M 0 M[k] h0M] at o4
      obtain ⟨o5, b5⟩ := own_sets (rkc M[0]) (k * 3) _ _ o4
      rw [rkL_set (M.set 0 M[k]) k M[0] (by rw [List.length_set]; exact hkM)] at o5
      rw [Nat.zero_mul] at o4 b4 o5 b5
      have HO5 := hid o5.drew
      have HB5 := hid ((HBM.out.trans (b4.trans b5)).trans (below_drew B3 _))
      have HML5 := hid (show ((M.set 0 M[k]).set k M[0]).length = n by rw [List.length_set, List.length_set]; exact hML)
      have fz : ∀ c, wr.frozen? ⟨g3, c, none⟩ = false := fun c => HOM.out.frozenAt c
      have mixed : Try.prog.follows .mixedOrders = true := by kernel_rfl
      rcases Nat.eq_zero_or_pos k with hk0 | hk0
      · subst hk0
        obtain ⟨m0, hm0⟩ : ∃ m0, m0 = M[0] := ⟨_, rfl⟩
        rw [← hm0] at y0 y1 y2 HO5 HB5 HML5 HSW
        obtain ⟨z1, z2, zc⟩ := m0
        rw [Nat.zero_mul] at HO5 HB5
        dsimp only at y0 y1 y2
        have u0 := fz 0
        have u1 := fz 1
        have u2 := fz 2
        have e5' : (s : Int).tmod (n : Int) = 0 := by simpa using e5
        have HO6' := hid (show Hid ((((wr.setCells g3 0 [.int .i32 z1, .int .i32 z2, .int .i64 zc]).setCells g3 0 [.int .i32 z1, .int .i32 z2, .int .i64 zc]).drew).ownsRow B3 36 3 (.slice (some ⟨g3, 0, none⟩) n p3) n _) from HO5)
        have HB6' := hid (show Hid (Below B3 w2 (((wr.setCells g3 0 [.int .i32 z1, .int .i32 z2, .int .i64 zc]).setCells g3 0 [.int .i32 z1, .int .i32 z2, .int .i64 zc]).drew)) from HB5)
        obtain ⟨WX, hWX⟩ : ∃ WX, WX = ((wr.setCells g3 0 [.int .i32 z1, .int .i32 z2, .int .i64 zc]).setCells g3 0 [.int .i32 z1, .int .i32 z2, .int .i64 zc]).drew := ⟨_, rfl⟩
        rw [← hWX] at HO6' HB6'
        have HO6 := HO6'.out
        have HB6 := HB6'.out
        have HWX := hid hWX
        clear hWX HO5 HB5 HO6' HB6'
        clear ck c0 o4 o5 b4 b5 hm0 hy hz hk hs hy1 hy2 hML fz e5 e6 k3 k0 x0 x1 x2
        go_wp2_with fail
        go_region_law_o (fail)
        · rw [six_zero, ← HWX.out]
          go_wp2
          go_roundw
          case rel => exact ⟨i + 1, _, by go_num, by omega, HML5, HSW, HO6, HB6⟩
          case measure => simp [intOf]; omega
        · rw [six_zero, ← HWX.out]
          go_wp2
          go_roundw
          case rel => exact ⟨i + 1, _, by go_num, by omega, HML5, HSW, HO6, HB6⟩
          case measure => simp [intOf]; omega
      · obtain ⟨mk, hmk⟩ : ∃ mk, mk = M[k] := ⟨_, rfl⟩
        obtain ⟨m0, hm0⟩ : ∃ m0, m0 = M[0] := ⟨_, rfl⟩
        rw [← hmk] at x0 x1 x2 HO5 HB5 HML5 HSW
        rw [← hm0] at y0 y1 y2 HO5 HB5 HML5 HSW
        obtain ⟨k1, k2, kc⟩ := mk
        obtain ⟨z1, z2, zc⟩ := m0
        dsimp only at x0 x1 x2 y0 y1 y2
        have q0 : ¬ (k = 0) := by omega
        have q1 : ¬ (k * 3 = 1) := by omega
        have q2 : ¬ (k * 3 = 2) := by omega
        have u0 := fz 0
        have u1 := fz 1
        have u2 := fz 2
        have u3 := fz (k * 3)
        have u4 := fz (k * 3 + 1)
        have u5 := fz (k * 3 + 2)
        have HO6' := hid (show Hid ((((wr.setCells g3 0 [.int .i32 k1, .int .i32 k2, .int .i64 kc]).setCells g3 (k * 3) [.int .i32 z1, .int .i32 z2, .int .i64 zc]).drew).ownsRow B3 36 3 (.slice (some ⟨g3, 0, none⟩) n p3) n _) from HO5)
        have HB6' := hid (show Hid (Below B3 w2 (((wr.setCells g3 0 [.int .i32 k1, .int .i32 k2, .int .i64 kc]).setCells g3 (k * 3) [.int .i32 z1, .int .i32 z2, .int .i64 zc]).drew)) from HB5)
        obtain ⟨WX, hWX⟩ : ∃ WX, WX = ((wr.setCells g3 0 [.int .i32 k1, .int .i32 k2, .int .i64 kc]).setCells g3 (k * 3) [.int .i32 z1, .int .i32 z2, .int .i64 zc]).drew := ⟨_, rfl⟩
        rw [← hWX] at HO6' HB6'
        have HO6 := HO6'.out
        have HB6 := HB6'.out
        have HWX := hid hWX
        clear hWX HO5 HB5 HO6' HB6'
        clear ck c0 o4 o5 b4 b5 hmk hm0 hy hz hk hs hy1 hy2 hML fz
        go_wp2_with fail
        go_region_law_o (fail)
        · rw [six_cells, ← HWX.out]
          go_wp2
          go_roundw
          case rel => exact ⟨i + 1, _, by go_num, by omega, HML5, HSW, HO6, HB6⟩
          case measure => simp [intOf]; omega
        · rw [six_cells, ← HWX.out]
          go_wp2
          go_roundw
          case rel => exact ⟨i + 1, _, by go_num, by omega, HML5, HSW, HO6, HB6⟩
          case measure => simp [intOf]; omega
    · obtain ⟨hb2, hs2⟩ := bo_same HBO.out HPM.out
      obtain ⟨hic, hl4, hfl⟩ := bo_none HBO.out
      have hw2 := HB2.out.size
      have HBW := hid (show Below w.heap.size w wr from HB2.out.trans (HBM.out.mono (by have h5 := HBE3.out; omega)))
      have HT3 := hid (show TbAt w1.heap.size T F r.toNat wr from HTb.out.below (by have h5 := HBE3.out; rw [← h5]; exact HBM.out))
      have HBU2 := hid (build_any (some ⟨g3, 0, none⟩) p3 M r wr (rd_ownL HOM.out) (by have h5 := HML.out; omega))
      rw [HML.out] at HBU2
      have HB2N := hid hb2
      have HS2 := hid hs2
      have HRS := hid (srt_ris l [] 0 trivial hfl)
      have HAL := hid (show (srt [] l).length ≤ 300 by
        have h5 := (srt_perm l []).length_eq
        rw [List.nil_append, List.length_map] at h5
        have h6 := HN.out
        omega)
      obtain ⟨r0, hr0⟩ : ∃ r0 : Nat, r = (r0 : Int) := ⟨r.toNat, by unfold icl at hic; have := of_decide_eq_true hic; omega⟩
      subst hr0
      have hr1 : r0 < 256 := by unfold icl at hic; have := of_decide_eq_true hic; omega
      have hrt : ((r0 : Int)).toNat = r0 := by omega
      rw [hrt] at HT3
      have HF2 := hid HF.out
      rw [hrt] at HF2
      have HIC := hid hic
      have HC8 := hid (show ∀ c ∈ F.flatten, c < 256 by rw [HF2.out]; exact clA_256 r0 _ hr1 HRS.out)
      have HCL := hid (show F.flatten.length = 1114112 by rw [HF2.out]; exact clA_len r0 _ HRS.out)
      clear hb2 hs2 hic hl4 hfl
      have hexit : ¬ i < m ∨ (i < m ∧ n = 0) := by omega
      rcases hexit with hx | ⟨hx, hx0⟩
      · have i3 : ¬ (i : Int) < (m : Int) := by omega
        clear hgo hx
        go_wp2_with fail
        refine HBU2.out.mono ?_
        rintro e w5 ⟨b5, hc⟩
        rw [HB2N.out, HS2.out] at hc
        rcases hc with ⟨c, k, hc, _⟩ | ⟨_, T2, F2, rfl, _, hF5, _, hT5⟩
        · cases hc
        rw [hrt] at hF5 hT5
        have hFF : F2 = F := by
          obtain ⟨_, _, _, _, ho5, _⟩ := hT5
          obtain ⟨_, _, _, _, ho, _⟩ := HT3.out
          exact flat_one ho5 ho (hF5.trans HF2.out.symm)
        subst hFF
        have HB5 := hid (HBW.out.trans (b5.mono HBW.out.size))
        have HT5 := hid (HT3.out.below b5)
        have HX5 := hid hT5
        have HRA := hid (ranges_any _ T r0 F2 w5 HT5.out hr1)
        have HRI := hid (rgs_ris r0 F2.flatten HCL.out HC8.out)
        have HRL := hid (show (rgs r0 F2.flatten).length ≤ 4096 by
          have h5 := rgs_len r0 (srt [] l)
          rw [← HF2.out] at h5
          have h6 := HAL.out
          omega)
        have HBK := hid (clA_rgs r0 F2.flatten HCL.out HC8.out)
        clear b5 hF5 hT5 HBU2
        go_wp2_with fail
        refine HRA.out.mono ?_
        rintro e w6 ⟨v6, rfl, o6, b6⟩
        obtain ⟨yo, yc, rfl⟩ := own_form o6
        have HB6 := hid (HB5.out.trans (b6.mono HB5.out.size))
        have HT6 := hid (HT5.out.below b6)
        have HX6 := hid (HX5.out.below b6)
        have HRE := hid (rest_any _ T r0 F2 w6 HT6.out hr1)
        have HBU3 := hid (build_any yo yc ((rgs r0 F2.flatten).map rkT) (r0 : Int) w6 (rd_own o6) (by rw [List.length_map]; have h5 := HRL.out; omega))
        rw [List.length_map] at HBU3
        obtain ⟨rl, hrl⟩ : ∃ rl, rl = (rgs r0 F2.flatten).length := ⟨_, rfl⟩
        rw [← hrl] at HBU3 ⊢
        obtain ⟨hb3, hs3⟩ := bo_self (A := rgs r0 F2.flatten) (r := (r0 : Int)) HIC.out HRI.out HRL.out
        have HB3N := hid hb3
        have HS3 := hid hs3
        clear o6 b6 HRA hrl hb3 hs3
        go_wp2_with (first | (go_at_call 33; refine HRE.out.mono ?_; rintro e w9 ⟨rfl, h9⟩; obtain rfl := h9.symm) | fail)
        refine HBU3.out.mono ?_
        rintro e w7 ⟨b7, hc⟩
        rw [HB3N.out, HS3.out] at hc
        rcases hc with ⟨c, k, hc, _⟩ | ⟨_, T3, F3, rfl, _, hF7, _, hT7⟩
        · cases hc
        rw [hrt] at hF7 hT7
        have hFF3 : F3 = F2 := by
          obtain ⟨_, _, _, _, ho7, _⟩ := hT7
          obtain ⟨_, _, _, _, ho, _⟩ := HT6.out
          exact flat_one ho7 ho (hF7.trans HBK.out)
        subst hFF3
        have HB7 := hid (HB6.out.trans (b7.mono HB6.out.size))
        have HT7 := hid (HT6.out.below b7)
        have HX7 := hid (HX6.out.below b7)
        have HY7 := hid hT7
        have HCZ := hid (cb_zero F3.flatten)
        clear b7 hF7 hT7 HBU3 HRE
        go_wp2
        go_loopw [20, 19] (fun x y wz => ∃ c : Nat, x = .int .i64 (c : Int) ∧ y = .int .i64 ((cb c F3.flatten : Nat) : Int) ∧ c ≤ 256 ∧ Hid (Below w7.heap.size w7 wz)) (fun x _ _ => 256 - (intOf x).toNat)
        case atStart => exact ⟨0, rfl, by rw [HCZ.out]; rfl, by omega, Below.refl _ _⟩
        case round =>
          obtain ⟨c, rfl, rfl, hc, HBC⟩ := hrel
          by_cases hcl : c < 256
          · have c3 : (c : Int) ≤ 255 := by omega
            have HCN := hid (count_any _ T r0 F3 (c : Int) wr (HT7.out.below HBC.out))
            have HNX := hid (cb_next c F3.flatten)
            have HLE := hid (show cb (c + 1) F3.flatten ≤ 1114112 by rw [← HCL.out]; exact List.countP_le_length)
            obtain ⟨s1, hs1⟩ : ∃ s1, s1 = cb c F3.flatten := ⟨_, rfl⟩
            obtain ⟨s2, hs2⟩ : ∃ s2, s2 = cz (c : Int) F3.flatten := ⟨_, rfl⟩
            rw [← hs1, ← hs2] at HNX
            rw [← hs2] at HCN
            rw [← hs1]
            have hsum : s1 + s2 ≤ 1114112 := by rw [← HNX.out]; exact HLE.out
            have es : IntKind.i64.wrap ((s1 : Int) + (s2 : Int)) = (s1 : Int) + (s2 : Int) := by rw [IntKind.wrap_i64]; omega
            have HSS := hid (show ((cb (c + 1) F3.flatten : Nat) : Int) = (s1 : Int) + (s2 : Int) by rw [HNX.out]; omega)
            clear hs1 hs2
            go_wp2_with fail
            refine HCN.out.mono ?_
            rintro e w8 ⟨rfl, b8⟩
            have HB8 := hid (HBC.out.trans (b8.mono HBC.out.size))
            clear b8 HCN
            go_wp2
            go_roundw
            case rel => exact ⟨c + 1, by go_num, by rw [HSS.out], by omega, HB8⟩
            case measure => simp [intOf]; omega
          · have c3 : ¬ (c : Int) ≤ 255 := by omega
            have hce : c = 256 := by omega
            have HCA := hid (show cb c F3.flatten = 1114112 by rw [hce, cb_all _ HC8.out]; exact HCL.out)
            rw [HCA.out]
            have HTz := hid (HT7.out.below HBC.out)
            have HXz := hid (HX7.out.below HBC.out)
            have HYz := hid (HY7.out.below HBC.out)
            have HBz := hid (HB7.out.trans (HBC.out.mono HB7.out.size))
            have HE1 := hid (equal_any _ _ T T2 r0 r0 F3 F3 wr HTz.out HXz.out)
            rw [decide_eq_true (show r0 = r0 ∧ F3 = F3 from ⟨rfl, rfl⟩)] at HE1
            clear hce
            go_wp2_with (first | (go_at_call 9; refine (num_any _ _).mono ?_; rintro e w9 ⟨rfl, h9⟩; obtain rfl := h9.symm) | fail)
            refine HE1.out.mono ?_
            rintro e wa ⟨rfl, ba⟩
            have HTa := hid (HTz.out.below ba)
            have HYa := hid (HYz.out.below ba)
            have HBa := hid (HBz.out.trans (ba.mono HBz.out.size))
            have HE2 := hid (equal_any _ _ T T3 r0 r0 F3 F3 wa HTa.out HYa.out)
            rw [decide_eq_true (show r0 = r0 ∧ F3 = F3 from ⟨rfl, rfl⟩)] at HE2
            clear ba HE1
            go_wp2_with fail
            refine HE2.out.mono ?_
            rintro e wb ⟨rfl, bb⟩
            have HBb := hid (HBa.out.trans (bb.mono HBa.out.size))
            clear bb HE2
            go_wp2_with fail
            refine (live_any _).mono ?_
            rintro e wc ⟨rfl, bc⟩
            have HBc := hid (HBb.out.trans (bc.mono HBb.out.size))
            clear bc
            go_wp2
            go_ret
            exact ⟨rfl, HBc.out⟩
      · have i3 : (i : Int) < (m : Int) := by omega
        have n0 : ¬ (0 : Int) < (n : Int) := by omega
        have HX0 := hid hx0
        clear hgo hx0
        go_wp2_with fail
        refine HBU2.out.mono ?_
        rintro e w5 ⟨b5, hc⟩
        rw [HB2N.out, HS2.out] at hc
        rcases hc with ⟨c, k, hc, _⟩ | ⟨_, T2, F2, rfl, _, hF5, _, hT5⟩
        · cases hc
        rw [hrt] at hF5 hT5
        have hFF : F2 = F := by
          obtain ⟨_, _, _, _, ho5, _⟩ := hT5
          obtain ⟨_, _, _, _, ho, _⟩ := HT3.out
          exact flat_one ho5 ho (hF5.trans HF2.out.symm)
        subst hFF
        have HB5 := hid (HBW.out.trans (b5.mono HBW.out.size))
        have HT5 := hid (HT3.out.below b5)
        have HX5 := hid hT5
        have HRA := hid (ranges_any _ T r0 F2 w5 HT5.out hr1)
        have HRI := hid (rgs_ris r0 F2.flatten HCL.out HC8.out)
        have HRL := hid (show (rgs r0 F2.flatten).length ≤ 4096 by
          have h5 := rgs_len r0 (srt [] l)
          rw [← HF2.out] at h5
          have h6 := HAL.out
          omega)
        have HBK := hid (clA_rgs r0 F2.flatten HCL.out HC8.out)
        clear b5 hF5 hT5 HBU2
        go_wp2_with fail
        refine HRA.out.mono ?_
        rintro e w6 ⟨v6, rfl, o6, b6⟩
        obtain ⟨yo, yc, rfl⟩ := own_form o6
        have HB6 := hid (HB5.out.trans (b6.mono HB5.out.size))
        have HT6 := hid (HT5.out.below b6)
        have HX6 := hid (HX5.out.below b6)
        have HRE := hid (rest_any _ T r0 F2 w6 HT6.out hr1)
        have HBU3 := hid (build_any yo yc ((rgs r0 F2.flatten).map rkT) (r0 : Int) w6 (rd_own o6) (by rw [List.length_map]; have h5 := HRL.out; omega))
        rw [List.length_map] at HBU3
        obtain ⟨rl, hrl⟩ : ∃ rl, rl = (rgs r0 F2.flatten).length := ⟨_, rfl⟩
        rw [← hrl] at HBU3 ⊢
        obtain ⟨hb3, hs3⟩ := bo_self (A := rgs r0 F2.flatten) (r := (r0 : Int)) HIC.out HRI.out HRL.out
        have HB3N := hid hb3
        have HS3 := hid hs3
        clear o6 b6 HRA hrl hb3 hs3
        go_wp2_with (first | (go_at_call 33; refine HRE.out.mono ?_; rintro e w9 ⟨rfl, h9⟩; obtain rfl := h9.symm) | fail)
        refine HBU3.out.mono ?_
        rintro e w7 ⟨b7, hc⟩
        rw [HB3N.out, HS3.out] at hc
        rcases hc with ⟨c, k, hc, _⟩ | ⟨_, T3, F3, rfl, _, hF7, _, hT7⟩
        · cases hc
        rw [hrt] at hF7 hT7
        have hFF3 : F3 = F2 := by
          obtain ⟨_, _, _, _, ho7, _⟩ := hT7
          obtain ⟨_, _, _, _, ho, _⟩ := HT6.out
          exact flat_one ho7 ho (hF7.trans HBK.out)
        subst hFF3
        have HB7 := hid (HB6.out.trans (b7.mono HB6.out.size))
        have HT7 := hid (HT6.out.below b7)
        have HX7 := hid (HX6.out.below b7)
        have HY7 := hid hT7
        have HCZ := hid (cb_zero F3.flatten)
        clear b7 hF7 hT7 HBU3 HRE
        go_wp2
        go_loopw [20, 19] (fun x y wz => ∃ c : Nat, x = .int .i64 (c : Int) ∧ y = .int .i64 ((cb c F3.flatten : Nat) : Int) ∧ c ≤ 256 ∧ Hid (Below w7.heap.size w7 wz)) (fun x _ _ => 256 - (intOf x).toNat)
        case atStart => exact ⟨0, rfl, by rw [HCZ.out]; rfl, by omega, Below.refl _ _⟩
        case round =>
          obtain ⟨c, rfl, rfl, hc, HBC⟩ := hrel
          by_cases hcl : c < 256
          · have c3 : (c : Int) ≤ 255 := by omega
            have HCN := hid (count_any _ T r0 F3 (c : Int) wr (HT7.out.below HBC.out))
            have HNX := hid (cb_next c F3.flatten)
            have HLE := hid (show cb (c + 1) F3.flatten ≤ 1114112 by rw [← HCL.out]; exact List.countP_le_length)
            obtain ⟨s1, hs1⟩ : ∃ s1, s1 = cb c F3.flatten := ⟨_, rfl⟩
            obtain ⟨s2, hs2⟩ : ∃ s2, s2 = cz (c : Int) F3.flatten := ⟨_, rfl⟩
            rw [← hs1, ← hs2] at HNX
            rw [← hs2] at HCN
            rw [← hs1]
            have hsum : s1 + s2 ≤ 1114112 := by rw [← HNX.out]; exact HLE.out
            have es : IntKind.i64.wrap ((s1 : Int) + (s2 : Int)) = (s1 : Int) + (s2 : Int) := by rw [IntKind.wrap_i64]; omega
            have HSS := hid (show ((cb (c + 1) F3.flatten : Nat) : Int) = (s1 : Int) + (s2 : Int) by rw [HNX.out]; omega)
            clear hs1 hs2
            go_wp2_with fail
            refine HCN.out.mono ?_
            rintro e w8 ⟨rfl, b8⟩
            have HB8 := hid (HBC.out.trans (b8.mono HBC.out.size))
            clear b8 HCN
            go_wp2
            go_roundw
            case rel => exact ⟨c + 1, by go_num, by rw [HSS.out], by omega, HB8⟩
            case measure => simp [intOf]; omega
          · have c3 : ¬ (c : Int) ≤ 255 := by omega
            have hce : c = 256 := by omega
            have HCA := hid (show cb c F3.flatten = 1114112 by rw [hce, cb_all _ HC8.out]; exact HCL.out)
            rw [HCA.out]
            have HTz := hid (HT7.out.below HBC.out)
            have HXz := hid (HX7.out.below HBC.out)
            have HYz := hid (HY7.out.below HBC.out)
            have HBz := hid (HB7.out.trans (HBC.out.mono HB7.out.size))
            have HE1 := hid (equal_any _ _ T T2 r0 r0 F3 F3 wr HTz.out HXz.out)
            rw [decide_eq_true (show r0 = r0 ∧ F3 = F3 from ⟨rfl, rfl⟩)] at HE1
            clear hce
            go_wp2_with (first | (go_at_call 9; refine (num_any _ _).mono ?_; rintro e w9 ⟨rfl, h9⟩; obtain rfl := h9.symm) | fail)
            refine HE1.out.mono ?_
            rintro e wa ⟨rfl, ba⟩
            have HTa := hid (HTz.out.below ba)
            have HYa := hid (HYz.out.below ba)
            have HBa := hid (HBz.out.trans (ba.mono HBz.out.size))
            have HE2 := hid (equal_any _ _ T T3 r0 r0 F3 F3 wa HTa.out HYa.out)
            rw [decide_eq_true (show r0 = r0 ∧ F3 = F3 from ⟨rfl, rfl⟩)] at HE2
            clear ba HE1
            go_wp2_with fail
            refine HE2.out.mono ?_
            rintro e wb ⟨rfl, bb⟩
            have HBb := hid (HBa.out.trans (bb.mono HBa.out.size))
            clear bb HE2
            go_wp2_with fail
            refine (live_any _).mono ?_
            rintro e wc ⟨rfl, bc⟩
            have HBc := hid (HBb.out.trans (bc.mono HBb.out.size))
            clear bc
            go_wp2
            go_ret
            exact ⟨rfl, HBc.out⟩
end Go.Proofs.Ytljlhlcoaajggaa
/- The contract of asks (the statements' own): a table that tells what the document's does is found so. -/
namespace Go.Proofs.Ytljlhlcoaajggaa
open Go.RowKit

/-- Runes as they can be read. -/
def RdZ (w : World) (ao : Option Addr) (l : List Int) : Prop := ∀ (k : Nat) (z : Int), l[k]? = some z → ∃ a : Addr, ao = some a ∧ a.block < w.heap.size ∧ w.cell? (a.add k) = some (.int .i32 z)
theorem RdZ.below {w w' : World} {ao : Option Addr} {l : List Int} (h : RdZ w ao l) (hb : Below w.heap.size w w') : RdZ w' ao l := fun k c hk => by
  obtain ⟨a, h1, h2, h3⟩ := h k c hk
  exact ⟨a, h1, Nat.lt_of_lt_of_le h2 hb.size, (hb.cell (p := a.add k) (by rw [add_blk]; exact h2)).trans h3⟩
theorem RdZ.nil (w : World) (ao : Option Addr) : RdZ w ao [] := fun k z h => by simp at h
theorem TbAt.heap {B T r : Nat} {F : List (List Nat)} {w w' : World} (h : TbAt B T F r w) (e : w'.heap = w.heap) : TbAt B T F r w' := by
  obtain ⟨g, cap, hT, hr, ho, h8, hF⟩ := h
  refine ⟨g, cap, by rw [e]; exact hT, ⟨hr.1, ?_⟩, ho, h8, hF⟩
  rw [e]; exact hr.2
theorem RtAt.heap {B P r : Nat} {L : List Tr} {w w' : World} (h : RtAt B P L r w) (e : w'.heap = w.heap) : RtAt B P L r w' := by
  obtain ⟨v, h1, h2⟩ := h
  exact ⟨v, by rw [e]; exact h1, h2.1, by rw [e]; exact h2.2⟩
/-- A range of rising ranges has its class at both its ends. -/
theorem gtR_mem (r : Nat) : ∀ (A : List Tr) (b : Nat), Ris b A → ∀ g ∈ A, gtR r (g.1 : Int) A = g.2.2 ∧ gtR r (g.2.1 : Int) A = g.2.2
  | [], _, _, g, h => by cases h
  | x :: A, b, hR, g, h => by
    obtain ⟨h1, h2, h3, h4, h5⟩ := hR
    have e : ∀ z : Int, gtR r z (x :: A) = if ((x.1 : Int) ≤ z ∧ z ≤ (x.2.1 : Int)) then x.2.2 else gtR r z A := fun z => rfl
    rcases List.mem_cons.1 h with rfl | h
    · rw [e, e, if_pos (by omega), if_pos (by omega)]; exact ⟨rfl, rfl⟩
    · have ih := gtR_mem r A (x.2.1 + 1) h5 g h
      obtain ⟨k1, k2, k3, k4⟩ := ris_mem h5 g h
      rw [e, e, if_neg (by omega), if_neg (by omega)]; exact ih

set_option maxHeartbeats 6000000 in
set_option maxRecDepth 100000 in
theorem asks_any (B T r B' P : Nat) (F : List (List Nat)) (L : List Tr) (ro : Option Addr) (rc : Nat) (zs : List Int) (l : List UInt8) (w : World) (h : TbAt B T F r w) (hF : F.flatten = clA r L) (hr : r < 256) (hR : Ris 0 L) (hN : rgs r (clA r L) = L) (hP : RtAt B' P L r w) (hz : RdZ w ro zs) (hzl : zs.length ≤ 1000000000) (hl : l.length ≤ 1000000000) :
    Calls Try.prog 19 #[.pointer (some ⟨T, 0, none⟩), .pointer (some ⟨P, 0, none⟩), .slice ro zs.length rc, .string ⟨l.toArray⟩] w fun e w' => e = .returned (.bool true) ∧ Below w.heap.size w w' := by
  obtain ⟨N, hNE⟩ : ∃ N, N = w.heap.size := ⟨_, rfl⟩
  have hlen := ris_len L 0 (by omega) hR
  have HTB := hid (show ∀ W, Below N w W → TbAt B T F r W from fun W hW => h.below (by rw [← hNE]; exact hW))
  have HPB := hid (show ∀ W, Below N w W → RtAt B' P L r W from fun W hW => hP.below (by rw [← hNE]; exact hW))
  have HZB := hid (show ∀ W, Below N w W → RdZ W ro zs from fun W hW => hz.below (by rw [← hNE]; exact hW))
  obtain ⟨gz, hgz⟩ : ∃ gz : Int → Int, gz = fun z => ((gtR r z L : Nat) : Int) := ⟨_, rfl⟩
  have HG := hid (show ∀ (z : Int) (V W : World), Below N w V → W.heap = V.heap → Calls Try.prog 34 #[.pointer (some ⟨T, 0, none⟩), .int .i32 z] W fun e w' => e = .returned (.int .i64 (gz z)) ∧ ∃ n, w' = W.drewN n from fun z V W hV hW => by
    rw [hgz]; exact getZ B T r F L z W ((HTB.out V hV).heap hW) hF hr hR)
  have HH := hid (show ∀ (z : Int) (V W : World), Below N w V → W.heap = V.heap → Calls Try.prog 45 #[.pointer (some ⟨P, 0, none⟩), .int .i32 z] W fun e w' => e = .returned (.int .i64 (gz z)) ∧ w' = W from fun z V W hV hW => by
    rw [hgz]; exact rget_any B' P L r z W ((HPB.out V hV).heap hW) (by omega))
  have HGM := hid (show ∀ g ∈ L, gz (g.1 : Int) = (g.2.2 : Int) ∧ gz (g.2.1 : Int) = (g.2.2 : Int) from fun g hg => by
    obtain ⟨a, b⟩ := gtR_mem r L 0 hR g hg
    rw [hgz]; dsimp only; rw [a, b]; exact ⟨rfl, rfl⟩)
  have HRN := hid hN
  have HR := hid hR
  have HFL := hid hF
  obtain ⟨n, hn⟩ : ∃ n, n = zs.length := ⟨_, rfl⟩
  have HNZ := hid hn
  rw [← hn] at hzl ⊢
  rw [← hNE]
  have HNE := hid hNE
  have HRG := hid (show ∀ W, Below N w W → Calls Try.prog 32 #[.pointer (some ⟨T, 0, none⟩)] W fun e w' => ∃ vo vc, e = .returned (.slice vo L.length vc) ∧ w'.ownsRow W.heap.size 36 3 (.slice vo L.length vc) L.length (rks L) ∧ Below W.heap.size W w' from fun W hW => by
    refine (ranges_any B T r F W (HTB.out W hW) hr).mono ?_
    rintro e w' ⟨v', rfl, o1, b1⟩
    rw [hF, hN] at o1
    obtain ⟨vo, vc, rfl⟩ := own_form o1
    exact ⟨vo, vc, rfl, o1, b1⟩)
  have HRS := hid (show ∀ W, Below N w W → Calls Try.prog 33 #[.pointer (some ⟨T, 0, none⟩)] W fun e w' => e = .returned (.int .i64 (r : Int)) ∧ w' = W from fun W hW => rest_any B T r F W (HTB.out W hW) hr)
  have HCL := hid (show ∀ W, Below N w W → Calls Try.prog 47 #[.pointer (some ⟨T, 0, none⟩), .string ⟨l.toArray⟩] W fun e w' => ∃ v, e = .returned v ∧ w'.ownsRow W.heap.size 3 1 v (prs l).length (g64 r L (prs l)) ∧ Below W.heap.size W w' from fun W hW => classes_any B T r F L l W (HTB.out W hW) hF hr hR (by omega))
  have HRC := hid (show ∀ W, Below N w W → Calls Try.prog 48 #[.pointer (some ⟨P, 0, none⟩), .string ⟨l.toArray⟩] W fun e w' => ∃ v, e = .returned v ∧ w'.ownsRow W.heap.size 3 1 v (prs l).length (g64 r L (prs l)) ∧ Below W.heap.size W w' from fun W hW => rclasses_any B' P r L l W (HPB.out W hW) (by omega) (by omega))
  have HPL := hid (show ∀ (W1 W2 : World) (u v : Value) (B1 B2 : Nat), W1.ownsRow B1 3 1 u (prs l).length (g64 r L (prs l)) → Below W1.heap.size W1 W2 → W2.ownsRow B2 3 1 v (prs l).length (g64 r L (prs l)) → Calls Try.prog 46 #[u, v] W2 fun e w' => e = .returned (.bool true) ∧ Below W2.heap.size W2 w' from fun W1 W2 u v B1 B2 h1 h2 h3 => by
    have e1 : (prs l).length = ((prs l).map fun x => ((gtR r x.2 L : Nat) : Int)).length := by simp
    have e2 : g64 r L (prs l) = ((prs l).map fun x => ((gtR r x.2 L : Nat) : Int)).map (Value.int .i64) := by simp [g64]
    rw [e1, e2] at h1 h3
    have hpl := prs_len l
    exact places_any u v _ W2 (by simp; omega) ((Reads.of_row h1).below h2) (Reads.of_row h3))
  obtain ⟨ao, ac, d0, d1, hPs, ho⟩ := hP.row
  obtain ⟨nL, hnL⟩ : ∃ nL, nL = L.length := ⟨_, rfl⟩
  rw [← hnL] at d0 hlen HRG
  have HNL := hid hnL
  have HPC := hid (show ∀ W, Below N w W → W.cell? ⟨P, 0, none⟩ = some (.slice ao nL ac) ∧ W.cell? ⟨P, 1, none⟩ = some (.int .i64 (r : Int)) from fun W hW => ⟨(hW.cell (p := ⟨P, 0, none⟩) (by rw [hNE]; exact hPs)).trans d0, (hW.cell (p := ⟨P, 1, none⟩) (by rw [hNE]; exact hPs)).trans d1⟩)
  have HRK := hid (show ∀ W, Below N w W → RdK W ao (L.map rkT) from fun W hW => (rd_own ho).below (by rw [← hNE]; exact hW))
  have hB0 : Below N w w := by rw [hNE]; exact Below.refl _ _
  have HB00 := hid hB0
  clear h hF hR hN hP hz hgz hn hnL d0 d1 hPs ho hB0 hNE
  go_enter Try.func19, Try.ntmps19
  go_wp2
  go_loopw [9] (fun x wr => ∃ (i : Nat), x = .int .i64 (i : Int) ∧ i ≤ n ∧ Hid (Below N w wr)) (fun x _ => n - (intOf x).toNat)
  case atStart => exact ⟨0, rfl, by omega, HB00⟩
  case round =>
    obtain ⟨i, rfl, hi, HB⟩ := hrel
    by_cases hlt : i < n
    · have hiz : i < zs.length := by have h5 := HNZ.out; omega
      obtain ⟨a, rfl, ha, a0⟩ := HZB.out wr HB.out i zs[i] (List.getElem?_eq_getElem hiz)
      obtain ⟨z, hze⟩ : ∃ z, z = zs[i] := ⟨_, rfl⟩
      rw [← hze] at a0
      have i3 : (i : Int) < (n : Int) := by omega
      have i0 : (0 : Int) ≤ (i : Int) := by omega
      have HG1 := hid (fun W (hW : W.heap = wr.heap) => HG.out z wr W HB.out hW)
      have HH1 := hid (fun W (hW : W.heap = wr.heap) => HH.out z wr W HB.out hW)
      clear hze hiz
      go_wp2_with fail
      go_region_held3 (fun w' => w'.cell? (a.add i) = some (.int .i32 z)) (go_keep) (first | (go_at_call 34; refine (HG1.out _ (by rfl)).mono ?_; rintro e w5 ⟨rfl, n5, rfl⟩) | (go_at_call 45; refine (HH1.out _ (by rfl)).mono ?_; rintro e w6 ⟨rfl, hw6⟩; obtain rfl := hw6.symm))
      have HBN := hid (HB.out.trans (below_drewN N wr (1 + n5)))
      go_wp2
      go_roundw
      case rel => exact ⟨i + 1, by go_num, by omega, HBN⟩
      case measure => simp [intOf]; omega
    · have i3 : ¬ (i : Int) < (n : Int) := by omega
      go_wp2
      go_loopw [10] (fun x wr => ∃ (k : Nat), x = .int .i64 (k : Int) ∧ k ≤ nL ∧ Hid (Below N w wr)) (fun x _ => nL - (intOf x).toNat)
      case atStart => exact ⟨0, rfl, by omega, HB⟩
      case round =>
        obtain ⟨k, rfl, hk, HB2⟩ := hrel
        obtain ⟨d0, d1⟩ := HPC.out wr HB2.out
        have hwN : N ≤ wr.heap.size := by have h5 := HNE.out; have h6 := HB2.out.size; omega
        by_cases hlt2 : k < nL
        · have hkL : k < L.length := by have h5 := HNL.out; omega
          obtain ⟨a, rfl, ha, c0, c1, c2⟩ := HRK.out wr HB2.out k (rkT L[k]) (by rw [List.getElem?_map, List.getElem?_eq_getElem hkL]; rfl)
          obtain ⟨g1, g2⟩ := HGM.out L[k] (List.getElem_mem hkL)
          obtain ⟨h1, h2, h3, h4⟩ := ris_mem HR.out L[k] (List.getElem_mem hkL)
          unfold rkT at c0 c1 c2
          obtain ⟨gx, hx⟩ : ∃ gx, L[k] = gx := ⟨_, rfl⟩
          rw [hx] at c0 c1 c2 g1 g2 h1 h2 h3 h4
          obtain ⟨lo, hh, cl⟩ := gx
          dsimp only at c0 c1 c2 g1 g2 h1 h2 h3 h4
          obtain ⟨lm, hlm⟩ : ∃ lm : Int, lm = (lo : Int) - 1 := ⟨_, rfl⟩
          obtain ⟨hp, hhp⟩ : ∃ hp : Int, hp = (hh : Int) + 1 := ⟨_, rfl⟩
          have k1 : IntKind.i32.wrap ((lo : Int) - 1) = lm := by rw [IntKind.wrap_i32]; omega
          have k2 : IntKind.i32.wrap ((hh : Int) + 1) = hp := by rw [IntKind.wrap_i32]; omega
          have t1 : (gz (lo : Int) != (cl : Int)) = false := by rw [g1]; simp
          have t2 : (gz (hh : Int) != (cl : Int)) = false := by rw [g2]; simp
          have i3' : (k : Int) < (nL : Int) := by omega
          have i0' : (0 : Int) ≤ (k : Int) := by omega
          have HBV := hid (HB2.out.alloc hwN (.cells #[.int .i32 (lo : Int), .int .i32 (hh : Int), .int .i64 (cl : Int)] 36))
          have HGX := hid (heap_alloc_new wr (.cells #[.int .i32 (lo : Int), .int .i32 (hh : Int), .int .i64 (cl : Int)] 36))
          have HG2 := hid (fun z W (hW : W.heap = (wr.alloc (.cells #[.int .i32 (lo : Int), .int .i32 (hh : Int), .int .i64 (cl : Int)] 36)).heap) => HG.out z _ W HBV.out hW)
          have HH2 := hid (fun z W (hW : W.heap = (wr.alloc (.cells #[.int .i32 (lo : Int), .int .i32 (hh : Int), .int .i64 (cl : Int)] 36)).heap) => HH.out z _ W HBV.out hW)
          clear hx hkL g1 g2 hlm hhp h1
          go_wp2_with fail
          have HBQ := hid (fun q => HBV.out.trans (below_drewN N (wr.alloc (.cells #[.int .i32 (lo : Int), .int .i32 (hh : Int), .int .i64 (cl : Int)] 36)) q))
          go_region_held3 (fun w' => w'.cell? ⟨wr.heap.size, 0, none⟩ = some (.int .i32 (lo : Int)) ∧ w'.cell? ⟨wr.heap.size, 1, none⟩ = some (.int .i32 (hh : Int)) ∧ w'.cell? ⟨wr.heap.size, 2, none⟩ = some (.int .i64 (cl : Int))) (go_keep) (first | (go_at_call 34; refine (HG2.out _ _ (by rfl)).mono ?_; rintro e w5 ⟨rfl, n5, rfl⟩) | (go_at_call 45; refine (HH2.out _ _ (by rfl)).mono ?_; rintro e w6 ⟨rfl, hw6⟩; obtain rfl := hw6.symm))
          go_wp2
          go_roundw
          case rel => exact ⟨k + 1, by go_num, by omega, HBQ.out _⟩
          case measure => simp [intOf]; omega
        · have i3' : ¬ (k : Int) < (nL : Int) := by omega
          go_wp2_with fail
          refine (HRG.out wr HB2.out).mono ?_
          rintro e w1 ⟨vo, vc, rfl, o1, b1⟩
          obtain ⟨N1, hN1⟩ : ∃ N1, N1 = wr.heap.size := ⟨_, rfl⟩
          rw [← hN1] at o1 b1 hwN
          have HO1 := hid o1
          have HB1 := hid (HB2.out.trans (b1.mono hwN))
          have HRV := hid (show RdK w1 vo (L.map rkT) by have h5 := HNL.out; rw [h5] at o1; exact rd_own o1)
          have hN1s : N1 ≤ w1.heap.size := by have h5 := b1.size; omega
          have HSM := hid (show ∀ W, Below w1.heap.size w1 W → Calls Try.prog 14 #[.slice vo nL vc, .slice ao nL ac] W fun e w' => e = .returned (.bool true) ∧ Below W.heap.size W w' from fun W hW => by
            have h5 := same3_any vo ao vc ac (L.map rkT) (L.map rkT) W (HRV.out.below hW) (HRK.out W (HB1.out.trans (hW.mono (Nat.le_trans hwN hN1s)))) (by have h6 := HNL.out; rw [List.length_map]; omega)
            rw [List.length_map, ← HNL.out] at h5
            refine h5.mono ?_
            rintro e w' ⟨rfl, h6⟩
            exact ⟨by simp, h6⟩)
          have HBD := hid (show Below N w w1.drew from HB1.out.trans ⟨rfl, rfl, rfl, Nat.le_refl _, fun _ _ => rfl⟩)
          have HDD := hid (show Below w1.heap.size w1 w1.drew from ⟨rfl, rfl, rfl, Nat.le_refl _, fun _ _ => rfl⟩)
          have hNw : N ≤ w1.heap.size := Nat.le_trans hwN hN1s
          obtain ⟨e0, e1⟩ := HPC.out w1 HB1.out
          clear o1 b1 hN1 d0 d1
          go_wp2_with fail
          go_region_held3 (fun w' => w'.cell? ⟨P, 0, none⟩ = some (.slice ao nL ac) ∧ w'.cell? ⟨P, 1, none⟩ = some (.int .i64 (r : Int))) (first | exact HSS.out | exact HSC.out | exact HSD.out | exact HSP.out | go_keep) (first | (go_at_call 14; refine (HSM.out _ HDD.out).mono ?_; rintro e wS ⟨rfl, bS⟩; have HBS := hid (HBD.out.trans (bS.mono hNw)); have HDS := hid (HDD.out.trans bS); have HSS := hid (HPC.out wS HBS.out)) | (go_at_call 33; refine (HRS.out _ HBS.out).mono ?_; rintro e w9 ⟨rfl, hw9⟩; obtain rfl := hw9.symm) | (go_at_call 47; refine (HCL.out _ HBS.out).mono ?_; rintro e wC ⟨vC, rfl, oC, bC⟩; have hSs := HDS.out.size; have HBC := hid (HBS.out.trans (bC.mono (by omega))); have HDC := hid (HDS.out.trans (bC.mono hSs)); have HOC := hid oC; have HSC := hid (HPC.out wC HBC.out)) | (go_at_call 48; refine (HRC.out _ HBC.out).mono ?_; rintro e wD ⟨vD, rfl, oD, bD⟩; have hCs := HDC.out.size; have HBE := hid (HBC.out.trans (bD.mono (by omega))); have HDE := hid (HDC.out.trans (bD.mono hCs)); have HOD := hid oD; have HbD := hid bD; have HSD := hid (HPC.out wD HBE.out)) | (go_at_call 46; refine (HPL.out _ _ _ _ _ _ HOC.out HbD.out HOD.out).mono ?_; rintro e wP ⟨rfl, bP⟩; have hDs := HDE.out.size; have HBP := hid (HBE.out.trans (bP.mono (by omega))); have HDP := hid (HDE.out.trans (bP.mono hDs)); have HSP := hid (HPC.out wP HBP.out)))
          have HOP := hid (own_keep HO1.out HDP.out)
          have hN1P : N1 ≤ wP.heap.size := by have h5 := HDP.out.size; omega
          clear bS oC bC oD bD bP e0 e1 HBS HDS HSS HBC HDC HOC HSC HBE HDE HOD HbD HSD hSs hCs hDs HSM HBD HDD HRV HO1 HB1
          go_wp2
          go_loopw [13] (fun x wr => ∃ (j : Nat) (U : List Value), x = .int .i64 (j : Int) ∧ j ≤ nL ∧ Hid (wr.ownsRow N1 36 3 (.slice vo nL vc) nL U) ∧ Hid (Below N w wr)) (fun x _ => nL - (intOf x).toNat)
          case atStart => exact ⟨0, _, rfl, by omega, HOP, HBP⟩
          case round =>
            obtain ⟨j, U, rfl, hj, HOJ, HBJ⟩ := hrel
            by_cases hlt3 : j < nL
            · obtain ⟨q, cap', hve, hqB, hqw⟩ := HOJ.out.form (by omega)
              cases hve
              have hU : U.length = nL * 3 := HOJ.out.1
              have cc : ∀ c, c < 3 → ∃ u, wr.cell? ⟨q, j * 3 + c, none⟩ = some u := fun c hc => by
                rw [HOJ.out.cellAt _ (by omega)]
                exact ⟨_, List.getElem?_eq_getElem (by omega)⟩
              obtain ⟨u0, f0⟩ := cc 0 (by omega)
              obtain ⟨u1, f1⟩ := cc 1 (by omega)
              obtain ⟨u2, f2⟩ := cc 2 (by omega)
              have z0 : wr.frozen? ⟨q, j * 3, none⟩ = false := HOJ.out.frozenAt _
              have z1 : wr.frozen? ⟨q, j * 3 + 1, none⟩ = false := HOJ.out.frozenAt _
              have z2 : wr.frozen? ⟨q, j * 3 + 2, none⟩ = false := HOJ.out.frozenAt _
              have j3 : (j : Int) < (nL : Int) := by omega
              have j0 : (0 : Int) ≤ (j : Int) := by omega
              rw [Nat.add_zero] at f0
              clear cc
              have HSJ := hid (own_sets [.int .i32 0, .int .i32 0, .int .i64 99] (j * 3) U wr HOJ.out)
              have HBJ2 := hid (HBJ.out.trans (HSJ.out.2.mono hwN))
              go_wp2
              go_roundw
              case rel => exact ⟨j + 1, _, by go_num, by omega, HSJ.out.1, HBJ2⟩
              case measure => simp [intOf]; omega
            · have j3 : ¬ (j : Int) < (nL : Int) := by omega
              obtain ⟨e0, e1⟩ := HPC.out wr HBJ.out
              have HBD := hid (show Below N w wr.drew from HBJ.out.trans ⟨rfl, rfl, rfl, Nat.le_refl _, fun _ _ => rfl⟩)
              have hNr : N ≤ wr.drew.heap.size := by have h5 := HNE.out; have h6 := HBD.out.size; omega
              have HLS := hid (show ∀ (W1 : World) (vo : Option Addr) (vc B0 : Nat), W1.ownsRow B0 36 3 (.slice vo nL vc) nL (rks L) → Below N w W1 → Calls Try.prog 14 #[.slice vo nL vc, .slice ao nL ac] W1 fun e w' => e = .returned (.bool true) ∧ Below W1.heap.size W1 w' from fun W1 vo vc B0 h1 h2 => by
                rw [HNL.out] at h1
                have h5 := same3_any vo ao vc ac (L.map rkT) (L.map rkT) W1 (rd_own h1) (HRK.out W1 h2) (by have h6 := HNL.out; rw [List.length_map]; omega)
                rw [List.length_map, ← HNL.out] at h5
                refine h5.mono ?_
                rintro e w' ⟨rfl, h6⟩
                exact ⟨by simp, h6⟩)
              clear HOJ HOP
              go_wp2_with fail
              go_region_held3 (fun w' => w'.cell? ⟨P, 0, none⟩ = some (.slice ao nL ac)) (first | exact HSS.out | exact HSP.out | go_keep) (first | (go_at_call 32; refine (HRG.out _ HBD.out).mono ?_; rintro e wS ⟨vo2, vc2, rfl, oS, bS⟩; have HBS := hid (HBD.out.trans (bS.mono hNr)); have HOS := hid oS; have HSS := hid (HPC.out wS HBS.out).1) | (go_at_call 14; refine (HLS.out _ _ _ _ HOS.out HBS.out).mono ?_; rintro e wP ⟨rfl, bP⟩; have hNS : N ≤ wS.heap.size := (by have h5 := HNE.out; have h6 := HBS.out.size; omega); have HBP := hid (HBS.out.trans (bP.mono hNS)); have HSP := hid (HPC.out wP HBP.out).1))
              go_wp2
              go_ret
              exact ⟨rfl, HBP.out⟩
end Go.Proofs.Ytljlhlcoaajggaa
/- The contract of both (the statements' own): the program's table and the document's. -/
namespace Go.Proofs.Ytljlhlcoaajggaa
open Go.RowKit

/-- The program's table at T and the document's at P are the same: of the ranges L, in their normal form. -/
structure Twin (B T P r : Nat) (F : List (List Nat)) (L : List Tr) (w : World) : Prop where
  t : TbAt B T F r w
  p : RtAt B P L r w
  f : F.flatten = clA r L
  lt : r < 256
  ris : Ris 0 L
  nrm : rgs r (clA r L) = L
theorem Twin.below {B T P r : Nat} {F : List (List Nat)} {L : List Tr} {w w' : World} (h : Twin B T P r F L w) (hb : Below w.heap.size w w') : Twin B T P r F L w' := ⟨h.t.below hb, h.p.below hb, h.f, h.lt, h.ris, h.nrm⟩
theorem RtAt.mono {B B' P r : Nat} {L : List Tr} {w : World} (h : RtAt B P L r w) (hb : B' ≤ B) : RtAt B' P L r w := by
  obtain ⟨v, h1, h2⟩ := h
  exact ⟨v, h1, own_mono h2 hb⟩
theorem Twin.mono {B B' T P r : Nat} {F : List (List Nat)} {L : List Tr} {w : World} (h : Twin B T P r F L w) (hb : B' ≤ B) : Twin B' T P r F L w := ⟨h.t.mono hb, h.p.mono hb, h.f, h.lt, h.ris, h.nrm⟩
theorem icl_lt {r : Int} (h : icl r = true) : r.toNat < 256 ∧ ((r.toNat : Nat) : Int) = r := by
  unfold icl at h
  have := of_decide_eq_true h
  omega
theorem twin_of (l : List Rk) (r : Int) (hb : bo l r = none) : r.toNat < 256 ∧ Ris 0 (nrA r.toNat [] (srt [] l)) ∧ clA r.toNat (nrA r.toNat [] (srt [] l)) = clA r.toNat (srt [] l) ∧ rgs r.toNat (clA r.toNat (nrA r.toNat [] (srt [] l))) = nrA r.toNat [] (srt [] l) := by
  obtain ⟨h1, _, h2⟩ := bo_none hb
  have h3 := (icl_lt h1).1
  have h4 := srt_ris l [] 0 trivial h2
  have h5 := nrA_rgs r.toNat h3 _ h4
  have h6 := clA_len r.toNat _ h4
  have h7 := clA_256 r.toNat _ h3 h4
  have h8 := clA_rgs r.toNat _ h6 h7
  rw [h5]
  refine ⟨h3, rgs_ris _ _ h6 h7, h8, by rw [h8]⟩

theorem results_tmp4 {fn : Func} {t u v x : Tmp} (h : fn.results = #[.tmp t, .tmp u, .tmp v, .tmp x]) (tmps : Array Value) (P : Program) (w : World) :
    (results fn tmps).run P w = .ok (.tuple #[tmps.getD t undef, tmps.getD u undef, tmps.getD v undef, tmps.getD x undef]) w := by
  simp [results, h]
set_option maxHeartbeats 2000000 in
set_option maxRecDepth 100000 in
theorem both_any (ao : Option Addr) (ac : Nat) (l : List Rk) (r : Int) (w : World) (ha : RdK w ao l) (hna : ao = none → ac = 0) (hl : l.length ≤ 100000) :
    Calls Try.prog 20 #[.slice ao l.length ac, .int .i64 r] w fun e w' => Below w.heap.size w w' ∧
      ((bo l r ≠ none ∧ e = .returned (.tuple #[.pointer none, .pointer none, .bool false, .bool true])) ∨
       (bo l r = none ∧ ∃ T P F L, e = .returned (.tuple #[.pointer (some ⟨T, 0, none⟩), .pointer (some ⟨P, 0, none⟩), .bool true, .bool true]) ∧ Twin w.heap.size T P r.toNat F L w')) := by
  have HA := hid ha
  have HO := hid (own_any ao ac l w ha hna (by omega))
  obtain ⟨n, hn⟩ : ∃ n, n = l.length := ⟨_, rfl⟩
  have HN := hid hn
  rw [← hn] at HO ⊢
  clear ha hn
  go_enter Try.func20, Try.ntmps20
  go_wp2_with fail
  refine HO.out.mono ?_
  rintro e w1 ⟨g1, p1, rfl, o1, b1⟩
  have HB1 := hid b1
  have HBU := hid (build_any (some ⟨g1, 0, none⟩) p1 l r w1 (rd_ownL o1) (by have h5 := HN.out; omega))
  rw [← HN.out] at HBU
  clear o1 b1 HO
  go_wp2_with fail
  refine HBU.out.mono ?_
  rintro e w2 ⟨b2, hc⟩
  have HB2 := hid (HB1.out.trans (b2.mono HB1.out.size))
  have hs1 := HB1.out.size
  have hs2 := HB2.out.size
  have HRB := hid (rbuild_any ao ac l r w2 (HA.out.below HB2.out) (by have h5 := HN.out; omega))
  rw [← HN.out] at HRB
  clear b2 HBU
  rcases hc with ⟨c, k, hc, rfl⟩ | ⟨hbo, T, F, rfl, hTs, hF, hsl, hTb⟩
  · have HC := hid hc
    clear hc
    go_wp2_with fail
    refine HRB.out.mono ?_
    rintro e w3 ⟨b3, hd⟩
    have HB3 := hid (HB2.out.trans (b3.mono hs2))
    clear b3 HRB
    rcases hd with ⟨c', k', hc', rfl⟩ | ⟨hbo, _⟩
    · rw [HC.out] at hc'
      cases hc'
      have HNO := hid (show bo l r ≠ none by rw [HC.out]; simp)
      go_wp2_with (first | (go_at_call 9; refine (num_any _ _).mono ?_; rintro e w9 ⟨rfl, h9⟩; obtain rfl := h9.symm) | fail)
      refine bodyPost_ret (results_tmp4 rfl _ _ _) rfl ?_
      exact ⟨HB3.out, .inl ⟨HNO.out, rfl⟩⟩
    · rw [HC.out] at hbo
      cases hbo
  · have HBO := hid hbo
    have HF := hid hF
    have HTb := hid hTb
    clear hbo hF hTb
    go_wp2_with fail
    refine HRB.out.mono ?_
    rintro e w3 ⟨b3, hd⟩
    have HB3 := hid (HB2.out.trans (b3.mono hs2))
    have HT3 := hid ((HTb.out.below b3).mono hs1)
    clear b3 HRB
    rcases hd with ⟨c', k', hc', rfl⟩ | ⟨hbo, P, rfl, hPs, hPt⟩
    · rw [HBO.out] at hc'
      cases hc'
    · have HPT := hid (hPt.mono hs2)
      clear hbo hPt
      go_wp2_with (first | (go_at_call 9; refine (num_any _ _).mono ?_; rintro e w9 ⟨rfl, h9⟩; obtain rfl := h9.symm) | fail)
      refine bodyPost_ret (results_tmp4 rfl _ _ _) rfl ?_
      obtain ⟨q1, q2, q3, q4⟩ := twin_of l r HBO.out
      exact ⟨HB3.out, .inr ⟨HBO.out, T, P, F, _, rfl, HT3.out, HPT.out, by rw [q3]; exact HF.out, q1, q2, q4⟩⟩
end Go.Proofs.Ytljlhlcoaajggaa
/- The contracts of the class test in Map, of IndexFunc and ContainsFunc of numbers. -/
namespace Go.Proofs.Ytljlhlcoaajggaa
open Go.RowKit

theorem mapf_any (c : Int) (w : World) : Calls Try.prog 50 #[.int .i64 c] w fun e w' => e = .returned (.bool (!icl c)) ∧ w' = w := by
  go_enter Try.func50, Try.ntmps50
  go_wp2_with (go_at_call 35; refine (isClass_any _ _).mono ?_; rintro e w1 ⟨rfl, hw⟩; obtain rfl := hw.symm)
  go_ret
  exact ⟨rfl, rfl⟩
/-- All of them are classes. -/
def acl (E : List Int) : Prop := ∀ c ∈ E, icl c = true

set_option maxHeartbeats 1000000 in
set_option maxRecDepth 100000 in
theorem index70_any (ao : Option Addr) (ac : Nat) (E : List Int) (w : World) (ha : RdJ w ao E) (hl : E.length ≤ 1000000000) :
    Calls Try.prog 70 #[.slice ao E.length ac, .func (.func 50) #[] #[]] w fun e w' => w' = w ∧ ((¬ acl E ∧ ∃ i : Nat, i ≤ 1000000000 ∧ e = .returned (.int .i64 (i : Int))) ∨ (acl E ∧ e = .returned (.int .i64 (-1)))) := by
  have HA := hid ha
  obtain ⟨n, hn⟩ : ∃ n, n = E.length := ⟨_, rfl⟩
  rw [← hn] at hl ⊢
  have HN := hid hn
  clear ha hn
  go_enter Try.func70, Try.ntmps70
  go_wp2
  go_loopw [8] (fun x wr => ∃ (i : Nat), x = .int .i64 (i : Int) ∧ i ≤ n ∧ Hid (acl (E.take i)) ∧ Hid (wr = w)) (fun x _ => n - (intOf x).toNat)
  case atStart => exact ⟨0, rfl, by omega, fun x hx => (by simp at hx), rfl⟩
  case round =>
    obtain ⟨i, rfl, hi, HK, HWW⟩ := hrel
    obtain rfl := HWW.out.symm
    by_cases hlt : i < n
    · have hiE : i < E.length := by have h5 := HN.out; omega
      obtain ⟨a, rfl, ha, a0⟩ := HA.out i E[i] (List.getElem?_eq_getElem hiE)
      have HTK := hid (List.take_succ_eq_append_getElem hiE)
      have HME := hid (List.getElem_mem hiE)
      obtain ⟨z, hz⟩ : ∃ z, z = E[i] := ⟨_, rfl⟩
      rw [← hz] at a0 HTK HME
      have i3 : (i : Int) < (n : Int) := by omega
      have i0 : (0 : Int) ≤ (i : Int) := by omega
      have HMF := hid (mapf_any z w)
      clear hz hiE
      cases hc : icl z with
      | false =>
        rw [hc] at HMF
        have HNO := hid (show ¬ acl E from fun h => by have h5 := h z HME.out; rw [hc] at h5; cases h5)
        clear hc
        go_wp2_with fail
        refine HMF.out.mono ?_
        rintro e w2 ⟨rfl, hw⟩
        obtain rfl := hw.symm
        go_wp2
        go_ret
        exact ⟨rfl, .inl ⟨HNO.out, i, by omega, rfl⟩⟩
      | true =>
        rw [hc] at HMF
        have HK2 := hid (show acl (E.take (i + 1)) from fun x hx => by
          rw [HTK.out] at hx
          rcases List.mem_append.1 hx with hx | hx
          · exact HK.out x hx
          · simp at hx; subst hx; exact hc)
        clear hc
        go_wp2_with fail
        refine HMF.out.mono ?_
        rintro e w2 ⟨rfl, hw⟩
        obtain rfl := hw.symm
        go_wp2
        go_roundw
        case rel => exact ⟨i + 1, by go_num, by omega, HK2, by first | exact (trivial : True) | rfl⟩
        case measure => simp [intOf]; omega
    · have i3 : ¬ (i : Int) < (n : Int) := by omega
      have HE := hid (show acl E by
        have h5 := HK.out
        rw [List.take_of_length_le (by have h5 := HN.out; omega)] at h5
        exact h5)
      go_wp2
      go_ret
      exact ⟨rfl, .inr ⟨HE.out, rfl⟩⟩
theorem contains_any (ao : Option Addr) (ac : Nat) (E : List Int) (w : World) (ha : RdJ w ao E) (hl : E.length ≤ 1000000000) :
    Calls Try.prog 49 #[.slice ao E.length ac, .func (.func 50) #[] #[]] w fun e w' => w' = w ∧ ∃ d : Bool, e = .returned (.bool d) ∧ (d = false ↔ acl E) := by
  have HI := hid (index70_any ao ac E w ha hl)
  obtain ⟨n, hn⟩ : ∃ n, n = E.length := ⟨_, rfl⟩
  rw [← hn] at HI ⊢
  clear ha hl hn
  go_enter Try.func49, Try.ntmps49
  go_wp2_with fail
  refine HI.out.mono ?_
  rintro e w1 ⟨hw, hc⟩
  obtain rfl := hw.symm
  clear HI
  rcases hc with ⟨hno, i, hi, rfl⟩ | ⟨hyes, rfl⟩
  · have i0 : (0 : Int) ≤ (i : Int) := by omega
    have HNO := hid hno
    clear hno
    go_wp2
    go_ret
    exact ⟨rfl, true, rfl, ⟨fun h => (by cases h), fun h => absurd h HNO.out⟩⟩
  · have HY := hid hyes
    clear hyes
    go_wp2
    go_ret
    exact ⟨rfl, false, rfl, ⟨fun _ => HY.out, fun _ => rfl⟩⟩
end Go.Proofs.Ytljlhlcoaajggaa
/- Classes turned into others: of ranges, and number by number. -/
namespace Go.Proofs.Ytljlhlcoaajggaa

/-- A range with its class turned. -/
def mf (f : Nat → Nat) (g : Tr) : Tr := (g.1, g.2.1, f g.2.2)
theorem clq_map (r : Nat) (f : Nat → Nat) : ∀ (L : List Tr) (b : Nat), clq (f r) b (L.map (mf f)) = (clq r b L).map f
  | [], _ => rfl
  | g :: L, b => by
    have ih := clq_map r f L (g.2.1 + 1)
    show List.replicate (g.1 - b) (f r) ++ (List.replicate (g.2.1 + 1 - g.1) (f g.2.2) ++ clq (f r) (g.2.1 + 1) (L.map (mf f))) = (List.replicate (g.1 - b) r ++ (List.replicate (g.2.1 + 1 - g.1) g.2.2 ++ clq r (g.2.1 + 1) L)).map f
    rw [ih, List.map_append, List.map_append, List.map_replicate, List.map_replicate]
theorem clA_map (r : Nat) (f : Nat → Nat) (L : List Tr) : clA (f r) (L.map (mf f)) = (clA r L).map f := by
  unfold clA
  rw [clq_map, List.map_append, List.map_replicate, List.length_map]
theorem ris_map (f : Nat → Nat) : ∀ (L : List Tr) (b : Nat), Ris b L → (∀ g ∈ L, f g.2.2 < 256) → Ris b (L.map (mf f))
  | [], _, _, _ => trivial
  | g :: L, b, h, hf => by
    obtain ⟨h1, h2, h3, h4, h5⟩ := h
    exact ⟨h1, h2, h3, hf g (by simp), ris_map f L _ h5 (fun x hx => hf x (by simp [hx]))⟩
theorem mf_snoc (f : Nat → Nat) (Q : List Tr) (g : Tr) : (Q ++ [g]).map (mf f) = Q.map (mf f) ++ [mf f g] := by simp
/-- The ranges of all numbers, turned: number by number. -/
theorem clq_rl (r : Nat) (f : Nat → Nat) : ∀ (n : Nat) (C : List Nat), C.length = n → n ≤ 1114112 → (∀ c ∈ C, c < 256) → clq r 0 ((rlA 0 [] C).map (mf f)) = C.map f
  | 0, C, h, _, _ => by
    have : C = [] := List.length_eq_zero_iff.1 h
    subst this; rfl
  | n + 1, C, h, hn, hc => by
    rcases List.eq_nil_or_concat C with rfl | ⟨D, c, rfl⟩
    · simp at h
    · rw [List.concat_eq_append] at h hc ⊢
      have hD : D.length = n := by simpa using h
      have hcD : ∀ x ∈ D, x < 256 := fun x hx => hc x (by simp [hx])
      have ih := clq_rl r f n D hD (by omega) hcD
      have hr := rlA_ris n D hD (by omega) hcD
      rw [rlA_snoc, Nat.zero_add, hD, List.map_append, ← ih]
      rcases List.eq_nil_or_concat D with rfl | ⟨D', d, rfl⟩
      · have hn0 : n = 0 := by simpa using hD.symm
        subst hn0
        rfl
      · rw [List.concat_eq_append] at hr hD ih ⊢
        obtain ⟨Q, a, hQ⟩ := last_cls D' d
        rw [hQ] at hr ⊢
        have hle := ((ris_snoc Q 0 (a, D'.length, d)).1 hr.1).2
        have hD2 : D'.length + 1 = n := by simpa using hD
        have ha : a ≤ D'.length := hle.2.1
        rw [jn_snoc]
        split
        · rename_i hdc
          rw [mf_snoc, mf_snoc, clq_snoc, clq_snoc]
          show clq r 0 (Q.map (mf f)) ++ (List.replicate (a - endR 0 (Q.map (mf f))) r ++ List.replicate (n + 1 - a) (f c)) = clq r 0 (Q.map (mf f)) ++ (List.replicate (a - endR 0 (Q.map (mf f))) r ++ List.replicate (D'.length + 1 - a) (f d)) ++ [f c]
          have hdc' : d = c := hdc
          rw [hdc', hD2, show n + 1 - a = (n - a) + 1 by omega, List.replicate_succ']
          simp
        · rw [show Q ++ [(a, D'.length, d), (n, n, c)] = (Q ++ [(a, D'.length, d)]) ++ [(n, n, c)] by simp, mf_snoc, clq_snoc]
          have he : endR 0 ((Q ++ [(a, D'.length, d)]).map (mf f)) = n := by rw [mf_snoc, endR_snoc]; exact hD2
          rw [he]
          show _ ++ (List.replicate (n - n) r ++ List.replicate (n + 1 - n) (f c)) = _
          rw [Nat.sub_self, show n + 1 - n = 1 by omega]
          rfl
theorem clA_rl (r : Nat) (f : Nat → Nat) (C : List Nat) (h : C.length = 1114112) (hc : ∀ c ∈ C, c < 256) : clA r ((rlA 0 [] C).map (mf f)) = C.map f := by
  unfold clA
  rw [clq_rl r f 1114112 C h (Nat.le_refl _) hc, List.length_map, h]
  simp
theorem jn_cls (R : List Tr) (x : Tr) (c : Nat) : (∃ g ∈ jn R x, g.2.2 = c) ↔ (∃ g ∈ R, g.2.2 = c) ∨ x.2.2 = c := by
  rcases List.eq_nil_or_concat R with rfl | ⟨Q, z, rfl⟩
  · rw [jn_nil]; simp
  · rw [List.concat_eq_append, jn_snoc]
    split
    · rename_i hz
      constructor
      · rintro ⟨g, hg, rfl⟩
        rcases List.mem_append.1 hg with hg | hg
        · exact .inl ⟨g, by simp [hg], rfl⟩
        · simp at hg; subst hg; exact .inr rfl
      · rintro (⟨g, hg, rfl⟩ | rfl)
        · rcases List.mem_append.1 hg with hg | hg
          · exact ⟨g, by simp [hg], rfl⟩
          · simp at hg; subst hg; exact ⟨(g.1, x.2.1, x.2.2), by simp, hz.symm⟩
        · exact ⟨(z.1, x.2.1, x.2.2), by simp, rfl⟩
    · constructor
      · rintro ⟨g, hg, rfl⟩
        rw [show Q ++ [z, x] = (Q ++ [z]) ++ [x] by simp] at hg
        rcases List.mem_append.1 hg with hg | hg
        · exact .inl ⟨g, hg, rfl⟩
        · simp at hg; subst hg; exact .inr rfl
      · rintro (⟨g, hg, rfl⟩ | rfl)
        · exact ⟨g, by rw [show Q ++ [z, x] = (Q ++ [z]) ++ [x] by simp]; exact List.mem_append_left _ hg, rfl⟩
        · exact ⟨x, by simp, rfl⟩
theorem rl_cls (c : Nat) : ∀ (n : Nat) (C : List Nat), C.length = n → ((∃ g ∈ rlA 0 [] C, g.2.2 = c) ↔ c ∈ C)
  | 0, C, h => by
    have : C = [] := List.length_eq_zero_iff.1 h
    subst this
    simp [rlA]
  | n + 1, C, h => by
    rcases List.eq_nil_or_concat C with rfl | ⟨D, d, rfl⟩
    · simp at h
    · rw [List.concat_eq_append] at h ⊢
      have ih := rl_cls c n D (by simpa using h)
      rw [rlA_snoc, jn_cls, ih]
      simp [eq_comm]
theorem clq_cls (r : Nat) : ∀ (L : List Tr) (b : Nat), Ris b L → (∀ c ∈ clq r b L, c = r ∨ ∃ g ∈ L, g.2.2 = c) ∧ (∀ g ∈ L, g.2.2 ∈ clq r b L)
  | [], _, _ => ⟨fun c hc => (by cases hc), fun g hg => (by cases hg)⟩
  | g :: L, b, h => by
    obtain ⟨h1, h2, h3, h4, h5⟩ := h
    obtain ⟨i1, i2⟩ := clq_cls r L _ h5
    refine ⟨fun c hc => ?_, fun x hx => ?_⟩
    · unfold clq at hc
      rcases List.mem_append.1 hc with hc | hc
      · exact .inl (List.eq_of_mem_replicate hc)
      · rcases List.mem_append.1 hc with hc | hc
        · exact .inr ⟨g, by simp, (List.eq_of_mem_replicate hc).symm⟩
        · rcases i1 c hc with rfl | ⟨y, hy, rfl⟩
          · exact .inl rfl
          · exact .inr ⟨y, by simp [hy], rfl⟩
    · unfold clq
      rcases List.mem_cons.1 hx with rfl | hx
      · exact List.mem_append_right _ (List.mem_append_left _ (List.mem_replicate.2 ⟨by omega, rfl⟩))
      · exact List.mem_append_right _ (List.mem_append_right _ (i2 x hx))
/-- All ranges of all numbers have classes below n just if those of L have. -/
theorem below_cls (r n : Nat) (L : List Tr) (h : Ris 0 L) (hr : r < n) : (∀ g ∈ rlA 0 [] (clA r L), g.2.2 < n) ↔ ∀ g ∈ L, g.2.2 < n := by
  obtain ⟨i1, i2⟩ := clq_cls r L 0 h
  constructor
  · intro hh g hg
    have h5 : g.2.2 ∈ clA r L := by unfold clA; exact List.mem_append_left _ (i2 g hg)
    obtain ⟨y, hy, he⟩ := (rl_cls g.2.2 _ (clA r L) rfl).2 h5
    have := hh y hy
    omega
  · intro hh g hg
    have h5 := (rl_cls g.2.2 _ (clA r L) rfl).1 ⟨g, hg, rfl⟩
    unfold clA at h5
    rcases List.mem_append.1 h5 with h5 | h5
    · rcases i1 _ h5 with h6 | ⟨y, hy, he⟩
      · omega
      · have := hh y hy; omega
    · have := List.eq_of_mem_replicate h5; omega
end Go.Proofs.Ytljlhlcoaajggaa
/- The contract of Map (package table). -/
namespace Go.Proofs.Ytljlhlcoaajggaa
open Go.RowKit

/-- What a list of numbers says of a class. -/
def fE (E : List Int) (c : Nat) : Nat := (E.getD c 0).toNat
/-- A map may be so: all are classes, and there is one for each class of the table. -/
def mok (r : Nat) (L : List Tr) (E : List Int) : Prop := acl E ∧ r < E.length ∧ ∀ g ∈ L, g.2.2 < E.length
theorem fE_at {E : List Int} (h : acl E) {c : Nat} (hc : c < E.length) : E[c]? = some ((fE E c : Nat) : Int) ∧ fE E c < 256 := by
  have h1 := h E[c] (List.getElem_mem hc)
  have h2 : 0 ≤ E[c] ∧ E[c] ≤ 255 := by unfold icl at h1; exact of_decide_eq_true h1
  have e : fE E c = E[c].toNat := by unfold fE; rw [List.getD, List.getElem?_eq_getElem hc]; rfl
  rw [e, List.getElem?_eq_getElem hc]
  exact ⟨by congr 1; omega, by omega⟩
theorem rks_mid (P R : List Tr) (z : Tr) (j : Nat) (hj : j < 3) : (rks (P ++ z :: R))[P.length * 3 + j]? = (rkc (rkT z))[j]? := by
  have hl : (rks P).length = P.length * 3 := by
    induction P with
    | nil => rfl
    | cons g P ih => show (rkc (rkT g) ++ rks P).length = _; rw [List.length_append, ih]; simp [rkc]; omega
  rw [rks_app, List.getElem?_append_right (by omega), hl, show P.length * 3 + j - P.length * 3 = j by omega]
  show (rkc (rkT z) ++ rks R)[j]? = _
  rw [List.getElem?_append_left (by simpa [rkc] using hj)]
theorem rks_mid_set (P R : List Tr) (z : Tr) (c : Nat) : (rks (P ++ z :: R)).set (P.length * 3 + 2) (.int .i64 (c : Int)) = rks (P ++ (z.1, z.2.1, c) :: R) := by
  have hl : (rks P).length = P.length * 3 := by
    induction P with
    | nil => rfl
    | cons g P ih => show (rkc (rkT g) ++ rks P).length = _; rw [List.length_append, ih]; simp [rkc]; omega
  rw [rks_app, rks_app, List.set_append_right _ _ (by omega), hl, show P.length * 3 + 2 - P.length * 3 = 2 by omega]
  rfl
/-- The ranges, the first k of them turned. -/
def wk (f : Nat → Nat) (W : List Tr) (k : Nat) : List Tr := (W.take k).map (mf f) ++ W.drop k

set_option maxHeartbeats 4000000 in
set_option maxRecDepth 100000 in
theorem tmap_any (B T r : Nat) (F : List (List Nat)) (L : List Tr) (ao : Option Addr) (ac : Nat) (E : List Int) (w : World) (h : TbAt B T F r w) (hF : F.flatten = clA r L) (hr : r < 256) (hR : Ris 0 L) (hE : RdJ w ao E) (hl : E.length ≤ 1000000) :
    Calls Try.prog 21 #[.pointer (some ⟨T, 0, none⟩), .slice ao E.length ac] w fun e w' => Below w.heap.size w w' ∧
      ((¬ mok r L E ∧ e = .returned (.tuple #[.pointer none, .int .i64 30])) ∨
       (mok r L E ∧ ∃ T' F', e = .returned (.tuple #[.pointer (some ⟨T', 0, none⟩), .int .i64 0]) ∧ w.heap.size ≤ T' ∧ F'.flatten = (clA r L).map (fE E) ∧ TbAt w.heap.size T' F' (fE E r) w')) := by
  have d1 := h.rest_cell
  have hTl : T < w.heap.size := World.block_lt_of_cell? w _ d1
  have HC := hid (contains_any ao ac E w hE (by omega))
  have HW := hid (whole_any B T r F w h)
  rw [hF] at HW
  have HEB := hid (show ∀ W, Below w.heap.size w W → RdJ W ao E from fun W hW => hE.below hW)
  have HTC := hid (show ∀ W, Below w.heap.size w W → W.cell? ⟨T, 8705, none⟩ = some (.int .u8 (r : Int)) from fun W hW => (hW.cell (p := ⟨T, 8705, none⟩) hTl).trans d1)
  have HBC := hid (fun (hlt : r < E.length) => below_cls r E.length L hR hlt)
  have hcl := clA_len r L hR
  have hc2 := clA_256 r L hr hR
  have HCR := hid (fun f => clA_rl (fE E r) f (clA r L) hcl hc2)
  have HRI := hid (rlA_ris 1114112 (clA r L) hcl (Nat.le_refl _) hc2).1
  obtain ⟨W0, hW0⟩ : ∃ W0, W0 = rlA 0 [] (clA r L) := ⟨_, rfl⟩
  rw [← hW0] at HW HBC HCR HRI
  have hwl := ris_len W0 0 (by omega) HRI.out
  obtain ⟨nW, hnW⟩ : ∃ nW, nW = W0.length := ⟨_, rfl⟩
  rw [← hnW] at HW hwl
  have HNW := hid hnW
  obtain ⟨n, hn⟩ : ∃ n, n = E.length := ⟨_, rfl⟩
  rw [← hn] at HC HBC hl ⊢
  have HN := hid hn
  obtain ⟨N, hNE⟩ : ∃ N, N = w.heap.size := ⟨_, rfl⟩
  rw [← hNE] at HW HEB HTC ⊢
  have HNE := hid hNE
  have HB00 := hid (show Below N w w by rw [hNE]; exact Below.refl _ _)
  have er : IntKind.i64.wrap (r : Int) = (r : Int) := by rw [IntKind.wrap_i64]; omega
  clear h hF hR hE hcl hc2 hW0 hnW hn hNE
  go_enter Try.func21, Try.ntmps21
  go_wp2_with fail
  refine HC.out.mono ?_
  rintro e w1 ⟨hw, d, rfl, hd⟩
  obtain rfl := hw.symm
  cases d with
  | true =>
    have HNO := hid (show ¬ mok r L E from fun hm => by have h5 := hd.2 hm.1; cases h5)
    clear hd
    go_wp2
    go_ret2
    exact ⟨HB00.out, .inl ⟨HNO.out, rfl⟩⟩
  | false =>
    have HAC := hid (hd.1 rfl)
    clear hd
    by_cases hrn : n ≤ r
    · have hrn' : (n : Int) ≤ (r : Int) := by omega
      have HNO := hid (show ¬ mok r L E from fun hm => by have h5 := hm.2.1; have h6 := HN.out; omega)
      go_wp2
      go_ret2
      exact ⟨HB00.out, .inl ⟨HNO.out, rfl⟩⟩
    · have hrn' : ¬ (n : Int) ≤ (r : Int) := by omega
      have hrn2 : r < n := by omega
      have HBL := hid (HBC.out hrn2)
      go_wp2_with fail
      refine HW.out.mono ?_
      rintro e w1 ⟨v1, rfl, o1, b1⟩
      obtain ⟨vo, vc, rfl⟩ := own_form o1
      have HO1 := hid (show w1.ownsRow N 36 3 (.slice vo nW vc) nW (rks (wk (fE E) W0 0)) from o1)
      have HB1 := hid b1
      clear o1 b1 d1
      go_wp2
      go_loopw [27] (fun x wr => ∃ (k : Nat), x = .int .i64 (k : Int) ∧ k ≤ nW ∧ Hid (∀ g ∈ W0.take k, g.2.2 < n) ∧ Hid (wr.ownsRow N 36 3 (.slice vo nW vc) nW (rks (wk (fE E) W0 k))) ∧ Hid (Below N w wr)) (fun x _ => nW - (intOf x).toNat)
      case atStart => exact ⟨0, rfl, by omega, fun g hg => (by simp at hg), HO1, HB1⟩
      case round =>
        obtain ⟨k, rfl, hk, HCL, HO, HB⟩ := hrel
        have hwN : N ≤ wr.heap.size := by have h5 := HNE.out; have h6 := HB.out.size; omega
        by_cases hlt : k < nW
        · have hkW : k < W0.length := by have h5 := HNW.out; omega
          obtain ⟨q, cap', hve, hqB, hqw⟩ := HO.out.form (by omega)
          cases hve
          have hwk : wk (fE E) W0 k = (W0.take k).map (mf (fE E)) ++ W0[k] :: W0.drop (k + 1) := by unfold wk; rw [List.getElem_cons_drop]
          have hpl : ((W0.take k).map (mf (fE E))).length = k := by rw [List.length_map, List.length_take]; omega
          have cc : ∀ j v, j < 3 → (rkc (rkT W0[k]))[j]? = some v → wr.cell? ⟨q, k * 3 + j, none⟩ = some v := fun j v hj hv => by
            rw [HO.out.cellAt _ (by omega), hwk]
            have h5 := rks_mid ((W0.take k).map (mf (fE E))) (W0.drop (k + 1)) W0[k] j hj
            rw [hpl] at h5
            rw [h5]; exact hv
          have c0 := cc 0 _ (by omega) rfl
          have c1 := cc 1 _ (by omega) rfl
          have c2 := cc 2 _ (by omega) rfl
          have HSET := hid (show ∀ c : Nat, (rks (wk (fE E) W0 k)).set (k * 3 + 2) (.int .i64 (c : Int)) = rks ((W0.take k).map (mf (fE E)) ++ (W0[k].1, W0[k].2.1, c) :: W0.drop (k + 1)) from fun c => by
            rw [hwk]
            have h5 := rks_mid_set ((W0.take k).map (mf (fE E))) (W0.drop (k + 1)) W0[k] c
            rw [hpl] at h5
            exact h5)
          have HNX := hid (show wk (fE E) W0 (k + 1) = (W0.take k).map (mf (fE E)) ++ (W0[k].1, W0[k].2.1, fE E W0[k].2.2) :: W0.drop (k + 1) by
            unfold wk
            rw [List.take_succ_eq_append_getElem hkW, List.map_append, List.append_assoc]; rfl)
          have HTK := hid (List.take_succ_eq_append_getElem hkW)
          have HMW := hid (List.getElem_mem hkW)
          rw [Nat.add_zero] at c0
          obtain ⟨g, hg⟩ : ∃ g, g = W0[k] := ⟨_, rfl⟩
          rw [← hg] at c0 c1 c2 HSET HNX HTK HMW
          obtain ⟨lo, hh, cl⟩ := g
          have i3 : (k : Int) < (nW : Int) := by omega
          have i0 : (0 : Int) ≤ (k : Int) := by omega
          change wr.cell? ⟨q, k * 3, none⟩ = some (.int .i32 (lo : Int)) at c0
          change wr.cell? ⟨q, k * 3 + 1, none⟩ = some (.int .i32 (hh : Int)) at c1
          change wr.cell? ⟨q, k * 3 + 2, none⟩ = some (.int .i64 (cl : Int)) at c2
          dsimp only at HSET HNX
          clear hg hwk hpl cc hkW
          by_cases hcn : n ≤ cl
          · have hcn' : (n : Int) ≤ (cl : Int) := by omega
            have HNO := hid (show ¬ mok r L E from fun hm => by
              have h5 := (HBL.out.2 (by rw [HN.out]; exact hm.2.2)) _ HMW.out
              have h6 : cl < n := h5
              omega)
            have HB2 := hid (HB.out.alloc hwN (.cells #[.int .i32 (lo : Int), .int .i32 (hh : Int), .int .i64 (cl : Int)] 36))
            go_wp2
            go_ret2
            exact ⟨HB2.out, .inl ⟨HNO.out, rfl⟩⟩
          · have hcn' : ¬ (n : Int) ≤ (cl : Int) := by omega
            have hcn2 : (cl : Int) < (n : Int) := by omega
            have hcn0 : (0 : Int) ≤ (cl : Int) := by omega
            have HFE := hid (fE_at HAC.out (show cl < E.length by have h5 := HN.out; omega))
            obtain ⟨a, rfl, ha, a0⟩ := HEB.out wr HB.out cl _ HFE.out.1
            obtain ⟨y, hy⟩ : ∃ y, y = fE E cl := ⟨_, rfl⟩
            rw [← hy] at a0 HNX
            have HOA := hid ((HO.out.stored (k * 3 + 2) (.int .i64 (y : Int))).1.alloc (.cells #[.int .i32 (lo : Int), .int .i32 (hh : Int), .int .i64 (cl : Int)] 36))
            rw [HSET.out y, ← HNX.out] at HOA
            have HB2 := hid ((HB.out.setCell (p := ⟨q, k * 3 + 2, none⟩) hqB (.int .i64 (y : Int))).alloc (by rw [World.size_setCell]; exact hwN) (.cells #[.int .i32 (lo : Int), .int .i32 (hh : Int), .int .i64 (cl : Int)] 36))
            have a1 : (wr.alloc (.cells #[.int .i32 (lo : Int), .int .i32 (hh : Int), .int .i64 (cl : Int)] 36)).cell? (a.add cl) = some (.int .i64 (y : Int)) := (((Below.refl wr.heap.size wr).alloc (Nat.le_refl _) _).cell (p := a.add cl) (by rw [add_blk]; exact ha)).trans a0
            have fz : wr.frozen? ⟨q, k * 3 + 2, none⟩ = false := HO.out.frozenAt _
            have HCL2 := hid (show ∀ g ∈ W0.take (k + 1), g.2.2 < n from fun g hg => by
              rw [HTK.out] at hg
              rcases List.mem_append.1 hg with hg | hg
              · exact HCL.out g hg
              · simp at hg; subst hg; show cl < n; omega)
            clear hy
            go_wp2
            go_roundw
            case rel => exact ⟨k + 1, by go_num, by omega, HCL2, HOA, HB2⟩
            case measure => simp [intOf]; omega
        · have i3 : ¬ (k : Int) < (nW : Int) := by omega
          have hkn : W0.take k = W0 := List.take_of_length_le (by have h5 := HNW.out; omega)
          have hkd : W0.drop k = [] := List.drop_of_length_le (by have h5 := HNW.out; omega)
          have HMK := hid (show mok r L E from ⟨HAC.out, by have h5 := HN.out; omega, by
            have h5 := HCL.out
            rw [hkn] at h5
            rw [← HN.out]
            exact HBL.out.1 h5⟩)
          have ho := HO.out
          unfold wk at ho
          rw [hkn, hkd, List.append_nil] at ho
          have hfl : ∀ g ∈ W0, fE E g.2.2 < 256 := fun g hg => (fE_at HAC.out (by
            have h5 := HCL.out
            rw [hkn] at h5
            have h6 := h5 g hg
            have h7 := HN.out
            omega)).2
          obtain ⟨e1, e2⟩ := fE_at HAC.out (show r < E.length by have h5 := HN.out; omega)
          obtain ⟨a, rfl, ha, a0⟩ := HEB.out wr HB.out r _ e1
          have t0 := HTC.out wr HB.out
          have HMD := hid (made_any vo vc (W0.map (mf (fE E))) (fE E r) wr (by
            have h5 := ho
            rw [HNW.out, ← List.length_map (f := mf (fE E))] at h5
            exact rd_own h5) (by rw [List.length_map]; have h5 := HNW.out; omega) e2 (ris_map (fE E) W0 0 HRI.out hfl))
          rw [List.length_map, ← HNW.out, HCR.out] at HMD
          have r1 : (r : Int) < (n : Int) := by omega
          have r0 : (0 : Int) ≤ (r : Int) := by omega
          obtain ⟨y, hy⟩ : ∃ y, y = fE E r := ⟨_, rfl⟩
          rw [← hy] at a0 HMD
          have HYE := hid hy
          have HLM := hid (show ((clA r L).map (fE E)).length = 1114112 by rw [← HCR.out]; exact clA_len _ _ (ris_map (fE E) W0 0 HRI.out hfl))
          clear hkn hkd ho hfl e1 e2 hy
          go_wp2_with fail
          refine HMD.out.mono ?_
          rintro e w2 ⟨rfl, ⟨bv, hmk⟩, b2⟩
          obtain ⟨F', hF', hT'⟩ := tb_of_mk hmk HLM.out
          have HB2 := hid (HB.out.trans (b2.mono hwN))
          have HT2 := hid (show TbAt N wr.heap.size F' (fE E r) w2 by have h5 := hT'.mono hwN; rw [HYE.out] at h5; exact h5)
          have HF2 := hid hF'
          clear hmk b2 hF' hT' HMD
          go_wp2
          go_ret2
          exact ⟨HB2.out, .inr ⟨HMK.out, _, F', rfl, hwN, HF2.out, HT2.out⟩⟩
end Go.Proofs.Ytljlhlcoaajggaa
/- The contract of Map (package kerfref03). -/
namespace Go.Proofs.Ytljlhlcoaajggaa
open Go.RowKit

set_option maxHeartbeats 6000000 in
set_option maxRecDepth 100000 in
theorem rmap_any (B' P r : Nat) (L : List Tr) (ao : Option Addr) (ac : Nat) (E : List Int) (w : World) (h : RtAt B' P L r w) (hr : r < 256) (hR : Ris 0 L) (hE : RdJ w ao E) (hl : E.length ≤ 1000000) (hL : L.length ≤ 1000000) :
    Calls Try.prog 22 #[.pointer (some ⟨P, 0, none⟩), .slice ao E.length ac] w fun e w' => Below w.heap.size w w' ∧
      ((¬ mok r L E ∧ e = .returned (.tuple #[.pointer none, .int .i64 30])) ∨
       (mok r L E ∧ ∃ P', e = .returned (.tuple #[.pointer (some ⟨P', 0, none⟩), .int .i64 0]) ∧ w.heap.size ≤ P' ∧ RtAt w.heap.size P' (nrA (fE E r) [] (L.map (mf (fE E)))) (fE E r) w')) := by
  obtain ⟨i0, hi36, hz0, hz1, hz2⟩ := info_parts Try.info36
  obtain ⟨bo', bc, d0, d1, hPs, ho⟩ := h.row
  obtain ⟨N, hNE⟩ : ∃ N, N = w.heap.size := ⟨_, rfl⟩
  have hlen := ris_len L 0 (by omega) hR
  obtain ⟨nL, hnL⟩ : ∃ nL, nL = L.length := ⟨_, rfl⟩
  rw [← hnL] at d0 hlen hL
  have HNL := hid hnL
  have HPC := hid (show ∀ W, Below N w W → W.cell? ⟨P, 0, none⟩ = some (.slice bo' nL bc) ∧ W.cell? ⟨P, 1, none⟩ = some (.int .i64 (r : Int)) from fun W hW => ⟨(hW.cell (p := ⟨P, 0, none⟩) (by rw [hNE]; exact hPs)).trans d0, (hW.cell (p := ⟨P, 1, none⟩) (by rw [hNE]; exact hPs)).trans d1⟩)
  have HRK := hid (show ∀ W, Below N w W → RdK W bo' (L.map rkT) from fun W hW => (rd_own ho).below (by rw [← hNE]; exact hW))
  have HEB := hid (show ∀ W, Below N w W → RdJ W ao E from fun W hW => hE.below (by rw [← hNE]; exact hW))
  have HR := hid hR
  obtain ⟨n, hn⟩ : ∃ n, n = E.length := ⟨_, rfl⟩
  rw [← hn] at hl ⊢
  have HN := hid hn
  rw [← hNE]
  have HNE := hid hNE
  have HB00 := hid (show Below N w w by rw [hNE]; exact Below.refl _ _)
  clear h hR hE hn hNE hnL ho d0 d1 hPs
  go_enter Try.func22, Try.ntmps22
  go_wp2
  go_loopw [6] (fun x wr => ∃ (i : Nat), x = .int .i64 (i : Int) ∧ i ≤ n ∧ Hid (acl (E.take i)) ∧ Hid (wr = w)) (fun x _ => n - (intOf x).toNat)
  case atStart => exact ⟨0, rfl, by omega, fun x hx => (by simp at hx), rfl⟩
  case round =>
    obtain ⟨i, rfl, hi, HK, HWW⟩ := hrel
    obtain rfl := HWW.out.symm
    by_cases hlt : i < n
    · have hiE : i < E.length := by have h5 := HN.out; omega
      obtain ⟨a, rfl, ha, a0⟩ := HEB.out w HB00.out i E[i] (List.getElem?_eq_getElem hiE)
      have HTK := hid (List.take_succ_eq_append_getElem hiE)
      have HME := hid (List.getElem_mem hiE)
      obtain ⟨z, hz⟩ : ∃ z, z = E[i] := ⟨_, rfl⟩
      rw [← hz] at a0 HTK HME
      have i3 : (i : Int) < (n : Int) := by omega
      have i0' : (0 : Int) ≤ (i : Int) := by omega
      have HMF := hid (rclass_any z w)
      clear hz hiE
      cases hc : icl z with
      | false =>
        rw [hc] at HMF
        have HNO := hid (show ¬ mok r L E from fun h => by have h5 := h.1 z HME.out; rw [hc] at h5; cases h5)
        clear hc
        go_wp2_with fail
        refine HMF.out.mono ?_
        rintro e w2 ⟨rfl, hw⟩
        obtain rfl := hw.symm
        go_wp2
        go_ret2
        exact ⟨HB00.out, .inl ⟨HNO.out, rfl⟩⟩
      | true =>
        rw [hc] at HMF
        have HK2 := hid (show acl (E.take (i + 1)) from fun x hx => by
          rw [HTK.out] at hx
          rcases List.mem_append.1 hx with hx | hx
          · exact HK.out x hx
          · simp at hx; subst hx; exact hc)
        clear hc
        go_wp2_with fail
        refine HMF.out.mono ?_
        rintro e w2 ⟨rfl, hw⟩
        obtain rfl := hw.symm
        go_wp2
        go_roundw
        case rel => exact ⟨i + 1, by go_num, by omega, HK2, by first | exact (trivial : True) | rfl⟩
        case measure => simp [intOf]; omega
    · have i3 : ¬ (i : Int) < (n : Int) := by omega
      have HAC := hid (show acl E by
        have h5 := HK.out
        rw [List.take_of_length_le (by have h5 := HN.out; omega)] at h5
        exact h5)
      obtain ⟨d0, d1⟩ := HPC.out w HB00.out
      by_cases hrn : n ≤ r
      · have hrn' : (n : Int) ≤ (r : Int) := by omega
        have HNO := hid (show ¬ mok r L E from fun hm => by have h5 := hm.2.1; have h6 := HN.out; omega)
        go_wp2
        go_ret2
        exact ⟨HB00.out, .inl ⟨HNO.out, rfl⟩⟩
      · have hrn' : ¬ (n : Int) ≤ (r : Int) := by omega
        have hrn2 : r < n := by omega
        have hrn3 : (r : Int) < (n : Int) := by omega
        have hr0 : (0 : Int) ≤ (r : Int) := by omega
        have HFR := hid (fE_at HAC.out (show r < E.length by have h5 := HN.out; omega))
        clear d0 d1
        have h0 := HPC.out w HB00.out
        have d1 := h0.2
        clear h0
        go_wp2
        go_loopw [8, 7] (fun x y wr => ∃ (k : Nat) (vo : Option Addr) (vc : Nat), x = .int .i64 (k : Int) ∧ y = .slice vo k vc ∧ k ≤ nL ∧ Hid (∀ g ∈ L.take k, g.2.2 < n) ∧ Hid (wr.ownsRow N 36 3 (.slice vo k vc) k (rks ((L.take k).map (mf (fE E))))) ∧ Hid (Below N w wr)) (fun x _ _ => nL - (intOf x).toNat)
        case atStart => exact ⟨0, none, 0, rfl, rfl, by omega, fun g hg => (by simp at hg), World.ownsRow_nil w N 36 3, HB00⟩
        case round =>
          obtain ⟨k, vo, vc, rfl, rfl, hk, HCL, HO, HB⟩ := hrel
          have hwN : N ≤ wr.heap.size := by have h5 := HNE.out; have h6 := HB.out.size; omega
          clear d1
          obtain ⟨d0, d1⟩ := HPC.out wr HB.out
          by_cases hlt2 : k < nL
          · have hkL : k < L.length := by have h5 := HNL.out; omega
            obtain ⟨a, rfl, ha, c0, c1, c2⟩ := HRK.out wr HB.out k (rkT L[k]) (by rw [List.getElem?_map, List.getElem?_eq_getElem hkL]; rfl)
            have HTK := hid (List.take_succ_eq_append_getElem hkL)
            have HMW := hid (List.getElem_mem hkL)
            have HAB := hid (show ∀ W, Below N w W → W.cell? (a.add (k * 3)) = some (.int .i32 (L[k].1 : Int)) ∧ W.cell? ⟨(a.add (k * 3)).block, (a.add (k * 3)).off + 1, none⟩ = some (.int .i32 (L[k].2.1 : Int)) ∧ W.cell? ⟨(a.add (k * 3)).block, (a.add (k * 3)).off + 2, none⟩ = some (.int .i64 (L[k].2.2 : Int)) from fun W hW => by
              obtain ⟨a', ea, _, x0, x1, x2⟩ := HRK.out W hW k (rkT L[k]) (by rw [List.getElem?_map, List.getElem?_eq_getElem hkL]; rfl)
              cases ea
              exact ⟨x0, x1, x2⟩)
            unfold rkT at c0 c1 c2
            obtain ⟨g, hg⟩ : ∃ g, L[k] = g := ⟨_, rfl⟩
            rw [hg] at c0 c1 c2 HTK HMW HAB
            obtain ⟨lo, hh, cl⟩ := g
            dsimp only at c0 c1 c2 HAB
            have i3' : (k : Int) < (nL : Int) := by omega
            have i0' : (0 : Int) ≤ (k : Int) := by omega
            clear hg hkL
            by_cases hcn : n ≤ cl
            · have hcn' : (n : Int) ≤ (cl : Int) := by omega
              have HNO := hid (show ¬ mok r L E from fun hm => by
                have h5 : cl < E.length := hm.2.2 _ HMW.out
                have h6 := HN.out
                omega)
              go_wp2
              go_ret2
              exact ⟨HB.out, .inl ⟨HNO.out, rfl⟩⟩
            · have hcn' : ¬ (n : Int) ≤ (cl : Int) := by omega
              have hcn2 : (cl : Int) < (n : Int) := by omega
              have hcn0 : (0 : Int) ≤ (cl : Int) := by omega
              have HFE := hid (fE_at HAC.out (show cl < E.length by have h5 := HN.out; omega))
              obtain ⟨ae, rfl, hae, a0⟩ := HEB.out wr HB.out cl _ HFE.out.1
              have HEC := hid (show ∀ W, Below N w W → W.cell? (ae.add cl) = some (.int .i64 ((fE E cl : Nat) : Int)) from fun W hW => by
                obtain ⟨a', ea, _, x0⟩ := HEB.out W hW cl _ HFE.out.1
                cases ea
                exact x0)
              have HNX := hid (show (L.take (k + 1)).map (mf (fE E)) = (L.take k).map (mf (fE E)) ++ [(lo, hh, fE E cl)] by rw [HTK.out, List.map_append]; rfl)
              obtain ⟨y, hy⟩ : ∃ y, y = fE E cl := ⟨_, rfl⟩
              rw [← hy] at a0 HNX HEC
              have HCL2 := hid (show ∀ g ∈ L.take (k + 1), g.2.2 < n from fun g hg => by
                rw [HTK.out] at hg
                rcases List.mem_append.1 hg with hg | hg
                · exact HCL.out g hg
                · simp at hg; subst hg; show cl < n; omega)
              have HSK := hid (show ∀ V, Below N w V → (V.cell? ⟨P, 0, none⟩ = some (.slice (some a) nL bc) ∧ V.cell? (a.add (k * 3)) = some (.int .i32 (lo : Int)) ∧ V.cell? ⟨(a.add (k * 3)).block, (a.add (k * 3)).off + 1, none⟩ = some (.int .i32 (hh : Int)) ∧ V.cell? ⟨(a.add (k * 3)).block, (a.add (k * 3)).off + 2, none⟩ = some (.int .i64 (cl : Int)) ∧ V.cell? (ae.add cl) = some (.int .i64 (y : Int))) from fun V hV => by
                obtain ⟨x0, x1, x2⟩ := HAB.out V hV
                exact ⟨(HPC.out V hV).1, x0, x1, x2, HEC.out V hV⟩)
              have HBD := hid (HB.out.trans (show Below N wr wr.drew from ⟨rfl, rfl, rfl, Nat.le_refl _, fun _ _ => rfl⟩))
              have HOD := hid (show wr.drew.ownsRow N 36 3 (.slice vo k vc) k (rks ((L.take k).map (mf (fE E)))) from HO.out)
              clear hy
              go_wp2_with fail
              refine wp_region_noPanic ?_
              refine wp_region_holdG 29 (fun w' => w'.cell? ⟨P, 0, none⟩ = some (.slice (some a) nL bc) ∧ w'.cell? (a.add (k * 3)) = some (.int .i32 (lo : Int)) ∧ w'.cell? ⟨(a.add (k * 3)).block, (a.add (k * 3)).off + 1, none⟩ = some (.int .i32 (hh : Int)) ∧ w'.cell? ⟨(a.add (k * 3)).block, (a.add (k * 3)).off + 2, none⟩ = some (.int .i64 (cl : Int)) ∧ w'.cell? (ae.add cl) = some (.int .i64 (y : Int))) (fun _ => false) (by kernel_rfl) (by kernel_rfl) (by decide) (fun j hj => by cases hj) (by kernel_rfl) (fun _ _ _ _ _ h => h) (HSK.out _ HBD.out) ?_
              dsimp only [List.take, List.drop]
              iterate 5 (refine wpHold_step ?_ rfl (fun w' hS => ?_) ?_; (rotate_left; (obtain ⟨s1, s2, s3, s4, s5⟩ := hS; go_simp; with_reducible rfl); rotate_left))
              simp only [Act.put, List.setIfInBounds_toArray, List.set_cons_zero, List.set_cons_succ]
              iterate 6 (refine wpHold_step ?_ rfl (fun w' hS => ?_) ?_; (rotate_left; (obtain ⟨s1, s2, s3, s4, s5⟩ := hS; go_simp; with_reducible rfl); rotate_left))
              simp only [Act.put, List.setIfInBounds_toArray, List.set_cons_zero, List.set_cons_succ]
              iterate 6 (refine wpHold_step ?_ rfl (fun w' hS => ?_) ?_; (rotate_left; (obtain ⟨s1, s2, s3, s4, s5⟩ := hS; go_simp; with_reducible rfl); rotate_left))
              simp only [Act.put, List.setIfInBounds_toArray, List.set_cons_zero, List.set_cons_succ]
              iterate 6 (refine wpHold_step ?_ rfl (fun w' hS => ?_) ?_; (rotate_left; (obtain ⟨s1, s2, s3, s4, s5⟩ := hS; go_simp; with_reducible rfl); rotate_left))
              simp only [Act.put, List.setIfInBounds_toArray, List.set_cons_zero, List.set_cons_succ]
              iterate 6 (refine wpHold_step ?_ rfl (fun w' hS => ?_) ?_; (rotate_left; (obtain ⟨s1, s2, s3, s4, s5⟩ := hS; go_simp; with_reducible rfl); rotate_left))
              simp only [Act.put, List.setIfInBounds_toArray, List.set_cons_zero, List.set_cons_succ]
              show wpTailG _ _ _ _ _ _ _ _ _
              obtain ⟨W, hW⟩ : ∃ W, W = wr.drew := ⟨_, rfl⟩
              rw [← hW] at HBD HOD ⊢
              clear hW c0 c1 c2 d0 d1 a0 HO HB
              have hwD : N ≤ W.heap.size := by have h5 := HNE.out; have h6 := HBD.out.size; omega
              refine tailG_yes (by kernel_rfl) fun KK hKK => ?_
              go_simp
              have HBA := hid (HBD.out.alloc hwD (.cells #[.int .i32 (lo : Int), .int .i32 (hh : Int), .int .i64 (y : Int)] 36))
              refine hKK _ _ (fun _ => HSK.out _ HBA.out) ?_
              clear hKK KK
              try simp only [Act.put, List.setIfInBounds_toArray, List.set_cons_zero, List.set_cons_succ]
              refine tailG_yes (by kernel_rfl) fun KK hKK => ?_
              refine wp_append_lies _ _ _ 25 rfl N 36 i0 (.agg #[.int .i32 0, .int .i32 0, .int .i64 0]) 3 16 Try.underlying25 hi36 hz0 hz1 hz2 rfl (by decide) _ k (rks ((L.take k).map (mf (fE E)))) rfl (HOD.out.alloc _) ⟨W.heap.size, 0, none⟩ 1 1 (rkc ((lo : Int), (hh : Int), (y : Int))) rfl rfl (news_k W ((lo : Int), (hh : Int), (y : Int)) 36) (rkc_one _) (by decide) (by unfold maxLen; omega) (by omega) (by simp; omega) (W.heap.size + 1) (by simp) ?_
              intro q2 cc2 w2 o2 gr2 hl2 hlt2'
              have HB2 := hid (HBA.out.grown gr2 (by simp; omega) (fun k hk => (HOD.out.lt k hk).1))
              have HO2 := hid (show w2.ownsRow N 36 3 (.slice (some ⟨q2, 0, none⟩) (k + 1) cc2) (k + 1) (rks ((L.take (k + 1)).map (mf (fE E)))) by rw [HNX.out, show rks ((L.take k).map (mf (fE E)) ++ [(lo, hh, y)]) = rks ((L.take k).map (mf (fE E))) ++ rkc ((lo : Int), (hh : Int), (y : Int)) by simp [rks, rkT]]; exact o2)
              refine hKK _ _ (fun _ => HSK.out _ HB2.out) ?_
              clear hKK KK o2 gr2 hl2 hlt2'
              try simp only [Act.put, List.setIfInBounds_toArray, List.set_cons_zero, List.set_cons_succ]
              refine tailG_yes (by kernel_rfl) fun KK hKK => ?_
              go_simp
              refine hKK _ _ (fun _ => HSK.out _ HB2.out) ?_
              clear hKK KK
              try simp only [Act.put, List.setIfInBounds_toArray, List.set_cons_zero, List.set_cons_succ]
              refine tailG_nil (NoPanic.normal ?_)
              clear HBA HBD HOD HSK
              go_wp2
              go_roundw
              case rel => exact ⟨k + 1, some ⟨q2, 0, none⟩, cc2, by go_num, rfl, by omega, HCL2, HO2, HB2⟩
              case measure => simp [intOf]; omega
          · have i3' : ¬ (k : Int) < (nL : Int) := by omega
            have hkn : L.take k = L := List.take_of_length_le (by have h5 := HNL.out; omega)
            rw [hkn] at HCL HO
            have HMK := hid (show mok r L E from ⟨HAC.out, by have h5 := HN.out; omega, by rw [← HN.out]; exact HCL.out⟩)
            obtain ⟨ae, rfl, hae, a0⟩ := HEB.out wr HB.out r _ HFR.out.1
            have hml : k = (L.map (mf (fE E))).length := by rw [List.length_map]; have h5 := HNL.out; omega
            have hfl : ∀ g ∈ L, fE E g.2.2 < 256 := fun g hg => (fE_at HAC.out (by have h6 := HCL.out g hg; have h7 := HN.out; omega)).2
            have HNR := hid (normal_any vo vc (L.map (mf (fE E))) (fE E r) wr (by have h5 := HO.out; rw [hml] at h5; exact rd_own h5) (by rw [← hml]; omega) HFR.out.2 (ris_map (fE E) L 0 HR.out hfl))
            rw [← hml] at HNR
            obtain ⟨y, hy⟩ : ∃ y, y = fE E r := ⟨_, rfl⟩
            rw [← hy] at a0 HNR
            have HYE := hid hy
            obtain ⟨M, hM⟩ : ∃ M, M = nrA y [] (L.map (mf (fE E))) := ⟨_, rfl⟩
            rw [← hM] at HNR
            have HME := hid hM
            clear hkn hml hfl hy hM
            go_wp2_with fail
            refine HNR.out.mono ?_
            rintro e w2 ⟨v2, rfl, o2, b2⟩
            obtain ⟨vo2, vc2, rfl⟩ := own_form o2
            have HB2 := hid (HB.out.trans (b2.mono hwN))
            have hs2 : N ≤ w2.heap.size := by have h5 := HNE.out; have h6 := HB2.out.size; omega
            have HO2 := hid (own_mono o2 hwN)
            clear o2 b2 HNR
            have HB3 := hid (HB2.out.alloc hs2 (.cells #[.slice vo2 M.length vc2, .int .i64 (y : Int)] 74))
            have HRT := hid (show RtAt N w2.heap.size M y (w2.alloc (.cells #[.slice vo2 M.length vc2, .int .i64 (y : Int)] 74)) from ⟨_, heap_alloc_new w2 _, HO2.out.alloc _⟩)
            have HRV := hid (show ∀ (p : Nat) (V : World), RtAt N p M y V → RtAt N p (nrA (fE E r) [] (L.map (mf (fE E)))) (fE E r) V from fun p V h => by rw [HME.out, HYE.out] at h; exact h)
            go_wp2
            go_ret2
            exact ⟨HB3.out, .inr ⟨HMK.out, _, rfl, hs2, HRV.out _ _ HRT.out⟩⟩
end Go.Proofs.Ytljlhlcoaajggaa
/- The walk of TableMaps. -/
namespace Go.Proofs.Ytljlhlcoaajggaa
open Go.RowKit

set_option maxHeartbeats 2000000 in
set_option maxRecDepth 100000 in
theorem both2_any (ao : Option Addr) (ac : Nat) (l : List Rk) (r : Int) (w : World) (ha : RdK w ao l) (hna : ao = none → ac = 0) (hl : l.length ≤ 100000) :
    Calls Try.prog 20 #[.slice ao l.length ac, .int .i64 r] w fun e w' => Below w.heap.size w w' ∧
      ((bo l r ≠ none ∧ e = .returned (.tuple #[.pointer none, .pointer none, .bool false, .bool true])) ∨
       (bo l r = none ∧ ∃ T P F L, e = .returned (.tuple #[.pointer (some ⟨T, 0, none⟩), .pointer (some ⟨P, 0, none⟩), .bool true, .bool true]) ∧ Twin w.heap.size T P r.toNat F L w' ∧ L.length ≤ l.length)) := by
  have HA := hid ha
  have HO := hid (own_any ao ac l w ha hna (by omega))
  obtain ⟨n, hn⟩ : ∃ n, n = l.length := ⟨_, rfl⟩
  have HN := hid hn
  rw [← hn] at HO ⊢
  clear ha hn
  go_enter Try.func20, Try.ntmps20
  go_wp2_with fail
  refine HO.out.mono ?_
  rintro e w1 ⟨g1, p1, rfl, o1, b1⟩
  have HB1 := hid b1
  have HBU := hid (build_any (some ⟨g1, 0, none⟩) p1 l r w1 (rd_ownL o1) (by have h5 := HN.out; omega))
  rw [← HN.out] at HBU
  clear o1 b1 HO
  go_wp2_with fail
  refine HBU.out.mono ?_
  rintro e w2 ⟨b2, hc⟩
  have HB2 := hid (HB1.out.trans (b2.mono HB1.out.size))
  have hs1 := HB1.out.size
  have hs2 := HB2.out.size
  have HRB := hid (rbuild_any ao ac l r w2 (HA.out.below HB2.out) (by have h5 := HN.out; omega))
  rw [← HN.out] at HRB
  clear b2 HBU
  rcases hc with ⟨c, k, hc, rfl⟩ | ⟨hbo, T, F, rfl, hTs, hF, hsl, hTb⟩
  · have HC := hid hc
    clear hc
    go_wp2_with fail
    refine HRB.out.mono ?_
    rintro e w3 ⟨b3, hd⟩
    have HB3 := hid (HB2.out.trans (b3.mono hs2))
    clear b3 HRB
    rcases hd with ⟨c', k', hc', rfl⟩ | ⟨hbo, _⟩
    · rw [HC.out] at hc'
      cases hc'
      have HNO := hid (show bo l r ≠ none by rw [HC.out]; simp)
      go_wp2_with (first | (go_at_call 9; refine (num_any _ _).mono ?_; rintro e w9 ⟨rfl, h9⟩; obtain rfl := h9.symm) | fail)
      refine bodyPost_ret (results_tmp4 rfl _ _ _) rfl ?_
      exact ⟨HB3.out, .inl ⟨HNO.out, rfl⟩⟩
    · rw [HC.out] at hbo
      cases hbo
  · have HBO := hid hbo
    have HF := hid hF
    have HTb := hid hTb
    clear hbo hF hTb
    go_wp2_with fail
    refine HRB.out.mono ?_
    rintro e w3 ⟨b3, hd⟩
    have HB3 := hid (HB2.out.trans (b3.mono hs2))
    have HT3 := hid ((HTb.out.below b3).mono hs1)
    clear b3 HRB
    rcases hd with ⟨c', k', hc', rfl⟩ | ⟨hbo, P, rfl, hPs, hPt⟩
    · rw [HBO.out] at hc'
      cases hc'
    · have HPT := hid (hPt.mono hs2)
      clear hbo hPt
      go_wp2_with (first | (go_at_call 9; refine (num_any _ _).mono ?_; rintro e w9 ⟨rfl, h9⟩; obtain rfl := h9.symm) | fail)
      refine bodyPost_ret (results_tmp4 rfl _ _ _) rfl ?_
      obtain ⟨q1, q2, q3, q4⟩ := twin_of l r HBO.out
      exact ⟨HB3.out, .inr ⟨HBO.out, T, P, F, _, rfl, ⟨HT3.out, HPT.out, by rw [q3]; exact HF.out, q1, q2, q4⟩, by have h5 := nrA_len r.toNat (srt [] l) []; rw [srt_len] at h5; have h6 := HN.out; simp at h5; omega⟩⟩

theorem row_e3 (w : World) : (w.alloc (.cells #[] 3)).ownsRow w.heap.size 3 1 (.slice (some ⟨w.heap.size, 0, none⟩) 0 0) 0 [] :=
  ⟨by simp, .inr ⟨w.heap.size, 0, #[], rfl, Nat.le_refl _, heap_alloc_new w _, Nat.le_refl _, by simp [maxLen], by simp, by simp⟩⟩
def i64s (E : List Int) : List Value := E.map (Value.int .i64)
theorem i64s_one (E : List Int) : ∀ u ∈ i64s E, u.oneCell' = true := by
  intro u hu
  obtain ⟨c, _, rfl⟩ := List.mem_map.1 hu
  rfl
/-- append of numbers that came in, nil or not. -/
theorem wpList_append_ints {w : World} {ops : Array Oper} {rest : List Oper} {o : Oper} {a : Act} {Q : Exit → Act → World → Prop} (hgd : o.guard = none) (s x : Operand)
    (ho : o.op = .call { callee := .builtin .append, args := #[s, x], argTypes := #[41, 41] }) (base : Nat) (v : Value) (n : Nat) (xs : List Value) (hs : a.eval s = v) (hown : w.ownsRow base 3 1 v n xs)
    (ao : Option Addr) (cap m : Nat) (E : List Int) (hm : E.length = m) (hx : a.eval x = .slice ao m cap) (hcap : ao = none → cap = 0) (hE : RdJ w ao E)
    (h63 : n + m ≤ maxLen) (hbytes : (n + m) * 8 ≤ 140737488355328) (hbase : base ≤ w.heap.size)
    (h : ∀ v' w', w'.ownsRow base 3 1 v' (n + m) (xs ++ i64s E) → w.grownBy w' v.ownBlock → wpList Try.prog ops Q rest (a.put o.dst v') w') : wpList Try.prog ops Q (o :: rest) a w := by
  obtain ⟨i0, hi, hz0, hz1, hz2⟩ := info_parts Try.info3'
  subst hm
  cases ao with
  | none =>
    have hn : E = [] := by
      cases E with
      | nil => rfl
      | cons y ys => obtain ⟨a', h', _⟩ := hE 0 y rfl; cases h'
    subst hn
    rw [hcap rfl] at hx
    exact wpList_append_own_none hgd s x 41 ho base 3 i0 1 Try.underlying41 hi v n xs hs hown hx (h v w (by simpa [i64s] using hown) (World.grownBy.refl _ _))
  | some ad =>
    refine wpList_append_own w hgd s x 41 ho base 3 i0 (.int .i64 0) 1 8 Try.underlying41 hi hz0 hz1 hz2 rfl (by decide) v n xs hs hown ad E.length cap (i64s E) hx (by simp [i64s]) (fun j u hj => ?_) (i64s_one E) h63 hbytes hbase (fun v' w' a b _ => h v' w' a b)
    unfold i64s at hj
    rw [List.getElem?_map] at hj
    cases hk : E[j]? with
    | none => rw [hk] at hj; cases hj
    | some z =>
      rw [hk] at hj
      obtain ⟨a', h', _, h2⟩ := hE j z hk
      cases h'; cases hj
      exact h2
theorem rdj_own {B n cap : Nat} {ao : Option Addr} {E : List Int} {w : World} (h : w.ownsRow B 3 1 (.slice ao n cap) n (i64s E)) : RdJ w ao E := by
  intro k c hk
  have hn : E.length = n := by have := h.1; simp [i64s] at this; omega
  have hkl := (List.getElem?_eq_some_iff.1 hk).1
  rcases h.2 with ⟨h', h0⟩ | ⟨q, cap', cur, h', hb, hg, hnc, hcm, hcs, htk⟩
  · omega
  · simp only [Value.slice.injEq, true_and] at h'
    obtain ⟨rfl, rfl⟩ := h'
    refine ⟨_, rfl, (h.lt q rfl).2, ?_⟩
    rw [Addr.add_lit, Nat.zero_add, h.cellAt _ (by omega)]
    unfold i64s
    rw [List.getElem?_map, hk]; rfl
theorem twin_map (r : Nat) (L : List Tr) (E : List Int) (hR : Ris 0 L) (hm : mok r L E) : fE E r < 256 ∧ Ris 0 (nrA (fE E r) [] (L.map (mf (fE E)))) ∧ clA (fE E r) (nrA (fE E r) [] (L.map (mf (fE E)))) = (clA r L).map (fE E) ∧ rgs (fE E r) (clA (fE E r) (nrA (fE E r) [] (L.map (mf (fE E))))) = nrA (fE E r) [] (L.map (mf (fE E))) := by
  have h3 := (fE_at hm.1 hm.2.1).2
  have h4 := ris_map (fE E) L 0 hR (fun g hg => (fE_at hm.1 (hm.2.2 g hg)).2)
  have h5 := nrA_rgs (fE E r) h3 _ h4
  have h6 := clA_len (fE E r) _ h4
  have h7 := clA_256 (fE E r) _ h3 h4
  have h8 := clA_rgs (fE E r) _ h6 h7
  rw [h5]
  exact ⟨h3, rgs_ris _ _ h6 h7, h8.trans (clA_map r (fE E) L), by rw [h8]⟩

set_option maxHeartbeats 6000000 in
set_option maxRecDepth 100000 in
theorem maps_walk (ao to : Option Addr) (ac tc : Nat) (l : List Rk) (r : Int) (E : List Int) (w : World) (ha : RdK w ao l) (hna : ao = none → ac = 0) (hl0 : l.length ≤ 9223372036854775807) (hE : RdJ w to E) (hnt : to = none → tc = 0) (hE0 : E.length ≤ 9223372036854775807) :
    Calls Try.prog 5 #[.slice ao l.length ac, .int .i64 r, .slice to E.length tc] w fun e w' => e = .returned (.bool true) ∧ Below w.heap.size w w' := by
  have HA := hid ha
  have HE := hid hE
  obtain ⟨n, hn⟩ : ∃ n, n = l.length := ⟨_, rfl⟩
  obtain ⟨m, hm⟩ : ∃ m, m = E.length := ⟨_, rfl⟩
  have HN := hid hn
  have HM := hid hm
  rw [← hn] at hl0 ⊢
  rw [← hm] at hE0 ⊢
  clear ha hE
  by_cases c1 : 300 < n
  · have c1' : (300 : Int) < (n : Int) := by omega
    clear hn hm
    go_enter Try.func5, Try.ntmps5
    go_wp2_with fail
    refine (live_any _).mono ?_
    rintro e w1 ⟨rfl, b1⟩
    have HB1 := hid b1
    clear b1
    go_wp2
    go_ret
    exact ⟨rfl, HB1.out⟩
  by_cases c2 : 2000 < m
  · have c1' : ¬ (300 : Int) < (n : Int) := by omega
    have c2' : (2000 : Int) < (m : Int) := by omega
    clear hn hm
    go_enter Try.func5, Try.ntmps5
    go_wp2_with fail
    refine (live_any _).mono ?_
    rintro e w1 ⟨rfl, b1⟩
    have HB1 := hid b1
    clear b1
    go_wp2
    go_ret
    exact ⟨rfl, HB1.out⟩
  have c1' : ¬ (300 : Int) < (n : Int) := by omega
  have c2' : ¬ (2000 : Int) < (m : Int) := by omega
  have hn3 : n ≤ 300 := by omega
  have hm3 : m ≤ 2000 := by omega
  have HBT := hid (both2_any ao ac l r w HA.out hna (by omega))
  rw [← hn] at HBT
  have HMS := hid hm.symm
  clear hn hm
  go_enter Try.func5, Try.ntmps5
  go_wp2_with fail
  refine HBT.out.mono ?_
  rintro e w1 ⟨b1, hd⟩
  have HB1 := hid b1
  have hs1 := b1.size
  clear b1 HBT
  rcases hd with ⟨_, rfl⟩ | ⟨hbo, T, P, F, L, rfl, tw, hLl⟩
  · go_wp2_with fail
    refine (live_any _).mono ?_
    rintro e w8 ⟨rfl, b8⟩
    have HB8 := hid (HB1.out.trans (b8.mono hs1))
    clear b8
    go_wp2
    go_ret
    exact ⟨rfl, HB8.out⟩
  · have HTW := hid tw
    obtain ⟨r2, hr2⟩ : ∃ r2, r2 = r.toNat := ⟨_, rfl⟩
    rw [← hr2] at HTW
    have hb1' := (Below.refl w1.heap.size w1).alloc (Nat.le_refl _) (.cells #[] 3)
    have HBA := hid hb1'
    have HEA := hid ((HE.out.below HB1.out).below hb1')
    have HO0 := hid (row_e3 w1)
    clear tw hbo hr2 hb1'
    go_wp2_with (at_builtin; refine wpList_append_ints rfl _ _ rfl w1.heap.size (.slice (some ⟨w1.heap.size, 0, none⟩) 0 0) 0 [] rfl HO0.out to tc m E HMS.out rfl hnt HEA.out (by unfold maxLen; omega) (by omega) (by simp) ?_)
    intro v2 w2 o2 gr2
    have ho2 : w2.ownsRow w1.heap.size 3 1 v2 m (i64s E) := by simpa using o2
    have HB12 := hid (HBA.out.grown gr2 (by simp) (fun k hk => (HO0.out.lt k hk).1))
    have hs2 := HB12.out.size
    have HB2 := hid (HB1.out.trans (HB12.out.mono hs1))
    have hs02 := HB2.out.size
    obtain ⟨vo, vc, rfl⟩ := own_form ho2
    have HT2 := hid (HTW.out.below HB12.out)
    have HMP := hid (tmap_any w.heap.size T r2 F L vo vc E w2 HT2.out.t HT2.out.f HT2.out.lt HT2.out.ris (rdj_own ho2) (by have h5 := HMS.out; omega))
    rw [HMS.out] at HMP
    clear o2 gr2 ho2
    go_wp2_with fail
    refine HMP.out.mono ?_
    rintro e w3 ⟨b3, hc⟩
    have HB3 := hid (HB2.out.trans (b3.mono hs02))
    have hs3 := b3.size
    have hs03 := HB3.out.size
    have HT3 := hid (HT2.out.below b3)
    have HRM := hid (rmap_any w.heap.size P r2 L to tc E w3 HT3.out.p HT3.out.lt HT3.out.ris (HE.out.below HB3.out) (by have h5 := HMS.out; omega) (by have h5 := HN.out; omega))
    rw [HMS.out] at HRM
    clear b3 HMP
    rcases hc with ⟨hno, rfl⟩ | ⟨hyes, T', F', rfl, hTs, hF', hT'⟩
    · have HNO := hid hno
      clear hno
      go_wp2_with fail
      refine HRM.out.mono ?_
      rintro e w4 ⟨b4, hd⟩
      have HB4 := hid (HB3.out.trans (b4.mono hs03))
      have hs4 := HB4.out.size
      have HT4 := hid (HT3.out.below b4)
      clear b4 HRM
      rcases hd with ⟨_, rfl⟩ | ⟨hy, _⟩
      · have HAS := hid (asks_any w.heap.size T r2 w.heap.size P F L none 0 [] [97] w4 HT4.out.t HT4.out.f HT4.out.lt HT4.out.ris HT4.out.nrm HT4.out.p (RdZ.nil _ _) (by simp) (by simp))
        go_wp2_with (first | (go_at_call 9; refine (num_any _ _).mono ?_; rintro e w9 ⟨rfl, h9⟩; obtain rfl := h9.symm) | fail)
        refine HAS.out.mono ?_
        rintro e w5 ⟨rfl, b5⟩
        have HB5 := hid (HB4.out.trans (b5.mono hs4))
        have hs5 := HB5.out.size
        clear b5
        go_wp2_with fail
        refine (live_any _).mono ?_
        rintro e w6 ⟨rfl, b6⟩
        have HB6 := hid (HB5.out.trans (b6.mono hs5))
        clear b6
        go_wp2
        go_ret
        exact ⟨rfl, HB6.out⟩
      · exact absurd hy HNO.out
    · have HYS := hid hyes
      have HF' := hid hF'
      have HT' := hid hT'
      clear hyes hF' hT' hTs
      go_wp2_with fail
      refine HRM.out.mono ?_
      rintro e w4 ⟨b4, hd⟩
      have HB4 := hid (HB3.out.trans (b4.mono hs03))
      have hs4 := HB4.out.size
      have HT4 := hid (HT3.out.below b4)
      have HTN := hid ((HT'.out.below b4).mono hs02)
      clear b4 HRM
      rcases hd with ⟨hn', _⟩ | ⟨_, P', rfl, hPs, hPt⟩
      · exact absurd HYS.out hn'
      · obtain ⟨q1, q2, q3, q4⟩ := twin_map r2 L E HT4.out.ris HYS.out
        have HTM := hid (show Twin w.heap.size T' P' (fE E r2) F' (nrA (fE E r2) [] (L.map (mf (fE E)))) w4 from ⟨HTN.out, hPt.mono hs03, by rw [q3]; exact HF'.out, q1, q2, q4⟩)
        obtain ⟨L', hL'⟩ : ∃ L', L' = nrA (fE E r2) [] (L.map (mf (fE E))) := ⟨_, rfl⟩
        obtain ⟨y, hy⟩ : ∃ y, y = fE E r2 := ⟨_, rfl⟩
        rw [← hL', ← hy] at HTM
        have HAS1 := hid (asks_any w.heap.size T' y w.heap.size P' F' L' none 0 [] [97] w4 HTM.out.t HTM.out.f HTM.out.lt HTM.out.ris HTM.out.nrm HTM.out.p (RdZ.nil _ _) (by simp) (by simp))
        clear hPt q1 q2 q3 q4 hL' hy hPs
        go_wp2_with (first | (go_at_call 9; refine (num_any _ _).mono ?_; rintro e w9 ⟨rfl, h9⟩; obtain rfl := h9.symm) | fail)
        refine HAS1.out.mono ?_
        rintro e w5 ⟨rfl, b5⟩
        have HB5 := hid (HB4.out.trans (b5.mono hs4))
        have hs5 := HB5.out.size
        have HT5 := hid (HT4.out.below b5)
        have HAS := hid (asks_any w.heap.size T r2 w.heap.size P F L none 0 [] [97] w5 HT5.out.t HT5.out.f HT5.out.lt HT5.out.ris HT5.out.nrm HT5.out.p (RdZ.nil _ _) (by simp) (by simp))
        clear b5 HAS1
        go_wp2_with fail
        refine HAS.out.mono ?_
        rintro e w6 ⟨rfl, b6⟩
        have HB6 := hid (HB5.out.trans (b6.mono hs5))
        have hs6 := HB6.out.size
        clear b6 HAS
        go_wp2_with fail
        refine (live_any _).mono ?_
        rintro e w7 ⟨rfl, b7⟩
        have HB7 := hid (HB6.out.trans (b7.mono hs6))
        clear b7
        go_wp2
        go_ret
        exact ⟨rfl, HB7.out⟩
end Go.Proofs.Ytljlhlcoaajggaa
/- The contract of Equal (package kerfref03). -/
namespace Go.Proofs.Ytljlhlcoaajggaa
open Go.RowKit

theorem rkT_inj : ∀ {L M : List Tr}, L.map rkT = M.map rkT → L = M := by
  intro L M h
  refine (List.map_inj_right ?_).1 h
  rintro ⟨a, b, c⟩ ⟨d, e, f⟩ hx
  unfold rkT at hx
  simp only [Prod.mk.injEq] at hx
  obtain ⟨h1, h2, h3⟩ := hx
  have e1 : a = d := by omega
  have e2 : b = e := by omega
  have e3 : c = f := by omega
  subst e1; subst e2; subst e3
  rfl

set_option maxHeartbeats 6000000 in
set_option maxRecDepth 100000 in
theorem requal_any (B P C Q : Nat) (L M : List Tr) (r q : Nat) (w : World) (h : RtAt B P L r w) (k : RtAt C Q M q w) (hl : L.length ≤ 1000000000) :
    Calls Try.prog 27 #[.pointer (some ⟨P, 0, none⟩), .pointer (some ⟨Q, 0, none⟩)] w fun e w' => e = .returned (.bool (decide (r = q ∧ L = M))) ∧ Below w.heap.size w w' := by
  obtain ⟨ao, ac, d0, d1, hP, ho⟩ := h.row
  obtain ⟨bo, bc, e0, e1, hQ, ko⟩ := k.row
  have HA := hid (rd_own ho)
  have HC := hid (rd_own ko)
  have HSL := hid (show ∀ W, Below w.heap.size w W → Calls Try.prog 14 #[.slice ao L.length ac, .slice bo M.length bc] W fun e w' => e = .returned (.bool (decide (L = M))) ∧ Below w.heap.size W w' from fun W hW => by
    have h5 := same3_any ao bo ac bc (L.map rkT) (M.map rkT) W (HA.out.below hW) (HC.out.below hW) (by rw [List.length_map]; exact hl)
    rw [List.length_map, List.length_map, show decide (L.map rkT = M.map rkT) = decide (L = M) by exact decide_eq_decide.2 ⟨rkT_inj, fun h => by rw [h]⟩] at h5
    refine h5.mono ?_
    rintro e w' ⟨h6, h7⟩
    exact ⟨h6, h7.mono hW.size⟩)
  have HV := hid (show decide (r = q ∧ L = M) = (decide (r = q) && decide (L = M)) from by by_cases a : r = q <;> by_cases b : L = M <;> simp [a, b])
  obtain ⟨n, hn⟩ : ∃ n, n = L.length := ⟨_, rfl⟩
  obtain ⟨m, hm⟩ : ∃ m, m = M.length := ⟨_, rfl⟩
  rw [← hn] at d0 HSL
  rw [← hm] at e0 HSL
  obtain ⟨dl, hdl⟩ : ∃ dl, dl = decide (L = M) := ⟨_, rfl⟩
  rw [← hdl] at HSL HV
  obtain ⟨dr, hdr⟩ : ∃ dr, dr = decide (r = q) := ⟨_, rfl⟩
  rw [← hdr] at HV
  have hq : ((r : Int) == (q : Int)) = dr := by rw [hdr]; by_cases a : r = q <;> simp [a]; omega
  have HSS := hid (show w.drew.cell? ⟨P, 1, none⟩ = some (.int .i64 (r : Int)) ∧ w.drew.cell? ⟨Q, 1, none⟩ = some (.int .i64 (q : Int)) ∧ w.drew.cell? ⟨P, 0, none⟩ = some (.slice ao n ac) ∧ w.drew.cell? ⟨Q, 0, none⟩ = some (.slice bo m bc) from ⟨d1, e1, d0, e0⟩)
  have HBD := hid (show Below w.heap.size w w.drew from ⟨rfl, rfl, rfl, Nat.le_refl _, fun _ _ => rfl⟩)
  clear h k ho ko hn hm hdl hdr hl
  go_enter Try.func27, Try.ntmps27
  go_wp2_with fail
  refine wp_region_noPanic ?_
  refine wp_region_holdG 18 (fun w' => w'.cell? ⟨P, 1, none⟩ = some (.int .i64 (r : Int)) ∧ w'.cell? ⟨Q, 1, none⟩ = some (.int .i64 (q : Int)) ∧ w'.cell? ⟨P, 0, none⟩ = some (.slice ao n ac) ∧ w'.cell? ⟨Q, 0, none⟩ = some (.slice bo m bc)) (fun _ => false) (by kernel_rfl) (by kernel_rfl) (by decide) (fun j hj => by cases hj) (by kernel_rfl) (fun _ _ _ _ _ h => h) ⟨d1, e1, d0, e0⟩ ?_
  dsimp only [List.take, List.drop]
  iterate 5 (refine wpHold_step ?_ rfl (fun w' hS => ?_) ?_; (rotate_left; (obtain ⟨s1, s2, s3, s4⟩ := hS; go_simp; with_reducible rfl); rotate_left))
  simp only [Act.put, List.setIfInBounds_toArray, List.set_cons_zero, List.set_cons_succ]
  iterate 5 (refine wpHold_step ?_ rfl (fun w' hS => ?_) ?_; (rotate_left; (obtain ⟨s1, s2, s3, s4⟩ := hS; go_simp; with_reducible rfl); rotate_left))
  simp only [Act.put, List.setIfInBounds_toArray, List.set_cons_zero, List.set_cons_succ]
  cases dr with
  | false =>
    iterate 8 (refine holdG_no (by kernel_rfl) ?_)
    simp only [Act.put, List.setIfInBounds_toArray, List.set_cons_zero, List.set_cons_succ]
    show wpTailG _ _ _ _ _ _ _ _ _
    refine tailG_no (by kernel_rfl) HSS.out ?_
    simp only [Act.put, List.setIfInBounds_toArray, List.set_cons_zero, List.set_cons_succ]
    refine tailG_yes (by kernel_rfl) fun KK hKK => ?_
    go_simp
    refine hKK _ _ (fun _ => HSS.out) ?_
    clear hKK KK
    refine tailG_yes (by kernel_rfl) fun KK hKK => ?_
    go_simp
    refine hKK _ _ (fun _ => HSS.out) ?_
    clear hKK KK
    refine tailG_nil (NoPanic.normal ?_)
    go_wp2
    go_ret
    exact ⟨by rw [HV.out]; rfl, HBD.out⟩
  | true =>
    iterate 4 (refine holdG_yes ?_ (by kernel_rfl) (fun w' hS => ?_) ?_; (rotate_left; (obtain ⟨s1, s2, s3, s4⟩ := hS; go_simp; with_reducible rfl); rotate_left))
    simp only [Act.put, List.setIfInBounds_toArray, List.set_cons_zero, List.set_cons_succ]
    iterate 4 (refine holdG_yes ?_ (by kernel_rfl) (fun w' hS => ?_) ?_; (rotate_left; (obtain ⟨s1, s2, s3, s4⟩ := hS; go_simp; with_reducible rfl); rotate_left))
    simp only [Act.put, List.setIfInBounds_toArray, List.set_cons_zero, List.set_cons_succ]
    show wpTailG _ _ _ _ _ _ _ _ _
    refine tailG_yes (by kernel_rfl) fun KK hKK => ?_
    go_simp
    refine (HSL.out w.drew HBD.out).mono ?_
    rintro e w2 ⟨rfl, hb2⟩
    have hb3 : Below w.heap.size w w2 := HBD.out.trans hb2
    have HS2 := hid (show w2.cell? ⟨P, 1, none⟩ = some (.int .i64 (r : Int)) ∧ w2.cell? ⟨Q, 1, none⟩ = some (.int .i64 (q : Int)) ∧ w2.cell? ⟨P, 0, none⟩ = some (.slice ao n ac) ∧ w2.cell? ⟨Q, 0, none⟩ = some (.slice bo m bc) from ⟨(hb3.cell (p := ⟨P, 1, none⟩) hP).trans d1, (hb3.cell (p := ⟨Q, 1, none⟩) hQ).trans e1, (hb3.cell (p := ⟨P, 0, none⟩) hP).trans d0, (hb3.cell (p := ⟨Q, 0, none⟩) hQ).trans e0⟩)
    have HB3 := hid hb3
    refine hKK _ _ (fun _ => HS2.out) ?_
    clear hKK KK hb2 hb3
    refine tailG_yes (by kernel_rfl) fun KK hKK => ?_
    go_simp
    refine hKK _ _ (fun _ => HS2.out) ?_
    clear hKK KK
    refine tailG_yes (by kernel_rfl) fun KK hKK => ?_
    go_simp
    refine hKK _ _ (fun _ => HS2.out) ?_
    clear hKK KK
    refine tailG_nil (NoPanic.normal ?_)
    go_wp2
    go_ret
    exact ⟨by rw [HV.out]; rfl, HB3.out⟩
end Go.Proofs.Ytljlhlcoaajggaa
/- The walk of TablePairs. -/
namespace Go.Proofs.Ytljlhlcoaajggaa
open Go.RowKit

theorem tb_ok {B T r : Nat} {F : List (List Nat)} {w : World} (h : TbAt B T F r w) : ok128 F := by
  obtain ⟨g, cap, _, _, h1, _, _⟩ := h
  exact h1
/-- The program's tables are equal just if the document's are. -/
theorem twin_eqs {B T P r B' T' P' q : Nat} {F G : List (List Nat)} {L M : List Tr} {w w' : World} (h : Twin B T P r F L w) (k : Twin B' T' P' q G M w') : decide (r = q ∧ F = G) = decide (r = q ∧ L = M) := by
  apply decide_eq_decide.2
  constructor
  · rintro ⟨rfl, rfl⟩
    have e : clA r L = clA r M := h.f.symm.trans k.f
    exact ⟨rfl, h.nrm.symm.trans ((congrArg (rgs r) e).trans k.nrm)⟩
  · rintro ⟨rfl, rfl⟩
    exact ⟨rfl, flat_inj _ _ (tb_ok h.t) (tb_ok k.t) (h.f.trans k.f.symm)⟩
theorem twin_pair (c : Nat) (Z : List Tr) (h3 : c < 256) (h4 : Ris 0 Z) : Ris 0 (nrA c [] Z) ∧ clA c (nrA c [] Z) = clA c Z ∧ rgs c (clA c (nrA c [] Z)) = nrA c [] Z := by
  have h5 := nrA_rgs c h3 _ h4
  have h6 := clA_len c _ h4
  have h7 := clA_256 c _ h3 h4
  have h8 := clA_rgs c _ h6 h7
  rw [h5]
  exact ⟨rgs_ris _ _ h6 h7, h8, by rw [h8]⟩
theorem twin_whole {B T P r : Nat} {F : List (List Nat)} {L : List Tr} {w : World} (h : Twin B T P r F L w) : rlA 0 [] F.flatten = alA r L := by
  rw [h.f]
  exact alA_whole r h.lt L h.ris (by have h5 := rgs_nr r h.lt (clA r L) (clA_len r L h.ris) (clA_256 r L h.lt h.ris); rw [h.nrm] at h5; exact h5)

set_option maxHeartbeats 12000000 in
set_option maxRecDepth 100000 in
theorem pairs_walk (ao bo : Option Addr) (ac bc : Nat) (l k : List Rk) (r q : Int) (w : World) (ha : RdK w ao l) (hna : ao = none → ac = 0) (hl0 : l.length ≤ 9223372036854775807) (hb : RdK w bo k) (hnb : bo = none → bc = 0) (hk0 : k.length ≤ 9223372036854775807) :
    Calls Try.prog 6 #[.slice ao l.length ac, .int .i64 r, .slice bo k.length bc, .int .i64 q] w fun e w' => e = .returned (.bool true) ∧ Below w.heap.size w w' := by
  have HA := hid ha
  have HK := hid hb
  obtain ⟨n, hn⟩ : ∃ n, n = l.length := ⟨_, rfl⟩
  obtain ⟨m, hm⟩ : ∃ m, m = k.length := ⟨_, rfl⟩
  have HN := hid hn
  have HM := hid hm
  rw [← hn] at hl0 ⊢
  rw [← hm] at hk0 ⊢
  clear ha hb
  by_cases c1 : 300 < n
  · have c1' : (300 : Int) < (n : Int) := by omega
    clear hn hm
    go_enter Try.func6, Try.ntmps6
    go_wp2_with fail
    refine (live_any _).mono ?_
    rintro e w1 ⟨rfl, b1⟩
    have HB1 := hid b1
    clear b1
    go_wp2
    go_ret
    exact ⟨rfl, HB1.out⟩
  by_cases c2 : 300 < m
  · have c1' : ¬ (300 : Int) < (n : Int) := by omega
    have c2' : (300 : Int) < (m : Int) := by omega
    clear hn hm
    go_enter Try.func6, Try.ntmps6
    go_wp2_with fail
    refine (live_any _).mono ?_
    rintro e w1 ⟨rfl, b1⟩
    have HB1 := hid b1
    clear b1
    go_wp2
    go_ret
    exact ⟨rfl, HB1.out⟩
  have c1' : ¬ (300 : Int) < (n : Int) := by omega
  have c2' : ¬ (300 : Int) < (m : Int) := by omega
  have hn3 : n ≤ 300 := by omega
  have hm3 : m ≤ 300 := by omega
  have HBT := hid (both2_any ao ac l r w HA.out hna (by omega))
  rw [← hn] at HBT
  have HBU := hid (show ∀ W, Below w.heap.size w W → Calls Try.prog 20 #[.slice bo m bc, .int .i64 q] W fun e w' => Below W.heap.size W w' ∧
      ((Go.Proofs.Ytljlhlcoaajggaa.bo k q ≠ none ∧ e = .returned (.tuple #[.pointer none, .pointer none, .bool false, .bool true])) ∨
       (Go.Proofs.Ytljlhlcoaajggaa.bo k q = none ∧ ∃ T P F L, e = .returned (.tuple #[.pointer (some ⟨T, 0, none⟩), .pointer (some ⟨P, 0, none⟩), .bool true, .bool true]) ∧ Twin W.heap.size T P q.toNat F L w' ∧ L.length ≤ m)) from fun W hW => by
    have h5 := both2_any bo bc k q W (HK.out.below hW) hnb (by omega)
    rw [← hm] at h5
    exact h5)
  clear hn hm c1 c2 hl0 hk0
  go_enter Try.func6, Try.ntmps6
  go_wp2_with fail
  refine HBT.out.mono ?_
  rintro e w1 ⟨b1, hd⟩
  have HB1 := hid b1
  have hs1 := b1.size
  clear b1 HBT
  rcases hd with ⟨_, rfl⟩ | ⟨_, T1, P1, F, L, rfl, tw, hLl⟩
  · go_wp2_with fail
    refine (HBU.out w1 HB1.out).mono ?_
    rintro e w2 ⟨b2, hd⟩
    have HB2 := hid (HB1.out.trans (b2.mono hs1))
    have hs2 := HB2.out.size
    clear b2 HBU
    rcases hd with ⟨_, rfl⟩ | ⟨_, T2, P2, G, M, rfl, _, _⟩
    · go_wp2_with fail
      refine (live_any _).mono ?_
      rintro e w8 ⟨rfl, b8⟩
      have HB8 := hid (HB2.out.trans (b8.mono hs2))
      clear b8
      go_wp2
      go_ret
      exact ⟨rfl, HB8.out⟩
    · go_wp2_with fail
      refine (live_any _).mono ?_
      rintro e w8 ⟨rfl, b8⟩
      have HB8 := hid (HB2.out.trans (b8.mono hs2))
      clear b8
      go_wp2
      go_ret
      exact ⟨rfl, HB8.out⟩
  · have HTW := hid tw
    obtain ⟨r2, hr2⟩ : ∃ r2, r2 = r.toNat := ⟨_, rfl⟩
    rw [← hr2] at HTW
    clear tw hr2
    go_wp2_with fail
    refine (HBU.out w1 HB1.out).mono ?_
    rintro e w2 ⟨b2, hd⟩
    have HB2 := hid (HB1.out.trans (b2.mono hs1))
    have HTA := hid (HTW.out.below b2)
    have hs2 := HB2.out.size
    clear b2 HBU
    rcases hd with ⟨_, rfl⟩ | ⟨_, T2, P2, G, M, rfl, tu, hMl⟩
    · go_wp2_with fail
      refine (live_any _).mono ?_
      rintro e w8 ⟨rfl, b8⟩
      have HB8 := hid (HB2.out.trans (b8.mono hs2))
      clear b8
      go_wp2
      go_ret
      exact ⟨rfl, HB8.out⟩
    · have HTB := hid (tu.mono hs1)
      obtain ⟨q2, hq2⟩ : ∃ q2, q2 = q.toNat := ⟨_, rfl⟩
      rw [← hq2] at HTB
      clear tu hq2
      have HCA := hid (alA_con r2 HTA.out.lt L HTA.out.ris)
      have HCD := hid (alA_con q2 HTB.out.lt M HTB.out.ris)
      have HPR := hid (tpair_any w.heap.size T1 w.heap.size T2 F G r2 q2 w2 HTA.out.t HTB.out.t HTA.out.lt HTB.out.lt (alA r2 L) (alA q2 M) (twin_whole HTA.out) (twin_whole HTB.out) HCA.out HCD.out)
      have HRP := hid (show ∀ W, Below w2.heap.size w2 W → _ from fun W hW => rpair_any w.heap.size P1 w.heap.size P2 L M r2 q2 W (HTA.out.p.below hW) (HTB.out.p.below hW) HTA.out.lt HTB.out.lt HTA.out.ris HTB.out.ris (by omega) (by omega))
      have HRI := hid (fun h => zpF_ris (alA r2 L) (alA q2 M) HCA.out HCD.out h)
      have hal := ad_lt ((r2 : Int), (q2 : Int)) (zpF (alA r2 L) (alA q2 M)).1
      have hzl : (zpF (alA r2 L) (alA q2 M)).1.length ≤ (ad ((r2 : Int), (q2 : Int)) (zpF (alA r2 L) (alA q2 M)).1).1.length := by unfold ad; split <;> simp
      obtain ⟨U, hU⟩ : ∃ U, U = (ad ((r2 : Int), (q2 : Int)) (zpF (alA r2 L) (alA q2 M)).1).1 := ⟨_, rfl⟩
      obtain ⟨c, hc⟩ : ∃ c, c = (ad ((r2 : Int), (q2 : Int)) (zpF (alA r2 L) (alA q2 M)).1).2 := ⟨_, rfl⟩
      obtain ⟨Z, hZ⟩ : ∃ Z, Z = (zpF (alA r2 L) (alA q2 M)).2 := ⟨_, rfl⟩
      simp only [← hU, ← hc, ← hZ] at HPR HRP
      rw [← hZ] at HRI
      rw [← hU] at hal hzl
      rw [← hc] at hal
      have HRJ := hid (show U.length ≤ 256 → Ris 0 Z from fun h => HRI.out (Nat.le_trans hzl h))
      clear hU hc hZ hzl HRI HCA HCD
      have HEQ := hid (twin_eqs HTA.out HTB.out)
      have HQ1 := hid (show ∀ W, Below w2.heap.size w2 W → _ from fun W hW => equal_any w.heap.size w.heap.size T1 T2 r2 q2 F G W (HTA.out.t.below hW) (HTB.out.t.below hW))
      have HQ2 := hid (show ∀ W, Below w2.heap.size w2 W → _ from fun W hW => requal_any w.heap.size P1 w.heap.size P2 L M r2 q2 W (HTA.out.p.below hW) (HTB.out.p.below hW) (by omega))
      have HQ3 := hid (show ∀ W, Below w2.heap.size w2 W → _ from fun W hW => equal_any w.heap.size w.heap.size T1 T1 r2 r2 F F W (HTA.out.t.below hW) (HTA.out.t.below hW))
      simp only [and_self, decide_true] at HQ3
      obtain ⟨d, hd⟩ : ∃ d, d = decide (r2 = q2 ∧ L = M) := ⟨_, rfl⟩
      rw [← hd] at HEQ
      simp only [HEQ.out] at HQ1
      simp only [← hd] at HQ2
      clear hd HEQ
      obtain ⟨nU, hnU⟩ : ∃ nU, nU = U.length := ⟨_, rfl⟩
      rw [← hnU] at HPR HRJ hal
      simp only [← hnU] at HRP
      have HNU := hid hnU
      clear hnU
      go_wp2_with fail
      refine HPR.out.mono ?_
      rintro e w3 ⟨b3, hd⟩
      have HB3 := hid (HB2.out.trans (b3.mono hs2))
      have hs3 := HB3.out.size
      have HV3 := hid b3
      clear b3 HPR
      rcases hd with ⟨hmany, rfl⟩ | ⟨hfew, T', po, pc, F', rfl, hTs, rp, hF', hT'⟩
      · go_wp2_with fail
        refine (HRP.out w3 HV3.out).mono ?_
        rintro e w4 ⟨b4, hd⟩
        have HV4 := hid (HV3.out.trans (b4.mono HV3.out.size))
        have HB4 := hid (HB3.out.trans (b4.mono hs3))
        have hs4 := HB4.out.size
        clear b4 HRP
        rcases hd with ⟨_, rfl⟩ | ⟨hf2, _⟩
        · have HTT := hid (two_any none none 0 0 [] [] w4 (fun k g hk => by simp at hk) (fun k g hk => by simp at hk) (by simp))
          simp only [List.length_nil, decide_true] at HTT
          go_wp2_with (first | (go_at_call 9; refine (num_any _ _).mono ?_; rintro e w9 ⟨rfl, h9⟩; obtain rfl := h9.symm) | fail)
          refine HTT.out.mono ?_
          rintro e w5 ⟨rfl, b5⟩
          have HV5 := hid (HV4.out.trans (b5.mono HV4.out.size))
          have HB5 := hid (HB4.out.trans (b5.mono hs4))
          have hs5 := HB5.out.size
          clear b5 HTT
          go_wp2_with fail
          refine (HQ1.out w5 HV5.out).mono ?_
          rintro e w6 ⟨rfl, b6⟩
          have HV6 := hid (HV5.out.trans (b6.mono HV5.out.size))
          have HB6 := hid (HB5.out.trans (b6.mono hs5))
          have hs6 := HB6.out.size
          clear b6 HQ1
          go_wp2_with fail
          refine (HQ2.out w6 HV6.out).mono ?_
          rintro e w7 ⟨rfl, b7⟩
          have HV7 := hid (HV6.out.trans (b7.mono HV6.out.size))
          have HB7 := hid (HB6.out.trans (b7.mono hs6))
          have hs7 := HB7.out.size
          clear b7 HQ2
          cases d
          · go_wp2_with fail
            refine (HQ3.out w7 HV7.out).mono ?_
            rintro e w8 ⟨rfl, b8⟩
            have HB8 := hid (HB7.out.trans (b8.mono hs7))
            have hs8 := HB8.out.size
            clear b8 HQ3
            go_wp2_with fail
            refine (live_any _).mono ?_
            rintro e w11 ⟨rfl, b11⟩
            have HB11 := hid (HB8.out.trans (b11.mono hs8))
            clear b11
            go_wp2
            go_ret
            exact ⟨rfl, HB11.out⟩
          · go_wp2_with fail
            refine (HQ3.out w7 HV7.out).mono ?_
            rintro e w8 ⟨rfl, b8⟩
            have HB8 := hid (HB7.out.trans (b8.mono hs7))
            have hs8 := HB8.out.size
            clear b8 HQ3
            go_wp2_with fail
            refine (live_any _).mono ?_
            rintro e w11 ⟨rfl, b11⟩
            have HB11 := hid (HB8.out.trans (b11.mono hs8))
            clear b11
            go_wp2
            go_ret
            exact ⟨rfl, HB11.out⟩
        · exact absurd hf2 (Nat.not_le_of_gt hmany)
      · have HRQ := hid rp
        have HF' := hid hF'
        have HT' := hid hT'
        clear rp hF' hT' hTs
        go_wp2_with fail
        refine (HRP.out w3 HV3.out).mono ?_
        rintro e w4 ⟨b4, hd⟩
        have HV4 := hid (HV3.out.trans (b4.mono HV3.out.size))
        have HB4 := hid (HB3.out.trans (b4.mono hs3))
        have hs4 := HB4.out.size
        have HRQ4 := hid (HRQ.out.below b4)
        have HTN := hid ((HT'.out.below b4).mono hs2)
        clear b4 HRP
        rcases hd with ⟨hm2, _⟩ | ⟨_, P', qo, qc, rfl, hPs, rq, hPt⟩
        · exact absurd hfew (Nat.not_le_of_gt hm2)
        · obtain ⟨k1, k2, k3⟩ := twin_pair c Z (by omega) (HRJ.out hfew)
          have HTM := hid (show Twin w.heap.size T' P' c F' (nrA c [] Z) w4 from ⟨HTN.out, hPt.mono hs3, by rw [k2]; exact HF'.out, by omega, k1, k3⟩)
          obtain ⟨L', hL'⟩ : ∃ L', L' = nrA c [] Z := ⟨_, rfl⟩
          rw [← hL'] at HTM
          have HTT := hid (two_any po qo pc qc U U w4 HRQ4.out rq (by have h5 := HNU.out; omega))
          simp only [decide_true] at HTT
          rw [← HNU.out] at HTT
          clear hPt k1 k2 k3 hL' hPs rq HRQ HRQ4 HTN HF' HT'
          go_wp2_with (first | (go_at_call 9; refine (num_any _ _).mono ?_; rintro e w9 ⟨rfl, h9⟩; obtain rfl := h9.symm) | fail)
          refine HTT.out.mono ?_
          rintro e w5 ⟨rfl, b5⟩
          have HV5 := hid (HV4.out.trans (b5.mono HV4.out.size))
          have HB5 := hid (HB4.out.trans (b5.mono hs4))
          have hs5 := HB5.out.size
          have HP5 := hid (HTM.out.below b5)
          clear b5 HTT
          go_wp2_with fail
          refine (HQ1.out w5 HV5.out).mono ?_
          rintro e w6 ⟨rfl, b6⟩
          have HV6 := hid (HV5.out.trans (b6.mono HV5.out.size))
          have HB6 := hid (HB5.out.trans (b6.mono hs5))
          have hs6 := HB6.out.size
          have HP6 := hid (HP5.out.below b6)
          clear b6 HQ1
          go_wp2_with fail
          refine (HQ2.out w6 HV6.out).mono ?_
          rintro e w7 ⟨rfl, b7⟩
          have HV7 := hid (HV6.out.trans (b7.mono HV6.out.size))
          have HB7 := hid (HB6.out.trans (b7.mono hs6))
          have hs7 := HB7.out.size
          have HP7 := hid (HP6.out.below b7)
          clear b7 HQ2
          cases d
          · go_wp2_with fail
            refine (HQ3.out w7 HV7.out).mono ?_
            rintro e w8 ⟨rfl, b8⟩
            have HB8 := hid (HB7.out.trans (b8.mono hs7))
            have hs8 := HB8.out.size
            have HP8 := hid (HP7.out.below b8)
            clear b8 HQ3
            have HAS := hid (asks_any w.heap.size T' c w.heap.size P' F' L' none 0 [] [97] w8 HP8.out.t HP8.out.f HP8.out.lt HP8.out.ris HP8.out.nrm HP8.out.p (RdZ.nil _ _) (by simp) (by simp))
            go_wp2_with fail
            refine HAS.out.mono ?_
            rintro e w10 ⟨rfl, b10⟩
            have HB10 := hid (HB8.out.trans (b10.mono hs8))
            have hs10 := HB10.out.size
            clear b10 HAS
            go_wp2_with fail
            refine (live_any _).mono ?_
            rintro e w11 ⟨rfl, b11⟩
            have HB11 := hid (HB10.out.trans (b11.mono hs10))
            clear b11
            go_wp2
            go_ret
            exact ⟨rfl, HB11.out⟩
          · go_wp2_with fail
            refine (HQ3.out w7 HV7.out).mono ?_
            rintro e w8 ⟨rfl, b8⟩
            have HB8 := hid (HB7.out.trans (b8.mono hs7))
            have hs8 := HB8.out.size
            have HP8 := hid (HP7.out.below b8)
            clear b8 HQ3
            have HAS := hid (asks_any w.heap.size T' c w.heap.size P' F' L' none 0 [] [97] w8 HP8.out.t HP8.out.f HP8.out.lt HP8.out.ris HP8.out.nrm HP8.out.p (RdZ.nil _ _) (by simp) (by simp))
            go_wp2_with fail
            refine HAS.out.mono ?_
            rintro e w10 ⟨rfl, b10⟩
            have HB10 := hid (HB8.out.trans (b10.mono hs8))
            have hs10 := HB10.out.size
            clear b10 HAS
            go_wp2_with fail
            refine (live_any _).mono ?_
            rintro e w11 ⟨rfl, b11⟩
            have HB11 := hid (HB10.out.trans (b11.mono hs10))
            clear b11
            go_wp2
            go_ret
            exact ⟨rfl, HB11.out⟩
end Go.Proofs.Ytljlhlcoaajggaa
/- Arguments that came in, opened: slices of ranges, of numbers, of bytes, of runes. -/
namespace Go.Proofs.Ytljlhlcoaajggaa
open Go.ChangeShapes Go.WideShapes Go.ChangeAt Go.RowKit Go.Deep

set_option maxRecDepth 100000 in
/-- A slice of ranges with classes that came in. -/
theorem ranged_open {H : Type} {enc : TypeId × Value → H} {W : World} {v : Value} {d : DataW H} {ps : List MemPlace} (h : DataW.Trod enc Try.prog W 0 (fun _ => true) true 25 v d ps) (hv : ∃ a b c, v = .slice a b c) :
    ∃ (lo : Option Addr) (lcap : Nat) (l : List Rk), v = .slice lo l.length lcap ∧ (lo = none → lcap = 0) ∧ RdK W lo l ∧ l.length ≤ 9223372036854775807 := by
  obtain ⟨sa, sl, sc, rfl⟩ := hv
  obtain ⟨m, hm⟩ := h
  rcases open_slice Try.underlying25 hm with ⟨hv, _⟩ | ⟨a, len, cap, m', n, D, Pl, hv, hb, hl, hcm, hmm, _, hx⟩
  · have hv' : [Value.slice sa sl sc] = [.slice none 0 0] := hv
    cases hv'
    exact ⟨none, 0, [], rfl, fun _ => rfl, fun i g hi => (by cases hi), by decide⟩
  · have hv' : [Value.slice sa sl sc] = [.slice (some a) len cap] := hv
    cases hv'
    have hm' : m' = sc := hmm
    have hc3 : Try.prog.cellsOf 36 = 3 := by kernel_rfl
    have c21 : Try.prog.cellsOf 21 = 1 := by kernel_rfl
    have c3 : Try.prog.cellsOf 3 = 1 := by kernel_rfl
    have hex : ∀ i : _root_.Fin sl, ∃ g : Rk, W.cell? (a.add (i.1 * 3)) = some (.int .i32 g.1) ∧ W.cell? (a.add (i.1 * 3 + 1)) = some (.int .i32 g.2.1) ∧ W.cell? (a.add (i.1 * 3 + 2)) = some (.int .i64 g.2.2) := fun i => by
      obtain ⟨cs', h1, h2⟩ := hx i.1 (by omega)
      rw [hc3] at h1
      obtain ⟨_, hlen, hcell⟩ := World.cells?_some h1
      obtain ⟨xs, k, hk, hxy, _, hxl, hf⟩ := DataW.trod_struct Try.underlying36 h2
      match xs, hxl, cs', hlen with
      | [y0, y1, y2], _, [v0, v1, v2], _ =>
        have g0 := hf 0 _ rfl
        have g1 := hf 1 _ rfl
        have g2 := hf 2 _ rfl
        simp [c21, c3] at g0 g1 g2
        have e0 := hcell 0 (by omega)
        have e1 := hcell 1 (by omega)
        have e2 := hcell 2 (by omega)
        rw [Go.Deep.add_add] at e0 e1 e2
        obtain ⟨z0, q0, _⟩ := DataW.trod_int (k := .i32) Try.underlying21 g0
        obtain ⟨z1, q1, _⟩ := DataW.trod_int (k := .i32) Try.underlying21 g1
        obtain ⟨z2, q2, _⟩ := DataW.trod_int (k := .i64) Try.underlying3 g2
        injection q0 with q0 _
        injection q1 with q1 _
        injection q2 with q2 _
        subst q0 q1 q2
        exact ⟨(z0, z1, z2), by simpa using e0, by simpa using e1, by simpa using e2⟩
    refine ⟨some a, sc, List.ofFn fun i => Classical.choose (hex i), by rw [List.length_ofFn], fun h => (by cases h), fun i g hi => ?_, by rw [List.length_ofFn]; unfold maxLen at hcm; omega⟩
    rw [List.getElem?_ofFn] at hi
    split at hi
    · rename_i hil
      cases hi
      obtain ⟨e0, e1, e2⟩ := Classical.choose_spec (hex ⟨i, hil⟩)
      have hlt := World.block_lt_of_cell? W _ e0
      rw [add_blk] at hlt
      refine ⟨a, rfl, hlt, e0, by rw [← add_one3]; exact e1, ?_⟩
      have e3 : a.add (i * 3 + 2) = ⟨(a.add (i * 3)).block, (a.add (i * 3)).off + 2, none⟩ := by
        rw [show i * 3 + 2 = i * 3 + 1 + 1 by omega, add_one3, add_one3]
      rw [← e3]; exact e2
    · cases hi
/-- A slice of numbers that came in. -/
theorem numbers_open {H : Type} {enc : TypeId × Value → H} {W : World} {v : Value} {d : DataW H} {ps : List MemPlace} (h : DataW.Trod enc Try.prog W 0 (fun _ => true) true 41 v d ps) (hv : ∃ a b c, v = .slice a b c) :
    ∃ (ao : Option Addr) (cap : Nat) (E : List Int), v = .slice ao E.length cap ∧ RdJ W ao E ∧ E.length ≤ 9223372036854775807 := by
  obtain ⟨sa, sl, sc, rfl⟩ := hv
  obtain ⟨m, hm⟩ := h
  rcases Go.ChangeShapes.open_ints Try.underlying41 Try.underlying3 (by kernel_rfl) hm with ⟨hv, _⟩ | ⟨a, len, cap, zs, hv, _, hlc, hcm, hzl, _, hcells, _⟩
  · have hv' : [Value.slice sa sl sc] = [.slice none 0 0] := hv
    cases hv'
    exact ⟨none, 0, [], rfl, fun k z hk => (by cases hk), by decide⟩
  · have hv' : [Value.slice sa sl sc] = [.slice (some a) len cap] := hv
    cases hv'
    have hle : sl ≤ zs.length := by rw [hzl]; split <;> omega
    have hcm' : sc ≤ 9223372036854775807 := by unfold maxLen at hcm; omega
    refine ⟨some a, sc, zs.take sl, by rw [List.length_take]; congr 1; omega, fun k z hk => ?_, by rw [List.length_take]; omega⟩
    rw [List.getElem?_take] at hk
    split at hk
    · have hkl : k < zs.length := (List.getElem?_eq_some_iff.1 hk).1
      have hc := hcells k hkl
      have hz : zs.getD k 0 = z := by simp [List.getD, hk]
      rw [hz] at hc
      have hlt := World.block_lt_of_cell? W _ hc
      rw [add_blk] at hlt
      exact ⟨a, rfl, hlt, hc⟩
    · cases hk
theorem laidOut : laidOutB Try.prog = true := by kernel_rfl
theorem knob : ownKnob Try.prog.godebug = none := by kernel_rfl
/-- A slice of bytes that came in. -/
theorem bytes_open {H : Type} {enc : TypeId × Value → H} {W : World} {v : Value} {d : DataW H} {ps : List MemPlace} (h : DataW.Trod enc Try.prog W 0 (fun _ => true) true 58 v d ps) (hv : ∃ a b c, v = .slice a b c) :
    ∃ (ao : Option Addr) (cap : Nat) (b : List Nat), v = .slice ao b.length cap ∧ (ao = none → cap = 0) ∧ RdU W ao b ∧ (∀ c ∈ b, c < 256) ∧ b.length ≤ 9223372036854775807 := by
  obtain ⟨sa, sl, sc, rfl⟩ := hv
  obtain ⟨m, hm⟩ := h
  rcases Go.ChangeShapes.open_ints Try.underlying58 Try.underlying5 (by kernel_rfl) hm with ⟨hv, _⟩ | ⟨a, len, cap, zs, hv, _, hlc, hcm, hzl, _, hcells, hwf⟩
  · have hv' : [Value.slice sa sl sc] = [.slice none 0 0] := hv
    cases hv'
    exact ⟨none, 0, [], rfl, fun _ => rfl, fun k z hk => (by cases hk), fun c hc => (by cases hc), by decide⟩
  · have hv' : [Value.slice sa sl sc] = [.slice (some a) len cap] := hv
    cases hv'
    have hle : sl ≤ zs.length := by rw [hzl]; split <;> omega
    have hcm' : sc ≤ 9223372036854775807 := by unfold maxLen at hcm; omega
    have hrg : ∀ z ∈ zs, 0 ≤ z ∧ z < 256 := fun z hz => by
      have h1 : (IntKind.u8.min ≤ z ∧ z ≤ IntKind.u8.max) := by simpa [Lit.wf] using hwf z hz
      have h2 : IntKind.u8.min = 0 := by decide
      have h3 : IntKind.u8.max = 255 := by decide
      rw [h2, h3] at h1
      omega
    refine ⟨some a, sc, (zs.take sl).map Int.toNat, by rw [List.length_map, List.length_take]; congr 1; omega, fun h => (by cases h), fun k c hk => ?_, fun c hc => ?_, by rw [List.length_map, List.length_take]; omega⟩
    · rw [List.getElem?_map, List.getElem?_take] at hk
      split at hk
      · cases hz : zs[k]? with
        | none => rw [hz] at hk; cases hk
        | some y =>
          rw [hz] at hk
          cases hk
          have hkl : k < zs.length := (List.getElem?_eq_some_iff.1 hz).1
          have hc := hcells k hkl
          have hy : zs.getD k 0 = y := by simp [List.getD, hz]
          rw [hy] at hc
          have hlt := World.block_lt_of_cell? W _ hc
          rw [add_blk] at hlt
          have hr := hrg y (List.mem_of_getElem? hz)
          exact ⟨a, rfl, hlt, by rw [Int.toNat_of_nonneg hr.1]; exact hc⟩
      · cases hk
    · obtain ⟨z, hz, rfl⟩ := List.mem_map.1 hc
      have hr := hrg z (List.mem_of_mem_take hz)
      omega
/-- A slice of runes that came in. -/
theorem runes_open {H : Type} {enc : TypeId × Value → H} {W : World} {v : Value} {d : DataW H} {ps : List MemPlace} (h : DataW.Trod enc Try.prog W 0 (fun _ => true) true 26 v d ps) (hv : ∃ a b c, v = .slice a b c) :
    ∃ (ao : Option Addr) (cap : Nat) (E : List Int), v = .slice ao E.length cap ∧ RdZ W ao E ∧ E.length ≤ 9223372036854775807 := by
  obtain ⟨sa, sl, sc, rfl⟩ := hv
  obtain ⟨m, hm⟩ := h
  rcases Go.ChangeShapes.open_ints Try.underlying26 Try.underlying21 (by kernel_rfl) hm with ⟨hv, _⟩ | ⟨a, len, cap, zs, hv, _, hlc, hcm, hzl, _, hcells, _⟩
  · have hv' : [Value.slice sa sl sc] = [.slice none 0 0] := hv
    cases hv'
    exact ⟨none, 0, [], rfl, fun k z hk => (by cases hk), by decide⟩
  · have hv' : [Value.slice sa sl sc] = [.slice (some a) len cap] := hv
    cases hv'
    have hle : sl ≤ zs.length := by rw [hzl]; split <;> omega
    have hcm' : sc ≤ 9223372036854775807 := by unfold maxLen at hcm; omega
    refine ⟨some a, sc, zs.take sl, by rw [List.length_take]; congr 1; omega, fun k z hk => ?_, by rw [List.length_take]; omega⟩
    rw [List.getElem?_take] at hk
    split at hk
    · have hkl : k < zs.length := (List.getElem?_eq_some_iff.1 hk).1
      have hc := hcells k hkl
      have hz : zs.getD k 0 = z := by simp [List.getD, hk]
      rw [hz] at hc
      have hlt := World.block_lt_of_cell? W _ hc
      rw [add_blk] at hlt
      exact ⟨a, rfl, hlt, hc⟩
    · cases hk
end Go.Proofs.Ytljlhlcoaajggaa
