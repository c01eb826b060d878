/- Proved: UtfEncodes answers true for every number, every list of numbers and every text: widths and bytes are the document's, what was encoded is decoded again, the clean form of a text is the text of its runes, and a valid text is its own (lists and texts of over 2000 are only looked at by the closing check); its arguments read behind the call as they did. Condition: the two tables of package unicode/utf8 begin as the program's text lays them (the card ties them). -/
import Derived.Test.YtflehkdijfhmgaaDoorReadsA
import Derived.Test.YtflehkdijfhmgaaDoorClean
import Derived.Test.YtflehkdijfhmgaaDoorLaid
import Derived.Test.YtflehkdijfhmgaaDoorLive
import Derived.Test.YtflehkdijfhmgaaDoorTie
import Derived.Test.YtflehkdijfhmgaaDoorCards
import Derived.Laws.AppendOwnNone
import Derived.OpenShut
import Derived.ShutString
import Derived.ChangeSlices
import Derived.Lay
import Derived.SevenTiedAt
namespace Go.Proofs.YtflehkdijfhmgaaDoor
open Go.ChangeShapes Go.WideShapes Go.ChangeAt Go.RowKit
open Go.ChangeMaps (open_string shut_string)

/-- append of a slice that came in, nil or not. -/
theorem wpList_append_in {P : Program} {w : World} {ops : Array Oper} {rest : List Oper} {o : Oper} {a : Act} {Q : Exit → Act → World → Prop} (hgd : o.guard = none) (s x : Operand) (t : TypeId)
    (ho : o.op = .call { callee := .builtin .append, args := #[s, x], argTypes := #[t, t] })
    (base : Nat) (e : TypeId) (i : TypeInfo) (z : Value) (bytes : Nat) (ht : P.underlying t = some (.slice e)) (hi : P.info? e = some i) (hz : i.zero = some z)
    (hsize : i.size = 1) (hby : i.bytes = bytes) (hzs : z.cells.size = 1)
    (v : Value) (n : Nat) (xs : List Value) (hs : a.eval s = v) (hown : w.ownsRow base e 1 v n xs)
    (ao : Option Addr) (cap : Nat) (K : IntKind) (E : List Int) (hx : a.eval x = .slice ao E.length cap) (hcap : ao = none → cap = 0) (hE : ∀ (k : Nat) (z : Int), E[k]? = some z → ∃ a : Addr, ao = some a ∧ a.block < w.heap.size ∧ w.cell? (a.add k) = some (.int K z))
    (h63 : n + E.length ≤ maxLen) (hbytes : (n + E.length) * bytes ≤ 140737488355328) (hbase : base ≤ w.heap.size)
    (h : ∀ v' w', w'.ownsRow base e 1 v' (n + E.length) (xs ++ E.map (Value.int K)) → w.grownBy w' v.ownBlock → wpList P ops Q rest (a.put o.dst v') w') : wpList P ops Q (o :: rest) a w := by
  cases ao with
  | none =>
    have hn : E = [] := by
      cases E with
      | nil => rfl
      | cons y ys => obtain ⟨a', h', _⟩ := hE 0 y rfl; cases h'
    subst hn
    rw [hcap rfl] at hx
    exact wpList_append_own_none hgd s x t ho base e i 1 ht hi v n xs hs hown hx (h v w (by simpa using hown) (World.grownBy.refl _ _))
  | some ad =>
    refine wpList_append_own w hgd s x t ho base e i z 1 bytes ht hi hz hsize hby hzs (by decide) v n xs hs hown ad E.length cap (E.map (Value.int K)) hx (by simp) (fun j u hj => ?_) (ints_oneCell K E) h63 hbytes hbase (fun v' w' a b _ => h v' w' a b)
    rw [List.getElem?_map] at hj
    cases hk : E[j]? with
    | none => rw [hk] at hj; cases hj
    | some z =>
      rw [hk] at hj
      obtain ⟨a', h', _, h2⟩ := hE j z hk
      cases h'; cases hj
      exact h2

theorem reads_alloc {w : World} {o : Obj} {ao : Option Addr} {K : IntKind} {E : List Int} (h : ∀ (k : Nat) (z : Int), E[k]? = some z → ∃ a : Addr, ao = some a ∧ a.block < w.heap.size ∧ w.cell? (a.add k) = some (.int K z)) :
    ∀ (k : Nat) (z : Int), E[k]? = some z → ∃ a : Addr, ao = some a ∧ a.block < (w.alloc o).heap.size ∧ (w.alloc o).cell? (a.add k) = some (.int K z) := fun k z hk => by
  obtain ⟨a, h1, h3, h4⟩ := h k z hk
  exact ⟨a, h1, by rw [World.size_alloc]; omega, (((Below.refl w.heap.size w).alloc (Nat.le_refl _) o).cell (p := a.add k) (by rw [add_block]; exact h3)).trans h4⟩
theorem row_empty (w : World) (e : TypeId) (size : Nat) : (w.alloc (.cells #[] e)).ownsRow w.heap.size e size (.slice (some ⟨w.heap.size, 0, none⟩) 0 0) 0 [] :=
  ⟨by simp, .inr ⟨w.heap.size, 0, #[], rfl, Nat.le_refl _, World.alloc_heap_new w _, Nat.le_refl _, by simp [maxLen], by simp, by simp⟩⟩

theorem cells_take {w : World} {g n : Nat} {cur : Array Value} {xs : List Value} (hg : w.heap[g]? = some (.cells cur 21 (0, 0))) (h : cur.toList.take n = xs) (k : Nat) (u : Value) (hk : xs[k]? = some u) : w.cell? ⟨g, k, none⟩ = some u := by
  rw [cell_of_row w g k cur 21 (0, 0) hg]
  rw [← h, List.getElem?_take] at hk
  split at hk
  · simpa using hk
  · cases hk
theorem text_eq (v : Value) (E : List Int) (S : List UInt8) (hS : txt E = S) (w : World) (hv : Reads .i32 w v E) : Calls Tryd.prog 28 #[v] w fun e w' => e = .returned (.string ⟨S.toArray⟩) ∧ w = w' := by
  subst hS; exact text_any v E w hv
theorem uwidth_eq (r n : Int) (h : widI r = n) (w : World) : Calls Tryd.prog 29 #[.int .i32 r] w fun e w' => e = .returned (.int .i64 n) ∧ w = w' := by
  subst h; exact uwidth_any r w
theorem uenc_eq (r : Int) (S : List UInt8) (h : enc r = S) (w : World) : Calls Tryd.prog 31 #[.int .i32 r] w fun e w' => e = .returned (.string ⟨S.toArray⟩) ∧ w = w' := by
  subst h
  refine (encode_any r w).mono fun e w' ⟨h1, h2⟩ => ⟨?_, h2.symm⟩
  rw [h1, encode_list]
theorem rtextA_eq (v : Value) (E : List Int) (S : List UInt8) (hS : txt E = S) (w : World) (hE : E.length ≤ 1000000000000) (hv : ReadsA .i32 w v E) : Calls Tryd.prog 33 #[v] w fun e w' => e = .returned (.string ⟨S.toArray⟩) ∧ Below w.heap.size w w' := by
  subst hS; exact rtextA_any v E w hE hv

theorem rune_same (r : Int) (b : Bool) (h : isR r = b) (w : World) : Calls Tryd.prog 34 #[.int .i32 r] w fun e w' => e = .returned (.bool b) ∧ w' = w := by
  subst h; exact rune_any r w
theorem txt_len (E : List Int) : (txt E).length ≤ 4 * E.length := by
  unfold txt
  induction E with
  | nil => simp
  | cons x xs ih =>
    have := enc_len x
    simp only [List.flatMap_cons, List.length_append, List.length_cons]
    omega
theorem row_runes (l : List UInt8) (R : List Int) (hR : rns l = R) (w : World) (hl : l.length ≤ 1000000000000) :
    Calls Tryd.prog 14 #[.string ⟨l.toArray⟩] w fun e W' => ∃ v, e = .returned v ∧ W'.ownsRow w.heap.size 21 1 v R.length (R.map (Value.int .i32)) ∧ Below w.heap.size w W' := by
  subst hR
  refine (runes_any l w hl).mono ?_
  rintro e W' ⟨v, he, ho, hb⟩
  refine ⟨v, he, ?_, hb⟩
  have e1 : (prs l).length = (rns l).length := by simp [prs, rns]
  have e2 : r32 (prs l) = (rns l).map (Value.int .i32) := by simp [r32, prs, rns]
  rw [← e1, ← e2]; exact ho
theorem clean_eq (l S : List UInt8) (h : cln l = S) (w : World) (hl : l.length ≤ 1000000000) (hT : Lib.Utf8Tabs 0 1 w) :
    Calls Tryd.prog 24 #[.string ⟨l.toArray⟩] w fun e w' => e = .returned (.string ⟨S.toArray⟩) ∧ Below w.heap.size w w' := by
  subst h; exact clean_any l w hl hT

set_option maxHeartbeats 2000000 in
theorem enc_walk (r : Int) (ao : Option Addr) (cap : Nat) (E : List Int) (s : List UInt8) (w : World) (hT : Lib.Utf8Tabs 0 1 w) (h2 : 2 ≤ w.heap.size) (hcap : ao = none → cap = 0)
    (hE : ∀ (k : Nat) (z : Int), E[k]? = some z → ∃ a : Addr, ao = some a ∧ a.block < w.heap.size ∧ w.cell? (a.add k) = some (.int .i32 z)) :
    Calls Tryd.prog 6 #[.int .i32 r, .slice ao E.length cap, .string ⟨s.toArray⟩] w fun e w' => e = .returned (.bool true) ∧ Below w.heap.size w w' := by
  have HT := hid hT
  have HE := hid hE
  have HCAP := hid hcap
  clear hT hE hcap
  by_cases hl : (2000 : Int) < E.length
  · go_enter Tryd.func6, Tryd.ntmps6
    go_wp2_with (go_at_call 9; refine (live_any _ (by exact HT.out) (by exact h2)).mono ?_; rintro e w1 ⟨rfl, hb⟩)
    go_ret
    exact ⟨rfl, hb⟩
  by_cases hs : (2000 : Int) < s.length
  · go_enter Tryd.func6, Tryd.ntmps6
    go_wp2_with (go_at_call 9; refine (live_any _ (by exact HT.out) (by exact h2)).mono ?_; rintro e w1 ⟨rfl, hb⟩)
    go_ret
    exact ⟨rfl, hb⟩
  obtain ⟨i0, hi, hz0, hz1, hz2⟩ := info_parts Tryd.info21
  have o0 : (w.alloc (.cells #[] 21)).ownsRow w.heap.size 21 1 (.slice (some ⟨w.heap.size, 0, none⟩) 0 0) 0 [] := row_empty w 21 1
  have hE0 := reads_alloc (o := .cells #[] 21) HE.out
  have HE0 := hid hE0
  clear hE0
  go_enter Tryd.func6, Tryd.ntmps6
  go_wp2_with (at_builtin; refine wpList_append_in rfl _ _ 27 rfl w.heap.size 21 i0 (.int .i32 0) 4 Tryd.underlying27 hi hz0 hz1 hz2 (by rfl) (.slice (some ⟨w.heap.size, 0, none⟩) 0 0) 0 [] (by rfl) o0 ao cap .i32 E ?hx HCAP.out HE0.out (by unfold maxLen; omega) (by omega) (by simp) ?_)
  intro v1 w1 o1 gr1
  have hB1 : Below w.heap.size w w1 := ((Below.refl w.heap.size w).alloc (Nat.le_refl _) _).grown gr1 (by simp) (fun k hk => (o0.lt k hk).1)
  have hs1 := hB1.size
  have o1' : w1.ownsRow w.heap.size 21 1 v1 E.length (E.map (Value.int .i32)) := by simpa using o1
  clear gr1 o0 HE0 o1
  go_wp2_with (at_builtin; refine wpList_append_own _ rfl _ _ 27 rfl w.heap.size 21 i0 (.int .i32 0) 1 4 Tryd.underlying27 hi hz0 hz1 hz2 rfl (by decide) _ _ _ rfl (o1'.alloc _) ⟨w1.heap.size, 0, none⟩ 1 1 [.int .i32 7] rfl rfl (news_one w1 #[.int .i32 7] 21) (by intro u hu; simp at hu; subst hu; rfl) (by unfold maxLen; omega) (by omega) (by simp; omega) ?_)
  intro v2 w2 o2 gr2 _
  have hB2 : Below w.heap.size w w2 := (hB1.alloc hB1.size _).grown gr2 (by simp; omega) (fun k hk => (o1'.lt k hk).1)
  have HO2 := hid o2
  have HB2 := hid hB2
  obtain ⟨g, cap2, cur, rfl, hbg, hg, hcap2, _, hcs, htk⟩ : ∃ g cap2 cur, v2 = .slice (some ⟨g, 0, none⟩) (E.length + 1) cap2 ∧ w.heap.size ≤ g ∧ w2.heap[g]? = some (.cells cur 21 (0, 0)) ∧ E.length + 1 ≤ cap2 ∧ cap2 ≤ maxLen ∧ cur.size = cap2 * 1 ∧ cur.toList.take ((E.length + 1) * 1) = E.map (Value.int .i32) ++ [.int .i32 7] := by
    rcases o2.2 with ⟨_, h0⟩ | h
    · omega
    · exact h
  clear o2 gr2 hB1 hB2 o1'
  have HG := hid hg
  have HTK := hid htk
  clear hg htk
  have RG := hid (show Reads .i32 w2 (.slice (some ⟨g, 0, none⟩) E.length cap2) E from ⟨_, _, rfl, fun k z hk => ⟨g, 0, rfl, (Array.getElem?_eq_some_iff.1 HG.out).1, by
    rw [Nat.zero_add]
    refine cells_take HG.out HTK.out k _ ?_
    rw [List.getElem?_append_left (by simpa using (List.getElem?_eq_some_iff.1 hk).1), List.getElem?_map, hk]; rfl⟩⟩)
  have H7 := hid (show w2.cell? ⟨g, E.length, none⟩ = some (.int .i32 7) from cells_take HG.out HTK.out E.length _ (by rw [List.getElem?_append_right (by simp)]; simp))
  have hg2 : g < w2.heap.size := (Array.getElem?_eq_some_iff.1 HG.out).1
  obtain ⟨S, hS⟩ : ∃ S, txt E = S := ⟨_, rfl⟩
  have HS := hid hS
  obtain ⟨n, hn⟩ : ∃ n, widI r = n := ⟨_, rfl⟩
  have HN := hid hn
  obtain ⟨Z, hZ⟩ : ∃ Z, enc r = Z := ⟨_, rfl⟩
  have HZ := hid hZ
  clear hS hn hZ
  go_wp2_with fail
  refine (text_eq _ E S HS.out _ RG.out).mono ?_
  rintro e w' ⟨rfl, rfl⟩
  go_wp2_with fail
  refine (uwidth_eq r n HN.out _).mono ?_
  rintro e w' ⟨rfl, rfl⟩
  go_wp2_with fail
  refine (width_eqn r n HN.out _).mono ?_
  rintro e w' ⟨rfl, rfl⟩
  go_wp2_with fail
  refine (uenc_eq r Z HZ.out _).mono ?_
  rintro e w' ⟨rfl, rfl⟩
  go_wp2_with fail
  refine (renc_eq r Z HZ.out _).mono ?_
  rintro e w3 ⟨rfl, hb3⟩
  have RL := hid (show ReadsA .i32 w (.slice ao E.length cap) E from ⟨_, _, rfl, HE.out⟩)
  have HB3 := hid (HB2.out.trans (hb3.mono HB2.out.size))
  have HB23 := hid hb3
  clear hb3
  go_wp2_with fail
  refine (rtextA_eq _ E S HS.out _ (by omega) (RL.out.below HB3.out)).mono ?_
  rintro e w4 ⟨rfl, hb4⟩
  have HB4 := hid (HB3.out.trans (hb4.mono HB3.out.size))
  have HB24 := hid (HB23.out.trans (hb4.mono HB23.out.size))
  clear hb4
  go_wp2_with fail
  refine (alikeA_any _ _ E _ (by omega) (RG.out.below HB24.out) (RL.out.below HB4.out)).mono ?_
  rintro e w5 ⟨rfl, hb5⟩
  have HB5 := hid (HB4.out.trans (hb5.mono HB4.out.size))
  have HB25 := hid (HB24.out.trans (hb5.mono HB24.out.size))
  have h7 : w5.cell? ⟨g, E.length, none⟩ = some (.int .i32 7) := (HB25.out.cell (p := ⟨g, E.length, none⟩) hg2).trans H7.out
  clear hb5
  have htl := txt_len E
  rw [HS.out] at htl
  obtain ⟨F, hF⟩ : ∃ F, F = E.map fix := ⟨_, rfl⟩
  have hFl : F.length = E.length := by rw [hF]; simp
  have HFE := hid (show ∀ (k : Nat) (z : Int), E[k]? = some z → F[k]? = some (fix z) from fun k z hk => by rw [hF, List.getElem?_map, hk]; rfl)
  have HRF := hid (show rns S = F by rw [← HS.out, rns_txt, hF])
  clear hF RG H7 HB2 HB3 HB4 HB23 HB24 HB25
  go_wp2_with fail
  refine (row_runes S F HRF.out _ (by omega)).mono ?_
  rintro e w6 ⟨vb, rfl, hob, hb6⟩
  have HB6 := hid (HB5.out.trans (hb6.mono HB5.out.size))
  have RB := Reads.of_row hob
  obtain ⟨bo, bcap, rfl, hbc⟩ := RB
  have HBC := hid hbc
  obtain ⟨_, _, hvl, hlc⟩ := RL.out.below HB6.out
  injection hvl with e1 e2 e3
  subst e1
  have HLC := hid hlc
  rw [hFl] at *
  clear hb6 hob hbc hlc e2 e3 RL HB5 h7
  go_wp2
  go_loopw [10] (fun i wr => ∃ k : Nat, i = .int .i64 k ∧ k ≤ E.length ∧ Hid (Below w6.heap.size w6 wr)) (fun i _ => E.length - (intOf i).toNat)
  case atStart => exact ⟨0, rfl, by omega, Below.refl _ _⟩
  case round =>
    obtain ⟨k, rfl, hk, HBr⟩ := hrel
    by_cases hlt : k < E.length
    · obtain ⟨a, rfl, hab, hac⟩ := HLC.out k E[k] (List.getElem?_eq_getElem hlt)
      obtain ⟨gb, ob, rfl, hbb, hbc⟩ := HBC.out k _ (HFE.out k E[k] (List.getElem?_eq_getElem hlt))
      have ca := (HBr.out.cell (p := a.add k) (by rw [add_block]; exact hab)).trans hac
      have cb := (HBr.out.cell (p := ⟨gb, ob + k, none⟩) hbb).trans hbc
      obtain ⟨z, hz⟩ : ∃ z, z = E[k] := ⟨_, rfl⟩
      rw [← hz] at ca cb
      clear hz hac hbc
      cases hrz : isR z with
      | true =>
        rw [show fix z = z by unfold fix; rw [hrz]; rfl] at cb
        have HR := hid hrz
        clear hrz
        go_wp2
        go_quiet ((go_at_call 34; exact Calls.quiet_of_same (rune_same z true HR.out _)))
        go_wp2
        go_roundw
        case rel => exact ⟨k + 1, by go_num, by omega, HBr.out.trans ⟨rfl, rfl, rfl, Nat.le_refl _, fun _ _ => rfl⟩⟩
        case measure => simp [intOf]; omega
      | false =>
        rw [show fix z = 65533 by unfold fix; rw [hrz]; rfl] at cb
        have HR := hid hrz
        clear hrz
        go_wp2
        go_quiet ((go_at_call 34; exact Calls.quiet_of_same (rune_same z false HR.out _)))
        go_wp2
        go_roundw
        case rel => exact ⟨k + 1, by go_num, by omega, HBr.out.trans ⟨rfl, rfl, rfl, Nat.le_refl _, fun _ _ => rfl⟩⟩
        case measure => simp [intOf]; omega
    · have HBw := hid (HB6.out.trans (HBr.out.mono HB6.out.size))
      clear HBr HLC HBC HFE HB6
      obtain ⟨C, hC⟩ : ∃ C, cln s = C := ⟨_, rfl⟩
      obtain ⟨R, hR⟩ : ∃ R, rns s = R := ⟨_, rfl⟩
      have HC := hid hC
      have HRS := hid hR
      have HTX := hid (show txt R = C by rw [← hR, ← hC]; rfl)
      have HFC := hid (show decide (flt C = []) = true by rw [← HTX.out, flt_txt]; rfl)
      have hcl := txt_len R
      rw [HTX.out] at hcl
      have hrl : R.length ≤ s.length := by rw [← hR]; unfold rns; simpa using mks_le s
      clear hC hR
      go_wp2_with fail
      refine (clean_eq s C HC.out _ (by omega) (tabs_below HT.out h2 HBw.out)).mono ?_
      rintro e x1 ⟨rfl, hb⟩
      have HX1 := hid (HBw.out.trans (hb.mono HBw.out.size))
      clear hb HBw
      go_wp2_with fail
      refine (row_runes s R HRS.out _ (by omega)).mono ?_
      rintro e x2 ⟨v2, rfl, ho2, hb⟩
      have HX2 := hid (HX1.out.trans (hb.mono HX1.out.size))
      have RR := hid (Reads.of_row ho2)
      clear hb HX1 ho2
      go_wp2_with fail
      refine (text_eq _ R C HTX.out _ RR.out).mono ?_
      rintro e x' ⟨rfl, rfl⟩
      go_wp2_with fail
      refine (valid_eqb C true HFC.out _ (by omega) (tabs_below HT.out h2 HX2.out)).mono ?_
      rintro e x3 ⟨rfl, hb⟩
      have HX3 := hid (HX2.out.trans (hb.mono HX2.out.size))
      clear hb HX2 RR
      by_cases hv : flt s = []
      · have HV := hid (show decide (flt s = []) = true from decide_eq_true hv)
        have hCs : C = s := by rw [← HC.out]; exact cln_valid s hv
        subst hCs
        clear hv
        go_wp2_with fail
        refine (valid_eqb C true HV.out _ (by omega) (tabs_below HT.out h2 HX3.out)).mono ?_
        rintro e x4 ⟨rfl, hb⟩
        have HX4 := hid (HX3.out.trans (hb.mono HX3.out.size))
        clear hb HX3
        go_wp2_with fail
        refine (live_any _ (tabs_below HT.out h2 HX4.out) (by have := HX4.out.size; omega)).mono ?_
        rintro e x5 ⟨rfl, hb⟩
        have HX5 := hid (HX4.out.trans (hb.mono HX4.out.size))
        clear hb
        go_wp2
        go_ret
        exact ⟨rfl, HX5.out⟩
      · have HV := hid (show decide (flt s = []) = false from decide_eq_false hv)
        clear hv
        go_wp2_with fail
        refine (valid_eqb s false HV.out _ (by omega) (tabs_below HT.out h2 HX3.out)).mono ?_
        rintro e x4 ⟨rfl, hb⟩
        have HX4 := hid (HX3.out.trans (hb.mono HX3.out.size))
        clear hb HX3
        go_wp2_with fail
        refine (live_any _ (tabs_below HT.out h2 HX4.out) (by have := HX4.out.size; omega)).mono ?_
        rintro e x5 ⟨rfl, hb⟩
        have HX5 := hid (HX4.out.trans (hb.mono HX4.out.size))
        clear hb
        go_wp2
        go_ret
        exact ⟨rfl, HX5.out⟩

theorem str_list (s : ByteArray) : ∃ l : List UInt8, s = ⟨l.toArray⟩ := ⟨s.data.toList, by cases s; rfl⟩

set_option maxRecDepth 100000 in
theorem encl_lifted (os : Os) (started : os.Started) (H : Type) (enc : TypeId × Value → H) :
    ReturnsInHanded {} Tryd.checked os 6 .any (fun w args => (Rows.utfEncodesSpec.pre enc Tryd.prog Tryd.f6 [] false w args ∧ laidMetH Tryd.prog laid2 w) ∧ sizedMet enc Tryd.prog Tryd.f6 (OpenSpec.ofChange Rows.utfEncodesSpec) false w args)
      (Rows.utfEncodesSpec.post enc Tryd.prog Tryd.f6 false true false false) := by
  refine returnsInHanded_of_change_and (C := Tryd.checked) (X := fun w _ => laidMetH Tryd.prog laid2 w) (fun _ _ _ hh h => h.of_heap hh) own started (by kernel_rfl) Tryd.func6
    (ChangeSpec.witness_shaped (enc := enc) (C := Tryd.checked) (os := os) (X := fun w _ => laidMetH Tryd.prog laid2 w) false (World.laidAll Tryd.prog os laid2) #[.int .i32 0, .slice none 0 0, .string ⟨#[]⟩] 8 (World.laidAll_os _ _ _)
      (World.shaped_of_ZipB (by kernel_rfl) (by kernel_rfl)) (by kernel_rfl) (by kernel_rfl) (by kernel_rfl)
      (by rw [MakeChecks.laidMetH_plain _ _ _ (by kernel_rfl)]; exact laidMet_laidAll _ (by kernel_rfl) (by kernel_rfl))) ?_
  intro W base args ds gs before hval0 hW _ _ hL _
  have hval : ∀ (j : Nat) t v, Tryd.f6.params[j]? = some t → args[j]? = some v → Value.okWide Tryd.prog W .any base t v := hval0
  have hW' := hW
  obtain ⟨p, q, hA0, hV, rfl, hfz, hnd⟩ := hW
  have hA : DataW.TrodAll enc Tryd.prog W 0 (fun _ => true) true Tryd.f6.params.toList args.toList ds p := hA0
  rw [Tryd.params6] at hA hval
  obtain ⟨v0, v1, v2, d0, d1, d2, p0, p1, p2, rfl, rfl, rfl, h0, h1, h2'⟩ := trodAll_three hA
  obtain ⟨rfl, rfl⟩ := trodVars_none hV
  obtain ⟨x, rfl, rfl, rfl, wx⟩ := open_int Tryd.underlying21 (hval 0 21 v0 rfl rfl) h0
  obtain ⟨s, rfl, rfl, rfl, ws⟩ := open_string Tryd.underlying9 (hval 2 9 v2 rfl rfl) h2'
  obtain ⟨sa, sl, sc, rfl⟩ := okWide_slice Tryd.underlying27 (hval 1 27 v1 rfl rfl)
  have k1 := h1
  have lt1 : ∀ y ∈ p1, y.block < W.heap.size := by obtain ⟨m, hm⟩ := k1; exact DataW.trod_lt m _ _ _ hm
  obtain ⟨hT, h2⟩ := tabs_of_laid hL
  clear hA0 hval0
  obtain ⟨l, rfl⟩ := str_list s
  have hsl : ∃ (ao : Option Addr) (cap : Nat) (E : List Int), Value.slice sa sl sc = .slice ao E.length cap ∧ (ao = none → cap = 0) ∧ ∀ (k : Nat) (z : Int), E[k]? = some z → ∃ a : Addr, ao = some a ∧ a.block < W.heap.size ∧ W.cell? (a.add k) = some (.int .i32 z) := by
    obtain ⟨m, hm⟩ := k1
    rcases Go.ChangeShapes.open_ints Tryd.underlying27 Tryd.underlying21 (by kernel_rfl) hm with ⟨hv, _⟩ | ⟨a, len, cap, zs, hv, _, hlc, _, hzl, _, hcells, _⟩
    · have hv' : [Value.slice sa sl sc] = [.slice none 0 0] := hv
      cases hv'
      exact ⟨none, 0, [], rfl, fun _ => rfl, fun k z hk => by cases hk⟩
    · have hv' : [Value.slice sa sl sc] = [.slice (some a) len cap] := hv
      cases hv'
      have hle : sl ≤ zs.length := by rw [hzl]; split <;> omega
      refine ⟨some a, sc, zs.take sl, by rw [List.length_take]; congr 1; omega, fun h => (by cases h), fun k z hk => ?_⟩
      rw [List.getElem?_take] at hk
      split at hk
      · have hkl : k < zs.length := (List.getElem?_eq_some_iff.1 hk).1
        have hc := hcells k hkl
        have hz : zs.getD k 0 = z := by simp [List.getD, hk]
        rw [hz] at hc
        refine ⟨a, rfl, ?_, hc⟩
        rcases Nat.lt_or_ge a.block W.heap.size with hlt | hge
        · exact hlt
        · exfalso
          have hn : W.heap[(a.add k).block]? = none := Array.getElem?_eq_none (by rw [add_block]; exact hge)
          simp [World.cell?, hn] at hc
      · cases hk
  obtain ⟨ao, cap, E, hveq, hcap, hE⟩ := hsl
  rw [hveq] at k1 hW' ⊢
  refine (enc_walk x ao cap E l W hT h2 hcap hE).mono fun e W' ⟨he, bel⟩ => ?_
  subst he
  exact ⟨_, rfl, _, _, _, [], _, [], hW', trodAll_mk1 (shut_bool Tryd.underlying4 _), trodAll_mk3 (shut_int Tryd.underlying21 wx) (Below.trod laidOut (by kernel_rfl) (of_decide_eq_true (by kernel_rfl)) k1 bel lt1) (shut_string Tryd.underlying9 ws), rfl, bel.frame _, fun h => by cases h⟩

theorem encl_holds : Rows.UtfEncodesSaid :=
  OpenClaim.holds_of_wide 6 Tryd.f6 rfl rfl rfl rfl rfl rfl rfl ⟨rfl, rfl, rfl, rfl, rfl⟩ rfl rfl rfl rfl rfl (by kernel_rfl) Tryd.func6 (by kernel_rfl)
    (of_decide_eq_true (by kernel_rfl)) (by unfold Func.isWrapper; first | (rw [if_pos (by decide +kernel)]; kernel_rfl) | (rw [if_neg (by decide +kernel)]; exact ⟨rfl, rfl⟩))
    (fun os started H enc _ => encl_lifted os started H enc)

theorem utfEncodes_proved : Rows.UtfEncodesCardSaid :=
  Claim7.holds_tied_plain_at .later [] [.data, .pinned] true Rows.utfEncodesCard.stood.harness false
    encl_holds (fun _ h => by cases h) (by kernel_rfl) (fun _ h => by cases h) utfEncodes_row_tie rfl ⟨rfl, rfl⟩ (by kernel_rfl) rfl
    (fun f fn hf hfn => by
      obtain rfl : f = 6 := Option.some.inj ((show Tryd.prog.funcNamed Rows.utfEncodesRow.func = some 6 by kernel_rfl).symm.trans hf) |>.symm
      obtain rfl : fn = Tryd.f6 := (Option.some.inj (Tryd.func6.symm.trans hfn)).symm
      exact ⟨by kernel_rfl, fun j t ht => by
        rw [Tryd.params6] at ht
        have hm : t ∈ [21, 27, 9] := by simpa using Array.mem_of_getElem? ht
        have hall : ([21, 27, 9].all fun u => !Tryd.prog.wantsStandIn u) = true := by kernel_rfl
        exact (show Tryd.prog.wantsStandIn t = false by simpa using List.all_eq_true.1 hall t hm)⟩)
    (by kernel_rfl)
#print axioms utfEncodes_proved
end Go.Proofs.YtflehkdijfhmgaaDoor
