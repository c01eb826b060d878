/- Proved: UtfCuts answers true for every text and every place: cut at an edge a text falls into two that have its runes, its faults and its edges; a place that is no edge is none of the document's list (texts of over 500 bytes are only looked at by the closing check); and its arguments read behind the call as they did. Condition: the two tables of package unicode/utf8 begin as the program's text lays them (the card ties them). -/
import Derived.Test.YtflehkdijfhmgaaDoorFaults
import Derived.Test.YtflehkdijfhmgaaDoorEdges
import Derived.Test.YtflehkdijfhmgaaDoorLaid
import Derived.Test.YtflehkdijfhmgaaDoorLive
import Derived.Test.YtflehkdijfhmgaaDoorTie
import Derived.Test.YtflehkdijfhmgaaDoorCards
import Derived.Laws.AppendOwnNone
import Derived.Maps.AppendAt
import Derived.OpenShut
import Derived.ShutString
import Derived.Lay
import Derived.SevenTiedAt
namespace Go.Proofs.YtflehkdijfhmgaaDoor
open Go.ChangeShapes Go.WideShapes Go.ChangeAt Go.RowKit
open Go.ChangeMaps (open_string shut_string)

theorem is_eqb (l : List UInt8) (p : Int) (b : Bool) (hb : isE l p = b) (w : World) (hl : l.length ≤ 1000000000000) (hT : Lib.Utf8Tabs 0 1 w) (h2 : 2 ≤ w.heap.size) :
    Calls Tryd.prog 35 #[.string ⟨l.toArray⟩, .int .i64 p] w fun e w' => e = .returned (.bool b) ∧ Below w.heap.size w w' := by
  subst hb; exact is_any l p w hl hT h2
theorem is_eqs (s : ByteArray) (l : List UInt8) (p : Int) (b : Bool) (hb : isE l p = b) (w : World) (hs : s = ⟨l.toArray⟩) (hl : l.length ≤ 1000000000000) (hT : Lib.Utf8Tabs 0 1 w) (h2 : 2 ≤ w.heap.size) :
    Calls Tryd.prog 35 #[.string s, .int .i64 p] w fun e w' => e = .returned (.bool b) ∧ Below w.heap.size w w' := by
  subst hs hb; exact is_any l p w hl hT h2
theorem ris_eqb (l : List UInt8) (p : Int) (b : Bool) (hb : isE l p = b) (w : World) (hl : l.length ≤ 1000000000000) :
    Calls Tryd.prog 36 #[.string ⟨l.toArray⟩, .int .i64 p] w fun e w' => e = .returned (.bool b) ∧ Below w.heap.size w w' := by
  have := ris_any l p w hl
  rw [← is_eq, hb] at this
  exact this

theorem isE_bd (l : List UInt8) (p : Int) (h : isE l p = true) : ∃ e : Nat, p = e ∧ e ≤ l.length := by
  rw [is_eq] at h
  unfold isL at h
  obtain ⟨x, hx, he⟩ := List.any_eq_true.1 h
  have : x = p := by simpa using he
  subst this
  have := edg_bd l _ hx
  exact ⟨x.toNat, by omega, by omega⟩

theorem runes_eq (s : ByteArray) (l : List UInt8) (w : World) (hs : s = ⟨l.toArray⟩) (hl : l.length ≤ 1000000000000) :
    Calls Tryd.prog 14 #[.string s] w fun e W' => ∃ v, e = .returned v ∧ W'.ownsRow w.heap.size 21 1 v (rns l).length ((rns l).map (Value.int .i32)) ∧ Below w.heap.size w W' := by
  subst hs
  refine (runes_any l w hl).mono ?_
  rintro e W' ⟨v, he, ho, hb⟩
  refine ⟨v, he, ?_, hb⟩
  have e1 : (prs l).length = (rns l).length := by simp [prs, rns]
  have e2 : r32 (prs l) = (rns l).map (Value.int .i32) := by simp [r32, prs, rns]
  rw [← e1, ← e2]; exact ho
theorem faults_eq (s : ByteArray) (l : List UInt8) (w : World) (hs : s = ⟨l.toArray⟩) (hl : l.length ≤ 1000000000000) :
    Calls Tryd.prog 23 #[.string s] w fun e W' => ∃ v, e = .returned v ∧ W'.ownsRow w.heap.size 3 1 v (flt l).length ((flt l).map (Value.int .i64)) ∧ Below w.heap.size w W' := by
  subst hs; exact faults_any l w hl

theorem ext_take (l : List UInt8) (t : Nat) : (⟨l.toArray⟩ : ByteArray).extract 0 t = ⟨(l.take t).toArray⟩ := by
  apply ByteArray.ext
  simp [ByteArray.data_extract]

/-- append of a row that lies whole, nil or not. -/
theorem wpList_append_row {P : Program} {w : World} {ops : Array Oper} {rest : List Oper} {o : Oper} {a : Act} {Q : Exit → Act → World → Prop} (hgd : o.guard = none) (s x : Operand) (t : TypeId)
    (ho : o.op = .call { callee := .builtin .append, args := #[s, x], argTypes := #[t, t] })
    (base : Nat) (e : TypeId) (i : TypeInfo) (z : Value) (size bytes : Nat) (ht : P.underlying t = some (.slice e)) (hi : P.info? e = some i) (hz : i.zero = some z)
    (hsize : i.size = size) (hby : i.bytes = bytes) (hzs : z.cells.size = size) (hsz : 0 < size)
    (v : Value) (n : Nat) (xs : List Value) (hs : a.eval s = v) (hown : w.ownsRow base e size v n xs)
    (vx : Value) (B m : Nat) (news : List Value) (hx : a.eval x = vx) (hsrc : w.ownsRow B e size vx m news) (h1 : ∀ u ∈ news, u.oneCell' = true)
    (h63 : n + m ≤ maxLen) (hbytes : (n + m) * bytes ≤ 140737488355328) (hbase : base ≤ w.heap.size)
    (h : ∀ v' w', w'.ownsRow base e size v' (n + m) (xs ++ news) → w.grownBy w' v.ownBlock → wpList P ops Q rest (a.put o.dst v') w') : wpList P ops Q (o :: rest) a w := by
  rcases hsrc.2 with ⟨rfl, rfl⟩ | ⟨g, cap, cur, rfl, _⟩
  · have hn : news = [] := List.eq_nil_of_length_eq_zero (by rw [hsrc.1]; omega)
    subst hn
    exact wpList_append_own_none hgd s x t ho base e i size ht hi v n xs hs hown hx (h v w (by simpa using hown) (World.grownBy.refl _ _))
  · exact wpList_append_own w hgd s x t ho base e i z size bytes ht hi hz hsize hby hzs hsz v n xs hs hown ⟨g, 0, none⟩ m cap news hx hsrc.1 (hsrc.cells (g := g) rfl) h1 h63 hbytes hbase (fun v' w' a b _ => h v' w' a b)

theorem ownsRow_below {w w' : World} {base : Nat} {e : TypeId} {size : Nat} {v : Value} {n : Nat} {xs : List Value} (h : w.ownsRow base e size v n xs) (hb : Below w.heap.size w w') : w'.ownsRow base e size v n xs := by
  refine ⟨h.1, ?_⟩
  rcases h.2 with h0 | ⟨g, cap, cur, hv, hbg, hg, hr⟩
  · exact .inl h0
  · exact .inr ⟨g, cap, cur, hv, hbg, (hb.block g (Array.getElem?_eq_some_iff.1 hg).1).trans hg, hr⟩

theorem ownsRow_empty (w : World) (e : TypeId) (size : Nat) : (w.alloc (.cells #[] e)).ownsRow w.heap.size e size (.slice (some ⟨w.heap.size, 0, none⟩) 0 0) 0 [] :=
  ⟨by simp, .inr ⟨w.heap.size, 0, #[], rfl, Nat.le_refl _, World.alloc_heap_new w _, Nat.le_refl _, by simp [maxLen], by simp, by simp⟩⟩

theorem flt_bd (l : List UInt8) (z : Int) (hz : z ∈ flt l) : 0 ≤ z ∧ z < l.length := by
  unfold flt at hz
  obtain ⟨m, hm, rfl⟩ := List.mem_map.1 hz
  exact pl_ge l m (List.mem_filter.1 hm).1

/-- The faults of the first part, and so many of the second's, moved on. -/
def fe (A G : List Int) (e k : Nat) : List Value := A.map (Value.int .i64) ++ ((G.take k).map (· + (e : Int))).map (Value.int .i64)
theorem fe_zero (A G : List Int) (e : Nat) : fe A G e 0 = A.map (Value.int .i64) := by simp [fe]
theorem fe_succ (A G : List Int) (e k : Nat) (h : k < G.length) : fe A G e (k + 1) = fe A G e k ++ [.int .i64 (G[k] + (e : Int))] := by
  unfold fe
  rw [List.take_succ_eq_append_getElem h, List.map_append, List.map_append, List.append_assoc]; rfl
theorem fe_all (A G : List Int) (e : Nat) : fe A G e G.length = (A ++ G.map (· + (e : Int))).map (Value.int .i64) := by
  unfold fe
  rw [List.take_length, List.map_append]

theorem one_map (K : IntKind) (zs : List Int) : ∀ u ∈ zs.map (Value.int K), u.oneCell' = true := ints_oneCell K zs
theorem rns_len (l : List UInt8) : (rns l).length ≤ l.length := by
  have := mks_len l l.length 0 (by omega)
  unfold rns
  simpa using this
theorem flt_len (l : List UInt8) : (flt l).length ≤ l.length := by
  have := mks_len l l.length 0 (by omega)
  have h2 := List.length_filter_le (fun m : Mk => m.bad) (mks 0 l)
  unfold flt
  simp at this h2 ⊢
  omega

set_option maxHeartbeats 1000000 in
theorem cuts_walk (l : List UInt8) (p : Int) (w : World) (hT : Lib.Utf8Tabs 0 1 w) (h2 : 2 ≤ w.heap.size) :
    Calls Tryd.prog 8 #[.string ⟨l.toArray⟩, .int .i64 p] w fun e w' => e = .returned (.bool true) ∧ Below w.heap.size w w' := by
  have HT := hid hT
  clear hT
  by_cases hl : (500 : Int) < l.length
  · go_enter Tryd.func8, Tryd.ntmps8
    go_wp2_with (go_at_call 9; refine (live_any _ (by exact HT.out) (by exact h2)).mono ?_; rintro e w1 ⟨rfl, hb⟩)
    go_ret
    exact ⟨rfl, hb⟩
  have hl' : l.length ≤ 1000000000000 := by omega
  cases his : isE l p with
  | false =>
    have HI := hid his
    clear his
    go_enter Tryd.func8, Tryd.ntmps8
    go_wp2_with fail
    refine (is_eqb l p false HI.out _ hl' (by exact HT.out) h2).mono ?_
    rintro e w1 ⟨rfl, hb1⟩
    have HT1 := hid (tabs_below HT.out h2 hb1)
    have g1 : 2 ≤ w1.heap.size := by have := hb1.size; omega
    go_wp2_with fail
    refine (ris_eqb l p false HI.out _ hl').mono ?_
    rintro e w2 ⟨rfl, hb2⟩
    have HT2 := hid (tabs_below HT1.out g1 hb2)
    have g2 : 2 ≤ w2.heap.size := by have := hb2.size; omega
    have hB2 : Below w.heap.size w w2 := hb1.trans (hb2.mono hb1.size)
    clear hb1 hb2 HT HT1 g1
    go_wp2_with fail
    refine (live_any _ (by exact HT2.out) g2).mono ?_
    rintro e w3 ⟨rfl, hb3⟩
    have HB3 := hid (hB2.trans (hb3.mono hB2.size))
    clear hb3 hB2
    go_wp2
    go_ret
    exact ⟨rfl, HB3.out⟩
  | true =>
    obtain ⟨e, rfl, he⟩ := isE_bd l p his
    have HI := hid his
    have HR := hid (cut_rns l e his)
    have HF := hid (cut_flt l e his)
    clear his
    go_enter Tryd.func8, Tryd.ntmps8
    go_wp2_with fail
    refine (is_eqb l e true HI.out _ hl' (by exact HT.out) h2).mono ?_
    rintro e' w1 ⟨rfl, hb1⟩
    have HT1 := hid (tabs_below HT.out h2 hb1)
    have g1 : 2 ≤ w1.heap.size := by have := hb1.size; omega
    have HB1 := hid hb1
    clear hb1
    obtain ⟨i0, hi, hz0, hz1, hz2⟩ := info_parts Tryd.info21
    have la := rns_len (l.take e)
    have lb := rns_len (l.drop e)
    simp only [List.length_take, List.length_drop] at la lb
    go_wp2_with fail
    refine (runes_eq _ (l.take e) _ (ext_take l e) (by simp; omega)).mono ?_
    rintro e' w2 ⟨va, rfl, hoA, hb2⟩
    have o0 := ownsRow_below (ownsRow_empty w1 21 1) hb2
    have hB2 : Below w1.heap.size w1 w2 := ((Below.refl _ w1).alloc (Nat.le_refl _) _).trans (hb2.mono (by simp))
    clear hb2
    have hs2 := hB2.size
    go_wp2_with (at_builtin; refine wpList_append_row rfl _ _ 27 rfl w1.heap.size 21 i0 (.int .i32 0) 1 4 Tryd.underlying27 hi hz0 hz1 hz2 rfl (by decide) _ _ _ rfl o0 va _ _ _ rfl hoA (one_map _ _) (by unfold maxLen; omega) (by omega) (by omega) ?_)
    intro v1 w3 o1 gr1
    have hB3 : Below w1.heap.size w1 w3 := hB2.grown gr1 hB2.size (fun k hk => (o0.lt k hk).1)
    clear o0 gr1 hoA hB2
    go_wp2_with fail
    refine (runes_eq _ (l.drop e) _ (ext_drop l e) (by simp; omega)).mono ?_
    rintro e' w4 ⟨vb, rfl, hoB, hb4⟩
    have o1' := ownsRow_below o1 hb4
    have hB4 : Below w1.heap.size w1 w4 := hB3.trans (hb4.mono hB3.size)
    clear hb4 o1 hB3
    have hs4 := hB4.size
    go_wp2_with (at_builtin; refine wpList_append_row rfl _ _ 27 rfl w1.heap.size 21 i0 (.int .i32 0) 1 4 Tryd.underlying27 hi hz0 hz1 hz2 rfl (by decide) _ _ _ rfl o1' vb _ _ _ rfl hoB (one_map _ _) (by unfold maxLen; omega) (by omega) (by omega) ?_)
    intro v2 w5 o2 gr2
    have hB5 : Below w1.heap.size w1 w5 := hB4.grown gr2 hB4.size (fun k hk => (o1'.lt k hk).1)
    have o2' : w5.ownsRow w1.heap.size 21 1 v2 (rns l).length ((rns l).map (Value.int .i32)) := by rw [HR.out]; simpa using o2
    clear o1' gr2 hoB hB4 o2
    go_wp2_with fail
    refine (runes_eq _ l _ rfl hl').mono ?_
    rintro e' w6 ⟨vs, rfl, hoS, hb6⟩
    have R2 := hid (Reads.of_row (ownsRow_below o2' hb6))
    have RS := hid (Reads.of_row hoS)
    have hB6 : Below w1.heap.size w1 w6 := hB5.trans (hb6.mono hB5.size)
    have ls := rns_len l
    clear hb6 o2' hB5 hoS
    go_wp2_with fail
    refine (alike_any _ _ (rns l) _ (by omega) R2.out RS.out).mono ?_
    rintro e' w7 ⟨rfl, hb7⟩
    have hB7 : Below w1.heap.size w1 w7 := hB6.trans (hb7.mono hB6.size)
    have g7 : 2 ≤ w7.heap.size := by have := hB7.size; omega
    have HT7 := hid (tabs_below HT1.out g1 hB7)
    have HB7 := hid (HB1.out.trans (hB7.mono HB1.out.size))
    clear hb7 hB6 hB7 R2 RS HT1 HB1
    obtain ⟨j0, hj, hy0, hy1, hy2⟩ := info_parts Tryd.info3
    have fa := flt_len (l.take e)
    have fb := flt_len (l.drop e)
    simp only [List.length_take, List.length_drop] at fa fb
    go_wp2_with fail
    refine (faults_eq _ (l.take e) _ (ext_take l e) (by simp; omega)).mono ?_
    rintro e' w8 ⟨va', rfl, hoA, hb8⟩
    have o0 := ownsRow_below (ownsRow_empty w7 3 1) hb8
    have hB8 : Below w7.heap.size w7 w8 := ((Below.refl _ w7).alloc (Nat.le_refl _) _).trans (hb8.mono (by simp))
    have hs8 := hB8.size
    clear hb8
    go_wp2_with (at_builtin; refine wpList_append_row rfl _ _ 32 rfl w7.heap.size 3 j0 (.int .i64 0) 1 8 Tryd.underlying32 hj hy0 hy1 hy2 rfl (by decide) _ _ _ rfl o0 va' _ _ _ rfl hoA (one_map _ _) (by unfold maxLen; omega) (by omega) (by omega) ?_)
    intro vf w9 of9 gr9
    have hB9 : Below w7.heap.size w7 w9 := hB8.grown gr9 hB8.size (fun k hk => (o0.lt k hk).1)
    have of9' : w9.ownsRow w7.heap.size 3 1 vf (flt (l.take e)).length ((flt (l.take e)).map (Value.int .i64)) := by simpa using of9
    clear o0 gr9 hoA hB8
    go_wp2_with fail
    refine (faults_eq _ (l.drop e) _ (ext_drop l e) (by simp; omega)).mono ?_
    rintro e' w10 ⟨vg, rfl, hoG, hb10⟩
    have of10 := ownsRow_below of9' hb10
    have hB10 : Below w7.heap.size w7 w10 := hB9.trans (hb10.mono hB9.size)
    have hs10 := hB10.size
    have hs910 := hb10.size
    have HOF := hid (show ∀ b, vf.ownBlock = some b → b < w9.heap.size ∨ w10.heap.size ≤ b from fun b hb => .inl (of9'.lt b hb).2)
    obtain ⟨ao, cap, rfl, hao⟩ := owns_form hoG
    have hcell : ∀ (k : Nat) (z : Int), (flt (l.drop e))[k]? = some z → ∃ g, ao = some ⟨g, 0, none⟩ ∧ w9.heap.size ≤ g ∧ g < w10.heap.size ∧ w10.cell? ⟨g, k, none⟩ = some (.int .i64 z) := fun k z hk => by
      have hkl : k < (flt (l.drop e)).length := (List.getElem?_eq_some_iff.1 hk).1
      obtain ⟨g, hg, hg0, hg1⟩ := hao (by omega)
      have hc := hoG.cells (g := g) (by rw [hg]; rfl) k (.int .i64 z) (by rw [List.getElem?_map, hk]; rfl)
      rw [show (⟨g, 0, none⟩ : Addr).add k = ⟨g, k, none⟩ by unfold Addr.add; split <;> simp_all] at hc
      exact ⟨g, hg, hg0, hg1, hc⟩
    have HC := hid hcell
    have HO := hid of10
    have HB10 := hid hB10
    clear hcell hoG hao hb10 of9 of9' hB9 of10 hB10
    obtain ⟨A, hA⟩ : ∃ A, A = flt (l.take e) := ⟨_, rfl⟩
    obtain ⟨G, hG⟩ : ∃ G, G = flt (l.drop e) := ⟨_, rfl⟩
    have HGB := hid (show ∀ z ∈ G, 0 ≤ z ∧ z ≤ 500 from fun z hz => by
      rw [hG] at hz
      have := flt_bd _ z hz
      simp only [List.length_drop] at this
      omega)
    rw [← hA, ← hG] at HF
    rw [← hA] at HO fa
    rw [← hG] at HC fb ⊢
    clear hA hG
    go_wp2
    go_loopw [7, 9] (fun f i wr => ∃ k : Nat, i = .int .i64 k ∧ k ≤ G.length ∧ wr.ownsRow w7.heap.size 3 1 f (A.length + k) (fe A G e k) ∧
      Hid (∀ b, f.ownBlock = some b → b < w9.heap.size ∨ w10.heap.size ≤ b) ∧ Hid (∀ k, w9.heap.size ≤ k → k < w10.heap.size → wr.heap[k]? = w10.heap[k]?) ∧ Hid (Below w7.heap.size w7 wr) ∧ w10.heap.size ≤ wr.heap.size) (fun _ i _ => G.length - (intOf i).toNat)
    case atStart => exact ⟨0, rfl, by omega, by rw [fe_zero]; exact HO.out, HOF, fun _ _ _ => rfl, HB10, Nat.le_refl _⟩
    case round =>
      obtain ⟨k, rfl, hk, hown, HOB, HSM, HBr, hsr⟩ := hrel
      by_cases hlt : k < G.length
      · obtain ⟨g, rfl, hg0, hg1, hc10⟩ := HC.out k G[k] (List.getElem?_eq_getElem hlt)
        obtain ⟨hz0', hz1'⟩ := HGB.out G[k] (List.getElem_mem hlt)
        have hcr : wr.cell? ⟨g, k, none⟩ = some (.int .i64 G[k]) := (World.cell?_of_block (HSM.out g hg0 hg1)).trans hc10
        have HTK := hid (fe_succ A G e k hlt)
        obtain ⟨z, hz⟩ : ∃ z, z = G[k] := ⟨_, rfl⟩
        rw [← hz] at hcr hz0' hz1' HTK
        clear hz hc10
        have hbr := HBr.out.size
        go_wp2_with (at_builtin; refine wpList_append_own_at _ rfl _ _ 32 rfl w7.heap.size 3 j0 (.int .i64 0) 1 8 Tryd.underlying32 hj hy0 hy1 hy2 rfl (by decide) _ _ _ rfl (hown.alloc _) ⟨wr.heap.size, 0, none⟩ 1 1 [.int .i64 (z + e)] rfl rfl (cell_one_new _ _ _) (by simp [Value.oneCell']) (by unfold maxLen; omega) (by omega) (by simp; omega) ?_)
        intro v' w2 hown' hgrow _ hat
        have hsg := hgrow.size
        rw [World.size_alloc] at hsg
        have hown2 : w2.ownsRow w7.heap.size 3 1 v' (A.length + (k + 1)) (fe A G e (k + 1)) := by
          rw [HTK.out]; exact hown'
        have HOB2 : Hid (∀ b, v'.ownBlock = some b → b < w9.heap.size ∨ w10.heap.size ≤ b) := fun b hb => by
          rcases hat with h | h
          · exact HOB.out b (h ▸ hb)
          · rw [h] at hb; cases hb; right; omega
        have HSM2 : Hid (∀ k, w9.heap.size ≤ k → k < w10.heap.size → w2.heap[k]? = w10.heap[k]?) := fun j h1 h3 => by
          have hne : some j ≠ _ := fun hj' => by
            have := HOB.out j hj'.symm
            omega
          rw [hgrow.block j (by simp; omega) hne, Below.heap_alloc _ _ _ (by omega)]
          exact HSM.out j h1 h3
        have HB2 := hid ((HBr.out.alloc HBr.out.size _).grown hgrow (by simp; omega) (fun k hk => (hown.lt k hk).1))
        clear hown' hgrow hown hcr hat HTK HOB HSM HBr
        go_wp2
        go_roundw
        case rel => exact ⟨k + 1, by go_num, by omega, hown2, HOB2, HSM2, HB2, by omega⟩
        case measure => simp [intOf]; omega
      · have hke : k = G.length := by omega
        have hfl : A.length + G.length = (flt l).length := by rw [HF.out]; simp
        rw [hke, fe_all, hfl, ← HF.out] at hown
        have hof := hown
        clear hown HOB HSM hfl
        go_wp2_with fail
        refine (faults_eq _ l _ rfl hl').mono ?_
        rintro e' w11 ⟨vs, rfl, hoS, hb11⟩
        have R2 := hid (Reads.of_row (ownsRow_below hof hb11))
        have RS := hid (Reads.of_row hoS)
        have hB11 : Below w7.heap.size w7 w11 := HBr.out.trans (hb11.mono HBr.out.size)
        have fs := flt_len l
        clear hb11 hof hoS
        go_wp2_with fail
        refine (places_any _ _ (flt l) _ (by omega) R2.out RS.out).mono ?_
        rintro e' w12 ⟨rfl, hb12⟩
        have HB12 := hid (HB7.out.trans ((hB11.trans (hb12.mono hB11.size)).mono HB7.out.size))
        clear R2 RS hB11 hb12 HBr
        have ll : (l.take e).length = e := by simp; omega
        have HTE := hid (show isE (l.take e) (e : Int) = true by
          rw [is_eq]; unfold isL; rw [List.any_eq_true]
          refine ⟨(e : Int), ?_, by simp⟩
          have := edg_len (l.take e)
          rw [ll] at this
          exact this)
        have HCI := hid (cut_is l e HI.out)
        clear ll HI HF HO HOF HC HGB HB10 HB7 HT7
        go_wp2
        go_loopw [10] (fun i wr => ∃ k : Nat, i = .int .i64 k ∧ k ≤ l.length + 1 ∧ Hid (Below w.heap.size w wr)) (fun i _ => l.length + 1 - (intOf i).toNat)
        case atStart => exact ⟨0, rfl, by omega, HB12⟩
        case round =>
          clear HB12
          obtain ⟨k, rfl, hk, HBr⟩ := hrel
          have HTr := hid (tabs_below HT.out h2 HBr.out)
          have gr : 2 ≤ wr.heap.size := by have := HBr.out.size; omega
          by_cases hkl : k ≤ l.length
          · by_cases hke : k ≤ e
            · cases hba : isE (l.take e) k with
              | true =>
                have HA := hid hba
                have HS := hid (show isE l k = true by rw [HCI.out k, hba]; simp [hke])
                clear hba
                go_wp2_with fail
                refine (is_eqs _ (l.take e) k true HA.out _ (ext_take l e) (by simp; omega) (by exact HTr.out) gr).mono ?_
                rintro e' w13 ⟨rfl, hb13⟩
                have HT13 := hid (tabs_below HTr.out gr hb13)
                have g13 : 2 ≤ w13.heap.size := by have := hb13.size; omega
                have HB13 := hid (HBr.out.trans (hb13.mono HBr.out.size))
                clear hb13
                go_wp2_with fail
                refine (is_eqb l k true HS.out _ hl' (by exact HT13.out) g13).mono ?_
                rintro e' w14 ⟨rfl, hb14⟩
                have HB14 := hid (HB13.out.trans (hb14.mono HB13.out.size))
                clear hb14
                go_wp2
                go_roundw
                case rel => exact ⟨k + 1, by go_num, by omega, HB14⟩
                case measure => simp [intOf]; omega
              | false =>
                have hlt : k < e := by
                  rcases Nat.lt_or_ge k e with h | h
                  · exact h
                  · exfalso
                    have : k = e := by omega
                    subst this
                    rw [HTE.out] at hba; cases hba
                have HA := hid hba
                have HS := hid (show isE l k = false by rw [HCI.out k, hba]; simp; omega)
                clear hba hke
                go_wp2_with fail
                refine (is_eqs _ (l.take e) k false HA.out _ (ext_take l e) (by simp; omega) (by exact HTr.out) gr).mono ?_
                rintro e' w13 ⟨rfl, hb13⟩
                have HT13 := hid (tabs_below HTr.out gr hb13)
                have g13 : 2 ≤ w13.heap.size := by have := hb13.size; omega
                have HB13 := hid (HBr.out.trans (hb13.mono HBr.out.size))
                clear hb13
                go_wp2_with fail
                refine (is_eqb l k false HS.out _ hl' (by exact HT13.out) g13).mono ?_
                rintro e' w14 ⟨rfl, hb14⟩
                have HB14 := hid (HB13.out.trans (hb14.mono HB13.out.size))
                clear hb14
                go_wp2
                go_roundw
                case rel => exact ⟨k + 1, by go_num, by omega, HB14⟩
                case measure => simp [intOf]; omega
            · obtain ⟨bb, hbb⟩ : ∃ bb, isE (l.drop e) ((k : Int) - e) = bb := ⟨_, rfl⟩
              have HA := hid hbb
              have HS := hid (show isE l k = bb by rw [HCI.out k, hbb]; simp [show ¬ k ≤ e by omega, show e ≤ k by omega])
              clear hbb
              go_wp2_with fail
              refine (is_eqs _ (l.drop e) ((k : Int) - e) bb HA.out _ (ext_drop l e) (by simp; omega) (by exact HTr.out) gr).mono ?_
              rintro e' w13 ⟨rfl, hb13⟩
              have HT13 := hid (tabs_below HTr.out gr hb13)
              have g13 : 2 ≤ w13.heap.size := by have := hb13.size; omega
              have HB13 := hid (HBr.out.trans (hb13.mono HBr.out.size))
              clear hb13
              go_wp2_with fail
              refine (is_eqb l k bb HS.out _ hl' (by exact HT13.out) g13).mono ?_
              rintro e' w14 ⟨rfl, hb14⟩
              have HB14 := hid (HB13.out.trans (hb14.mono HB13.out.size))
              clear hb14 HS HA
              cases bb with
              | true =>
                go_wp2
                go_roundw
                case rel => exact ⟨k + 1, by go_num, by omega, HB14⟩
                case measure => simp [intOf]; omega
              | false =>
                go_wp2
                go_roundw
                case rel => exact ⟨k + 1, by go_num, by omega, HB14⟩
                case measure => simp [intOf]; omega
          · go_wp2_with fail
            refine (live_any _ (by exact HTr.out) gr).mono ?_
            rintro e' w13 ⟨rfl, hb13⟩
            have HB13 := hid (HBr.out.trans (hb13.mono HBr.out.size))
            clear hb13
            go_wp2
            go_ret
            exact ⟨rfl, HB13.out⟩

theorem str_list (s : ByteArray) : ∃ l : List UInt8, s = ⟨l.toArray⟩ := ⟨s.data.toList, by cases s; rfl⟩

set_option maxRecDepth 100000 in
theorem cuts_lifted (os : Os) (started : os.Started) (H : Type) (enc : TypeId × Value → H) :
    ReturnsInHanded {} Tryd.checked os 8 .any (fun w args => (Rows.utfCutsSpec.pre enc Tryd.prog Tryd.f8 [] false w args ∧ laidMetH Tryd.prog laid2 w) ∧ sizedMet enc Tryd.prog Tryd.f8 (OpenSpec.ofChange Rows.utfCutsSpec) false w args)
      (Rows.utfCutsSpec.post enc Tryd.prog Tryd.f8 false true false false) := by
  refine returnsInHanded_of_change_and (C := Tryd.checked) (X := fun w _ => laidMetH Tryd.prog laid2 w) (fun _ _ _ hh h => h.of_heap hh) own started (by kernel_rfl) Tryd.func8
    (ChangeSpec.witness_shaped (enc := enc) (C := Tryd.checked) (os := os) (X := fun w _ => laidMetH Tryd.prog laid2 w) false (World.laidAll Tryd.prog os laid2) #[.string ⟨#[]⟩, .int .i64 0] 8 (World.laidAll_os _ _ _)
      (World.shaped_of_ZipB (by kernel_rfl) (by kernel_rfl)) (by kernel_rfl) (by kernel_rfl) (by kernel_rfl)
      (by rw [MakeChecks.laidMetH_plain _ _ _ (by kernel_rfl)]; exact laidMet_laidAll _ (by kernel_rfl) (by kernel_rfl))) ?_
  intro W base args ds gs before hval0 hW _ _ hL _
  have hval : ∀ (j : Nat) t v, Tryd.f8.params[j]? = some t → args[j]? = some v → Value.okWide Tryd.prog W .any base t v := hval0
  have hW' := hW
  obtain ⟨p, q, hA0, hV, rfl, hfz, hnd⟩ := hW
  have hA : DataW.TrodAll enc Tryd.prog W 0 (fun _ => true) true Tryd.f8.params.toList args.toList ds p := hA0
  rw [Tryd.params8] at hA hval
  obtain ⟨v0, v1, d0, d1, p0, p1, rfl, rfl, rfl, h0, h1⟩ := trodAll_two hA
  obtain ⟨rfl, rfl⟩ := trodVars_none hV
  obtain ⟨s, rfl, rfl, rfl, ws⟩ := open_string Tryd.underlying9 (hval 0 9 v0 rfl rfl) h0
  obtain ⟨x, rfl, rfl, rfl, wx⟩ := open_int Tryd.underlying3 (hval 1 3 v1 rfl rfl) h1
  obtain ⟨hT, h2⟩ := tabs_of_laid hL
  clear hA0 hval0
  obtain ⟨l, rfl⟩ := str_list s
  refine (cuts_walk l x W hT h2).mono fun e W' ⟨he, bel⟩ => ?_
  subst he
  exact ⟨_, rfl, _, _, _, [], _, [], hW', trodAll_mk1 (shut_bool Tryd.underlying4 _), trodAll_mk2 (shut_string Tryd.underlying9 ws) (shut_int Tryd.underlying3 wx), rfl, bel.frame _, fun h => by cases h⟩

theorem cuts_holds : Rows.UtfCutsSaid :=
  OpenClaim.holds_of_wide 8 Tryd.f8 rfl rfl rfl rfl rfl rfl rfl ⟨rfl, rfl, rfl, rfl, rfl⟩ rfl rfl rfl rfl rfl (by kernel_rfl) Tryd.func8 (by kernel_rfl)
    (of_decide_eq_true (by kernel_rfl)) (by unfold Func.isWrapper; first | (rw [if_pos (by decide +kernel)]; kernel_rfl) | (rw [if_neg (by decide +kernel)]; exact ⟨rfl, rfl⟩))
    (fun os started H enc _ => cuts_lifted os started H enc)

theorem utfCuts_proved : Rows.UtfCutsCardSaid :=
  Claim7.holds_tied_plain_at .later [] [.data, .pinned] true Rows.utfCutsCard.stood.harness false
    cuts_holds (fun _ h => by cases h) (by kernel_rfl) (fun _ h => by cases h) utfCuts_row_tie rfl ⟨rfl, rfl⟩ (by kernel_rfl) rfl
    (fun f fn hf hfn => by
      obtain rfl : f = 8 := Option.some.inj ((show Tryd.prog.funcNamed Rows.utfCutsRow.func = some 8 by kernel_rfl).symm.trans hf) |>.symm
      obtain rfl : fn = Tryd.f8 := (Option.some.inj (Tryd.func8.symm.trans hfn)).symm
      exact ⟨by kernel_rfl, fun j t ht => by
        rw [Tryd.params8] at ht
        have hm : t ∈ [9, 3] := by simpa using Array.mem_of_getElem? ht
        have hall : ([9, 3].all fun u => !Tryd.prog.wantsStandIn u) = true := by kernel_rfl
        exact (show Tryd.prog.wantsStandIn t = false by simpa using List.all_eq_true.1 hall t hm)⟩)
    (by kernel_rfl)
#print axioms utfCuts_proved
end Go.Proofs.YtflehkdijfhmgaaDoor
