/- The walk of UtfScans. -/
import Derived.Test.YtflehkdijfhmgabDoorScansKit
import Derived.Test.YtflehkdijfhmgabDoorLaid
namespace Go.Proofs.YtflehkdijfhmgabDoor
open Go.RowKit

/-- A piece that came in: its bytes, where they lie, whether it closes. -/
structure Pc where
  B : List UInt8
  ao : Option Addr
  cap : Nat
  cl : Bool
def InP (w : World) (lo : Option Addr) (P : List Pc) : Prop :=
  ∀ (i : Nat) (pc : Pc), P[i]? = some pc → ∃ a : Addr, lo = some a ∧ a.block < w.heap.size ∧ w.cell? (a.add (i * 2)) = some (.slice pc.ao pc.B.length pc.cap) ∧ w.cell? (a.add (i * 2 + 1)) = some (.bool pc.cl) ∧ (pc.ao = none → pc.cap = 0) ∧ RdB w pc.ao pc.B
def tot (P : List Pc) (k : Nat) : Nat := ((P.take k).map fun pc => pc.B.length).sum
theorem tot_succ (P : List Pc) (k : Nat) (h : k < P.length) : tot P (k + 1) = tot P k + P[k].B.length := by
  unfold tot
  rw [List.take_succ_eq_append_getElem h, List.map_append, List.sum_append]
  rfl
theorem tot_mono (P : List Pc) (k n : Nat) (h : k ≤ n) : tot P k ≤ tot P n := by
  induction n with
  | zero => have : k = 0 := by omega
            subst this; exact Nat.le_refl _
  | succ n ih =>
    by_cases e : k = n + 1
    · subst e; exact Nat.le_refl _
    · have h1 := ih (by omega)
      by_cases hn : n < P.length
      · rw [tot_succ P n hn]; omega
      · have : tot P (n + 1) = tot P n := by
          unfold tot
          rw [List.take_of_length_le (by omega), List.take_of_length_le (by omega)]
        omega

/-- append of a slice that came in, nil or not. -/
theorem wpList_append_in {P : Program} {w : World} {ops : Array Oper} {rest : List Oper} {o : Oper} {a : Act} {Q : Exit → Act → World → Prop} (hgd : o.guard = none) (s x : Operand) (t : TypeId)
    (ho : o.op = .call { callee := .builtin .append, args := #[s, x], argTypes := #[t, t] })
    (base : Nat) (e : TypeId) (i : TypeInfo) (z : Value) (bytes : Nat) (ht : P.underlying t = some (.slice e)) (hi : P.info? e = some i) (hz : i.zero = some z)
    (hsize : i.size = 1) (hby : i.bytes = bytes) (hzs : z.cells.size = 1)
    (v : Value) (n : Nat) (xs : List Value) (hs : a.eval s = v) (hown : w.ownsRow base e 1 v n xs)
    (ao : Option Addr) (cap : Nat) (B : List UInt8) (hx : a.eval x = .slice ao B.length cap) (hcap : ao = none → cap = 0) (hE : RdB w ao B)
    (h63 : n + B.length ≤ maxLen) (hbytes : (n + B.length) * bytes ≤ 140737488355328) (hbase : base ≤ w.heap.size)
    (h : ∀ v' w', w'.ownsRow base e 1 v' (n + B.length) (xs ++ B.map fun b => Value.int .u8 (b.toNat : Int)) → w.grownBy w' v.ownBlock → wpList P ops Q rest (a.put o.dst v') w') : wpList P ops Q (o :: rest) a w := by
  cases ao with
  | none =>
    have hn : B = [] := by
      cases B with
      | nil => rfl
      | cons y ys => obtain ⟨a', h', _⟩ := hE 0 y rfl; cases h'
    subst hn
    rw [hcap rfl] at hx
    exact wpList_append_own_none hgd s x t ho base e i 1 ht hi v n xs hs hown hx (h v w (by simpa using hown) (World.grownBy.refl _ _))
  | some ad =>
    refine wpList_append_own w hgd s x t ho base e i z 1 bytes ht hi hz hsize hby hzs (by decide) v n xs hs hown ad B.length cap (B.map fun b => Value.int .u8 (b.toNat : Int)) hx (by simp) (fun j u hj => ?_) (by intro u hu; rw [List.mem_map] at hu; obtain ⟨y, _, rfl⟩ := hu; rfl) h63 hbytes hbase (fun v' w' a b _ => h v' w' a b)
    rw [List.getElem?_map] at hj
    cases hk : B[j]? with
    | none => rw [hk] at hj; cases hj
    | some z =>
      rw [hk] at hj
      obtain ⟨a', h', _, h2⟩ := hE j z hk
      cases h'; cases hj
      exact h2
theorem row_empty (w : World) (e : TypeId) (size : Nat) : (w.alloc (.cells #[] e)).ownsRow w.heap.size e size (.slice (some ⟨w.heap.size, 0, none⟩) 0 0) 0 [] :=
  ⟨by simp, .inr ⟨w.heap.size, 0, #[], rfl, Nat.le_refl _, show (w.heap.push (.cells #[] e))[w.heap.size]? = _ by simp, Nat.le_refl _, by simp [maxLen], by simp, by simp⟩⟩
theorem cells_take {w : World} {g n : Nat} {cur : Array Value} {xs : List Value} (hg : w.heap[g]? = some (.cells cur 5 (0, 0))) (h : cur.toList.take n = xs) (k : Nat) (u : Value) (hk : xs[k]? = some u) : w.cell? ⟨g, k, none⟩ = some u := by
  rw [cell_of_row w g k cur 5 (0, 0) hg]
  rw [← h, List.getElem?_take] at hk
  split at hk
  · simpa using hk
  · cases hk

theorem World.alloc_heap_new' (w : World) (o : Obj) : (w.alloc o).heap[w.heap.size]? = some o := by show (w.heap.push o)[w.heap.size]? = _; simp

theorem mkcs_len : ∀ ms : List Mk, (mkcs ms).length = ms.length * 4
  | [] => rfl
  | m :: ms => by
    show (mkc m ++ mkcs ms).length = _
    rw [List.length_append, mkcs_len ms, List.length_cons]
    show 4 + _ = _
    omega
theorem mkcs_ones (ms : List Mk) : ∀ u ∈ mkcs ms, u.oneCell' = true := fun u hu => by
  unfold mkcs at hu
  rw [List.mem_flatMap] at hu
  obtain ⟨m, _, h⟩ := hu
  exact mkc_one m u h
theorem mkcs_app (a b : List Mk) : mkcs (a ++ b) = mkcs a ++ mkcs b := by simp [mkcs]
/-- append of a list of marks, nil or not, to one of the call's own. -/
theorem wp_append_marks {w : World} {o : Oper} {a : Act} {K : Act → World → Prop} {Q : Exit → Act → World → Prop} (s x : Operand)
    (ho : o.op = .call { callee := .builtin .append, args := #[s, x], argTypes := #[38, 38] }) (base bx : Nat) (v vx : Value) (ms ns : List Mk) (hs : a.eval s = v) (hown : w.ownsRow base 50 4 v ms.length (mkcs ms))
    (hx : a.eval x = vx) (hvx : w.ownsRow bx 50 4 vx ns.length (mkcs ns)) (hl : ms.length + ns.length ≤ 1000000) (hbase : base ≤ w.heap.size)
    (h : ∀ v' w', w'.ownsRow base 50 4 v' (ms ++ ns).length (mkcs (ms ++ ns)) → w.grownBy w' v.ownBlock → K (a.put o.dst v') w') : o.wp Tryd.prog a w K Q := by
  obtain ⟨i0, hi, hz0, hz1, hz2⟩ := info_parts Tryd.info50
  rcases hvx.2 with ⟨h1, h2⟩ | ⟨g, cap, cur, h1, h2, h3, h4, h5, h6, h7⟩
  · have hn : ns = [] := List.length_eq_zero_iff.1 h2
    subst hn
    have hK := h v w (by simpa using hown) (World.grownBy.refl _ _)
    have hrun := run_append_owned_none (P := Tryd.prog) (w := w) base 38 o.type 50 i0 4 Tryd.underlying38 hi v ms.length (mkcs ms) hown
    rw [h1] at hx
    unfold Oper.wp
    simp [execOp, ho, resolve, invoke, builtin, hs, hx, hrun, Result.andThen]
    exact hK
  · refine wp_append_own w s x 38 ho base 50 i0 _ 4 24 Tryd.underlying38 hi hz0 hz1 hz2 rfl (by decide) v ms.length (mkcs ms) hs hown ⟨g, 0, none⟩ ns.length cap (mkcs ns) (hx.trans h1) (mkcs_len ns) (fun j u hj => ?_) (mkcs_ones ns) (by unfold maxLen; omega) (by omega) hbase (fun v' w' a b _ => h v' w' (by rw [mkcs_app, List.length_append]; exact a) b)
    exact hvx.cells (g := g) (by rw [h1]; rfl) j u hj
theorem wpList_append_marks {w : World} {ops : Array Oper} {rest : List Oper} {o : Oper} {a : Act} {Q : Exit → Act → World → Prop} (hgd : o.guard = none) (s x : Operand)
    (ho : o.op = .call { callee := .builtin .append, args := #[s, x], argTypes := #[38, 38] }) (base bx : Nat) (v vx : Value) (ms ns : List Mk) (hs : a.eval s = v) (hown : w.ownsRow base 50 4 v ms.length (mkcs ms))
    (hx : a.eval x = vx) (hvx : w.ownsRow bx 50 4 vx ns.length (mkcs ns)) (hl : ms.length + ns.length ≤ 1000000) (hbase : base ≤ w.heap.size)
    (h : ∀ v' w', w'.ownsRow base 50 4 v' (ms ++ ns).length (mkcs (ms ++ ns)) → w.grownBy w' v.ownBlock → wpList Tryd.prog ops Q rest (a.put o.dst v') w') : wpList Tryd.prog ops Q (o :: rest) a w :=
  wpList_plain hgd fun _ hK => wp_append_marks s x ho base bx v vx ms ns hs hown hx hvx hl hbase fun v' w' h1 h2 => hK _ _ (h v' w' h1 h2)
/-- The same, at an operation that a guard lets through. -/
theorem wpList_append_guarded {w : World} {ops : Array Oper} {rest : List Oper} {o : Oper} {a : Act} {Q : Exit → Act → World → Prop} (s x : Operand)
    (ho : o.op = .call { callee := .builtin .append, args := #[s, x], argTypes := #[38, 38] }) (base bx : Nat) (v vx : Value) (ms ns : List Mk) (hw : Region.wanted o (yielded ops a.tmps) = true) (hs : a.eval s = v) (hown : w.ownsRow base 50 4 v ms.length (mkcs ms))
    (hx : a.eval x = vx) (hvx : w.ownsRow bx 50 4 vx ns.length (mkcs ns)) (hl : ms.length + ns.length ≤ 1000000) (hbase : base ≤ w.heap.size)
    (h : ∀ v' w', w'.ownsRow base 50 4 v' (ms ++ ns).length (mkcs (ms ++ ns)) → w.grownBy w' v.ownBlock → wpList Tryd.prog ops Q rest (a.put o.dst v') w') : wpList Tryd.prog ops Q (o :: rest) a w :=
  wpList_step fun _ hK => by
    simp only [hw, if_true]
    exact wp_append_marks s x ho base bx v vx ms ns hs hown hx hvx hl hbase fun v' w' h1 h2 => hK _ _ (h v' w' h1 h2)
theorem ownsRow_but2 {x n B : Nat} {w w' : World} {e : TypeId} {size : Nat} {v : Value} {m : Nat} {xs : List Value} (h : w.ownsRow B e size v m xs) (k : But x n w w') (hn : w.heap.size ≤ n) (hx : ∀ j, v.ownBlock = some j → j ≠ x) : w'.ownsRow B e size v m xs := by
  refine ⟨h.1, ?_⟩
  rcases h.2 with h0 | ⟨g, cap, cur, hv, hb, hg, hr⟩
  · exact Or.inl h0
  · exact Or.inr ⟨g, cap, cur, hv, hb, (k.block g (Nat.lt_of_lt_of_le (Array.getElem?_eq_some_iff.1 hg).1 hn) (hx g (by rw [hv]; rfl))).trans hg, hr⟩

/-- The marks that become sure with some more bytes. -/
def newm (S B : List UInt8) : List Mk := (sc (tln S) (ib (S.drop (tln S) ++ B))).1
theorem newm_len (S B : List UInt8) : (newm S B).length ≤ S.length + B.length := by
  have h := scu_le (ib (S.drop (tln S) ++ B)).length (tln S) (ib (S.drop (tln S) ++ B)) (Nat.le_refl _)
  rw [ib_len, List.length_append, List.length_drop] at h
  unfold newm; omega
theorem tld_new (S B : List UInt8) : tld (S ++ B) = tld S ++ newm S B := (tld_app S B).1
theorem feed_new (x q oq cp : Nat) (S B : List UInt8) (w : World) (hs : ScAt w x (ib (S.drop (tln S))) S.length) (hS : S.length ≤ 100000) (hB : B.length ≤ 100000) (hqx : q ≠ x) (hcp : B.length ≤ cp) (hq : q < w.heap.size)
    (hc : ∀ i b, B[i]? = some b → w.cell? ⟨q, oq + i, none⟩ = some (.int .u8 (b.toNat : Int))) :
    Calls Tryd.prog 11 #[.pointer (some ⟨x, 0, none⟩), .slice (some ⟨q, oq, none⟩) B.length cp] w fun e w' => ∃ v, e = .returned v ∧
      w'.ownsRow w.heap.size 50 4 v (newm S B).length (mkcs (newm S B)) ∧ ScAt w' x (ib ((S ++ B).drop (tln (S ++ B)))) (S ++ B).length ∧ But x w.heap.size w w' := feed_bytes x q oq cp S B w hs hS hB hqx hcp hq hc
theorem rfeed_new (y : Nat) (S B : List UInt8) (pv : Value) (w : World) (hy : RAt w y S (tln S)) (hl : S.length + B.length ≤ 1000000000) (hcv : (convert 30 9 pv).run Tryd.prog w.drew = .ok (.string ⟨B.toArray⟩) w.drew) :
    Calls Tryd.prog 13 #[.pointer (some ⟨y, 0, none⟩), pv] w fun e w' => ∃ v, e = .returned v ∧ w'.ownsRow w.heap.size 50 4 v (newm S B).length (mkcs (newm S B)) ∧ RAt w' y (S ++ B) (tln (S ++ B)) ∧ But y w.heap.size w w' := by
  refine (rfeed_any y S B (tln S) pv w hy (tln_le S) hl hcv).mono ?_
  rintro e w' ⟨v, he, ho, hr, hb⟩
  rw [List.drop_append_of_le_length (tln_le S)] at ho hr
  exact ⟨v, he, ho, by rw [(tld_app S B).2]; exact hr, hb⟩

theorem field1 (a : Addr) (k : Nat) : (⟨(a.add (k * 2)).block, (a.add (k * 2)).off + 1, none⟩ : Addr) = a.add (k * 2 + 1) := by
  unfold Addr.add
  rw [if_neg (show ¬ k * 2 + 1 = 0 by omega)]
  split
  · simp
  · simp; omega

/-- What stands between two rounds: what was told, both Scanners, and that nothing older was turned. -/
structure St (w : World) (S : List UInt8) (td : Value) (wr : World) : Prop where
  own : wr.ownsRow (w.heap.size + 2) 50 4 td (tld S).length (mkcs (tld S))
  sc : ScAt wr w.heap.size (ib (S.drop (tln S))) S.length
  ra : RAt wr (w.heap.size + 1) S (tln S)
  bel : Below w.heap.size w wr
theorem St.below {w : World} {S : List UInt8} {td : Value} {wr w' : World} (h : St w S td wr) (hb : Below wr.heap.size wr w') : St w S td w' :=
  ⟨ownsRow_below h.own hb (Nat.le_refl _), h.sc.same (hb.block _ h.sc.lt), h.ra.below hb h.ra.lt, h.bel.trans (hb.mono h.bel.size)⟩

set_option maxRecDepth 100000 in
set_option maxHeartbeats 4000000 in
theorem scans_walk (lo : Option Addr) (lcap : Nat) (P : List Pc) (w : World) (hT : Lib.Utf8Tabs 0 1 w) (h2 : 2 ≤ w.heap.size) (hP : InP w lo P) (hsz : ∀ (k : Nat) (pc : Pc), P[k]? = some pc → pc.B.length ≤ 1125899906842624) :
    Calls Tryd.prog 4 #[.slice lo P.length lcap] w fun e w' => e = .returned (.bool true) ∧ Below w.heap.size w w' := by
  have HT := hid hT
  have HP := hid hP
  have HSZ := hid hsz
  clear hT hP hsz
  go_enter Tryd.func4, Tryd.ntmps4
  go_wp2
  go_loopw [3, 4] (fun n i wr => ∃ k m : Nat, k ≤ P.length ∧ k ≤ 201 ∧ i = .int .i64 k ∧ n = .int .i64 m ∧ Hid (m = tot P k) ∧ m ≤ k * 1125899906842624 ∧ wr = w) (fun _ i _ => 202 - (intOf i).toNat)
  case atStart => exact ⟨0, 0, by omega, by omega, rfl, rfl, rfl, by omega, rfl⟩
  case round =>
    obtain ⟨k, m, hk, hk2, rfl, rfl, HM, hm, hwr⟩ := hrel
    obtain rfl := hwr.symm
    clear hwr
    by_cases hlt : k < P.length
    · by_cases h200 : k ≤ 200
      · obtain ⟨a, rfl, ha, c0, _, _, _⟩ := HP.out k P[k] (List.getElem?_eq_getElem hlt)
        have hle := HSZ.out k P[k] (List.getElem?_eq_getElem hlt)
        have HM1 := hid (tot_succ P k hlt)
        obtain ⟨bl, hbl⟩ : ∃ bl, bl = P[k].B.length := ⟨_, rfl⟩
        obtain ⟨ba, hba⟩ : ∃ ba, ba = P[k].ao := ⟨_, rfl⟩
        obtain ⟨bc, hbc⟩ : ∃ bc, bc = P[k].cap := ⟨_, rfl⟩
        rw [← hbl] at c0 hle HM1
        rw [← hba, ← hbc] at c0
        clear hbl hba hbc
        go_wp2
        go_roundw
        case rel => exact ⟨k + 1, m + bl, by omega, by omega, by go_num, by go_num, by show _ = _; rw [HM1.out, HM.out], by omega, by first | rfl | trivial⟩
        case measure => simp [intOf]; omega
      · go_wp2_with (go_at_call 6; refine (live_any _ (by exact HT.out) (by exact h2)).mono ?_; rintro e w1 ⟨rfl, hb⟩)
        go_ret
        exact ⟨rfl, hb⟩
    · have hke : k = P.length := by omega
      subst hke
      by_cases h200 : (200 : Int) < P.length
      · go_wp2_with (go_at_call 6; refine (live_any _ (by exact HT.out) (by exact h2)).mono ?_; rintro e w1 ⟨rfl, hb⟩)
        go_ret
        exact ⟨rfl, hb⟩
      by_cases h2000 : (2000 : Int) < m
      · go_wp2_with (go_at_call 6; refine (live_any _ (by exact HT.out) (by exact h2)).mono ?_; rintro e w1 ⟨rfl, hb⟩)
        go_ret
        exact ⟨rfl, hb⟩
      have htot : ∀ k, k ≤ P.length → tot P k ≤ 2000 := fun k hk => by have h1 := tot_mono P k P.length hk; have h3 := HM.out; omega
      have HTOT := hid htot
      have hPl : P.length ≤ 200 := by omega
      clear htot hlt hk hk2 HM hm
      go_wp2_with (go_at_call 10; refine (new_any _).mono ?_; rintro e w1 ⟨rfl, rfl⟩)
      obtain ⟨i5, hi, hz0, hz1, hz2⟩ := info_parts Tryd.info5
      obtain ⟨W0, hW0⟩ : ∃ W0, W0 = (w.alloc (.cells #[.int .u8 0, .int .u8 0, .int .u8 0, .int .i64 0, .int .i64 0] 56)).alloc (.cells #[.string ⟨#[]⟩, .int .i64 0] 37) := ⟨_, rfl⟩
      have HS0 := hid (show St w [] (.slice none 0 0) W0 from by
        have e0 : (w.alloc (.cells #[.int .u8 0, .int .u8 0, .int .u8 0, .int .i64 0, .int .i64 0] 56)).heap[w.heap.size]? = some (.cells #[.int .u8 0, .int .u8 0, .int .u8 0, .int .i64 0, .int .i64 0] 56) := by show (w.heap.push _)[w.heap.size]? = _; simp
        have e1 : W0.heap[w.heap.size + 1]? = some (.cells #[.string ⟨#[]⟩, .int .i64 0] 37) := by rw [hW0]; have h := World.alloc_heap_new' (w.alloc (.cells #[.int .u8 0, .int .u8 0, .int .u8 0, .int .i64 0, .int .i64 0] 56)) (.cells #[.string ⟨#[]⟩, .int .i64 0] 37); rw [World.size_alloc] at h; exact h
        refine ⟨World.ownsRow_nil _ _ _ _, ?_, e1, ?_⟩
        · exact ⟨0, 0, 0, by rw [hW0, Below.heap_alloc _ _ _ (by simp)]; exact e0, rfl, by simp [ib]⟩
        · rw [hW0]; exact ((Below.refl _ w).alloc (Nat.le_refl _) _).alloc (by simp) _)
      rw [← hW0]
      clear hW0
      go_loopw [7, 8, 9] (fun wh td i wr => ∃ (k : Nat) (S : List UInt8), k ≤ P.length ∧ i = .int .i64 k ∧ wh = .string ⟨S.toArray⟩ ∧ Hid (S.length ≤ tot P k) ∧ Hid (St w S td wr)) (fun _ _ i _ => P.length - (intOf i).toNat)
      case atStart => exact ⟨0, [], by omega, rfl, rfl, Nat.zero_le _, HS0⟩
      case round =>
        obtain ⟨k, S, hk, rfl, rfl, HSL, HST⟩ := hrel
        by_cases hkl : k < P.length
        · obtain ⟨a, rfl, ha, c0, c1, hcap, hrd⟩ := HP.out k P[k] (List.getElem?_eq_getElem hkl)
          have hS2 : S.length ≤ 2000 := Nat.le_trans HSL.out (HTOT.out k hk)
          have hB2 : P[k].B.length ≤ 2000 := by have h1 := HTOT.out (k + 1) (by omega); rw [tot_succ P k hkl] at h1; omega
          have HSL1 := hid (show S.length + P[k].B.length ≤ tot P (k + 1) by rw [tot_succ P k hkl]; have := HSL.out; omega)
          have hbel := HST.out.bel
          have HC0 := hid (show ∀ W, Below w.heap.size w W → W.cell? (a.add (k * 2)) = some (.slice P[k].ao P[k].B.length P[k].cap) from fun W hW => (hW.cell (p := a.add (k * 2)) (by rw [add_blk]; exact ha)).trans c0)
          have HC1 := hid (show ∀ W, Below w.heap.size w W → W.cell? (a.add (k * 2 + 1)) = some (.bool P[k].cl) from fun W hW => (hW.cell (p := a.add (k * 2 + 1)) (by rw [add_blk]; exact ha)).trans c1)
          replace c0 := (hbel.cell (p := a.add (k * 2)) (by rw [add_blk]; exact ha)).trans c0
          have HRD := hid (show ∀ W, Below w.heap.size w W → RdB W P[k].ao P[k].B from fun W hW j b hj => by
            obtain ⟨b', h1, h3, h4⟩ := hrd j b hj
            exact ⟨b', h1, Nat.lt_of_lt_of_le h3 hW.size, (hW.cell (p := b'.add j) (by rw [add_blk]; exact h3)).trans h4⟩)
          have HCAP := hid hcap
          clear hrd hcap c1
          obtain ⟨B, hB⟩ : ∃ B, B = P[k].B := ⟨_, rfl⟩
          obtain ⟨bo, hbo⟩ : ∃ bo, bo = P[k].ao := ⟨_, rfl⟩
          obtain ⟨bc, hbc⟩ : ∃ bc, bc = P[k].cap := ⟨_, rfl⟩
          obtain ⟨cl, hcl⟩ : ∃ cl, cl = P[k].cl := ⟨_, rfl⟩
          rw [← hB] at c0 hB2 HSL1 HRD HC0
          rw [← hbo] at c0 HRD HCAP HC0
          rw [← hbc] at c0 HCAP HC0
          rw [← hcl] at HC1
          clear hB hbo hbc hcl
          have hws := hbel.size
          have hw2 : w.heap.size + 1 < wr.heap.size := HST.out.ra.lt
          obtain ⟨nr, hnr⟩ : ∃ nr, nr = wr.heap.size := ⟨_, rfl⟩
          have HTB := hid (show ∀ j, u8.ownBlock = some j → j < nr from fun j hj => by rw [hnr]; exact (HST.out.own.lt j hj).2)
          have HNR := hid hnr
          clear hnr
          have o0 := row_empty wr 5 1
          have HE0 := hid (HRD.out (wr.alloc (.cells #[] 5)) (hbel.alloc hws _))
          have cA : (wr.alloc (.cells #[] 5)).cell? (a.add (k * 2)) = some (.slice bo B.length bc) := (((Below.refl wr.heap.size wr).alloc (Nat.le_refl _) _).cell (p := a.add (k * 2)) (by rw [add_blk]; omega)).trans c0
          go_wp2_with (at_builtin; refine wpList_append_in rfl _ _ 30 rfl wr.heap.size 5 i5 (.int .u8 0) 1 Tryd.underlying30 hi hz0 hz1 hz2 (by rfl) (.slice (some ⟨wr.heap.size, 0, none⟩) 0 0) 0 [] (by rfl) o0 bo bc B ?hx HCAP.out HE0.out (by unfold maxLen; omega) (by omega) (by simp) ?_)
          case hx => rfl
          intro v1 w1 o1 gr1
          have hB1 : Below wr.heap.size wr w1 := ((Below.refl wr.heap.size wr).alloc (Nat.le_refl _) _).grown gr1 (by simp) (fun k hk => (o0.lt k hk).1)
          have hs1 := hB1.size
          have o1' : w1.ownsRow wr.heap.size 5 1 v1 B.length (B.map fun b => Value.int .u8 (b.toNat : Int)) := by simpa using o1
          clear gr1 o0 HE0 o1 cA
          go_wp2_with (at_builtin; refine wpList_append_own _ rfl _ _ 30 rfl wr.heap.size 5 i5 (.int .u8 0) 1 1 Tryd.underlying30 hi hz0 hz1 hz2 rfl (by decide) _ _ _ rfl (o1'.alloc _) ⟨w1.heap.size, 0, none⟩ 1 1 [.int .u8 9] rfl rfl (news_one w1 #[.int .u8 9] 5) (by intro u hu; simp at hu; subst hu; rfl) (by unfold maxLen; omega) (by omega) (by simp; omega) ?_)
          intro v2 w2 o2 gr2 _
          have hB2' : Below wr.heap.size wr w2 := (hB1.alloc hB1.size _).grown gr2 (by simp; omega) (fun k hk => (o1'.lt k hk).1)
          obtain ⟨g, cap2, cur, rfl, hbg, hg, hcap2, hcm, hcs, htk⟩ : ∃ g cap2 cur, v2 = .slice (some ⟨g, 0, none⟩) (B.length + 1) cap2 ∧ wr.heap.size ≤ g ∧ w2.heap[g]? = some (.cells cur 5 (0, 0)) ∧ B.length + 1 ≤ cap2 ∧ cap2 ≤ maxLen ∧ cur.size = cap2 * 1 ∧ cur.toList.take ((B.length + 1) * 1) = (B.map fun b => Value.int .u8 (b.toNat : Int)) ++ [.int .u8 9] := by
            rcases o2.2 with ⟨_, h0⟩ | h
            · omega
            · exact h
          have HST2 := hid (HST.out.below hB2')
          have HG := hid hg
          have HTK := hid htk
          have c2 : w2.cell? (a.add (k * 2)) = some (.slice bo B.length bc) := (hB2'.cell (p := a.add (k * 2)) (by rw [add_blk]; omega)).trans c0
          have HB2 := hid hB2'
          have HPB := hid (show ∀ i b, B[i]? = some b → w2.cell? ⟨g, 0 + i, none⟩ = some (.int .u8 (b.toNat : Int)) from fun i b hb => by
            rw [Nat.zero_add]
            refine cells_take hg htk i _ ?_
            rw [List.getElem?_append_left (by simpa using (List.getElem?_eq_some_iff.1 hb).1), List.getElem?_map, hb]; rfl)
          have HP9 := hid (show w2.cell? ⟨g, B.length, none⟩ = some (.int .u8 9) from cells_take hg htk B.length _ (by rw [List.getElem?_append_right (by simp)]; simp))
          have hg2 : g < w2.heap.size := (Array.getElem?_eq_some_iff.1 hg).1
          unfold maxLen at hcm
          have HCS := hid hcs
          clear o2 gr2 hB1 hB2' o1' c0 hg htk hcs
          go_wp2_with fail
          refine (feed_new w.heap.size g 0 cap2 S B w2 HST2.out.sc (by omega) (by omega) (by omega) (by omega) hg2 HPB.out).mono ?_
          rintro e w3 ⟨v3, rfl, o3, s3, bu3⟩
          have hnm := newm_len S B
          obtain ⟨A, hA⟩ : ∃ A, A = newm S B := ⟨_, rfl⟩
          have HA := hid hA
          rw [← hA] at o3 hnm
          clear hA
          have hs23 := HB2.out.size
          have hb3 : Below w.heap.size w w3 := Below.but HST2.out.bel bu3 (by have := HST2.out.bel.size; omega) (Nat.le_refl _)
          have hg3 : w3.heap[g]? = w2.heap[g]? := bu3.block g hg2 (by omega)
          have HRA3 := hid (show RAt w3 (w.heap.size + 1) S (tln S) from (bu3.block _ HST2.out.ra.lt (by omega)).trans HST2.out.ra)
          have HTD3 := hid (ownsRow_but HST2.out.own bu3 (Nat.le_refl _) (by omega))
          have HS3 := hid s3
          have HO3 := hid o3
          have hw3 := bu3.size
          have HK4 := hid (show ∀ W, Below w.heap.size w W → W.heap[g]? = w2.heap[g]? → (W.cell? (a.add (k * 2)) = some (.slice bo B.length bc) ∧ (convert 30 9 (.slice (some ⟨g, 0, none⟩) B.length cap2)).run Tryd.prog W = .ok (.string ⟨B.toArray⟩) W ∧ (convert 30 9 (.slice bo B.length bc)).run Tryd.prog W = .ok (.string ⟨B.toArray⟩) W ∧ W.cell? ⟨g, B.length, none⟩ = some (.int .u8 9)) from fun W hW hgW =>
            ⟨HC0.out W hW, conv_rd (ao := some ⟨g, 0, none⟩) cap2 (fun j b hj => ⟨_, rfl, by have h0 := (Array.getElem?_eq_some_iff.1 (hgW.trans HG.out)).1; exact h0, by rw [show (⟨g, 0, none⟩ : Addr).add j = ⟨g, 0 + j, none⟩ by unfold Addr.add; split <;> simp_all]; exact (World.cell?_of_block hgW).trans (HPB.out j b hj)⟩) (fun h => by cases h), conv_rd bc (HRD.out W hW) HCAP.out, (World.cell?_of_block hgW).trans HP9.out⟩)
          have HB3 := hid hb3
          have HG3 := hid hg3
          obtain ⟨k1, k2, k3, k4⟩ := HK4.out w3 hb3 hg3
          have j2 := (HK4.out w3.drew hb3.drew hg3).2.1
          have j3 := (HK4.out w3.drew hb3.drew hg3).2.2.1
          have hi1 : (0 : Int) ≤ (B.length : Int) := by omega
          have hi2 : (B.length : Int) ≤ (cap2 : Int) := by omega
          have hi3 : (B.length : Int) < (B.length : Int) + 1 := by omega
          clear bu3 s3 o3 hb3 hg3 c2 HST2
          go_wp2_with fail
          go_region_held3 (fun W => W.cell? (a.add (k * 2)) = some (.slice bo B.length bc) ∧ (convert 30 9 (.slice (some ⟨g, 0, none⟩) B.length cap2)).run Tryd.prog W = .ok (.string ⟨B.toArray⟩) W ∧ (convert 30 9 (.slice bo B.length bc)).run Tryd.prog W = .ok (.string ⟨B.toArray⟩) W ∧ W.cell? ⟨g, B.length, none⟩ = some (.int .u8 9))
            (first | (exact HK4.out _ hb6.out hg6.out) | (exact HK4.out _ hb5.out hg5.out) | (exact HK4.out _ HB3.out.drew HG3.out) | go_keep)
            ((first | (go_at_call 13; refine (rfeed_new (w.heap.size + 1) S B _ w3.drew HRA3.out (by omega) (HK4.out w3.drew.drew HB3.out.drew.drew HG3.out).2.2.1).mono ?_; rintro e w5 ⟨v5, rfl, o5', r5', bu5'⟩; rw [← HA.out] at o5'; have o5 := hid o5'; have o35 := hid (ownsRow_but (show w3.drew.ownsRow w2.heap.size 50 4 v3 A.length (mkcs A) from HO3.out) bu5' (Nat.le_refl _) (by omega)); have r5 := hid r5'; have bu5 := hid bu5'; have hb5 := hid (Below.but HB3.out.drew bu5' (by show w.heap.size ≤ w3.heap.size; omega) (by omega)); have hg5 := hid ((bu5'.block g (by show g < w3.heap.size; omega) (by omega)).trans HG3.out); clear o5' r5' bu5') | (go_at_call 12; refine (same_any w2.heap.size _ v3 v5 A w5 o35.out o5.out (by omega)).mono ?_; rintro e w6 ⟨rfl, hb6'⟩; have hbs := hid hb6'; have hb6 := hid (hb5.out.trans (hb6'.mono hb5.out.size)); have hg6 := hid ((hb6'.block g (by have := bu5.out.size; show g < w5.heap.size; have e : w3.drew.heap.size = w3.heap.size := rfl; omega)).trans hg5.out); clear hb6')))
          obtain ⟨l1, l2, l3, l4⟩ := HK4.out w6 hb6.out hg6.out
          clear k1 k2 k3 k4 j2 j3
          have hdr : w3.drew.heap.size = w3.heap.size := rfl
          have h5s := bu5.out.size
          have h6s := hbs.out.size
          have HTD6 := hid (ownsRow_below (ownsRow_but (show w3.drew.ownsRow (w.heap.size + 2) 50 4 u8 (tld S).length (mkcs (tld S)) from HTD3.out) bu5.out (Nat.le_refl _) (by omega)) hbs.out (Nat.le_refl _))
          have HS6 := hid ((HS3.out.same (show w5.heap[w.heap.size]? = w3.heap[w.heap.size]? from bu5.out.block _ HS3.out.lt (by omega))).same (hbs.out.block _ (by have := HS3.out.lt; omega)))
          have HR6 := hid (r5.out.below hbs.out r5.out.lt)
          have HA6 := hid (ownsRow_below o35.out hbs.out (Nat.le_refl _))
          have hgn : nr ≤ g := by rw [HNR.out]; exact hbg
          have hg6s : g < w6.heap.size := by omega
          have HG6 := hid (show ∃ cur : Array Value, w6.heap[g]? = some (.cells cur 5 (0, 0)) ∧ cur.size = cap2 from ⟨cur, hg6.out.trans HG.out, by have := HCS.out; omega⟩)
          have hnw : w.heap.size + 1 < nr := by rw [HNR.out]; exact hw2
          clear HTD3 HS3 HO3 o5 o35 bu5 hbs r5 HRA3 HK4 HB3 HG3 HG HTK HPB HP9 hdr h5s HNR hbg
          go_wp2
          go_loopw [12] (fun i wq => ∃ kk : Nat, kk ≤ B.length + 1 ∧ i = .int .i64 kk ∧ Hid (∃ cur : Array Value, wq.heap[g]? = some (.cells cur 5 (0, 0)) ∧ cur.size = cap2) ∧ Hid (But g w6.heap.size w6 wq)) (fun i _ => B.length + 1 - (intOf i).toNat)
          case atStart => exact ⟨0, by omega, rfl, HG6, But.refl _ _ _⟩
          case round =>
            obtain ⟨kk, hkk, rfl, HGq, HBq⟩ := hrel
            by_cases hkk2 : kk < B.length + 1
            · obtain ⟨cu, hcu, hcus⟩ := HGq.out
              have cg : wr.cell? ⟨g, kk, none⟩ = some (cu[kk]'(by omega)) := by rw [cell_of_row wr g kk _ 5 (0, 0) hcu]; exact Array.getElem?_eq_getElem _
              have fg := frozen_of_row wr g kk _ 5 hcu
              generalize cu[kk]'(by omega) = uu at cg
              have HCU := hid hcu
              clear hcu
              go_wp2
              go_roundw
              case rel => exact ⟨kk + 1, by omega, by go_num, ⟨_, Lib.heap_setCell_same (i := kk) HCU.out _, by simp [hcus]⟩, HBq.out.set _⟩
              case measure => simp [intOf]; omega
            · have hbq := HBq.out
              have hb7 : Below w.heap.size w wr := Below.but hb6.out hbq (by have := hb6.out.size; omega) (by omega)
              have HTD7 := hid (ownsRow_but2 HTD6.out hbq (Nat.le_refl _) (fun j hj => by have := HTB.out j hj; omega))
              have HS7 := hid (HS6.out.same (hbq.block _ HS6.out.lt (by omega)))
              have HR7 := hid (show RAt wr (w.heap.size + 1) (S ++ B) (tln (S ++ B)) from (hbq.block _ HR6.out.lt (by omega)).trans HR6.out)
              have HA7 := hid (ownsRow_but HA6.out hbq (Nat.le_refl _) hg2)
              have c7 := HC0.out wr hb7
              have j7 := conv_rd bc (HRD.out wr hb7) HCAP.out
              have hs7 := hbq.size
              have htl := tld_le S
              have htn := tln_le S
              have HB7 := hid hb7
              clear hbq HBq HGq HG6 HTD6 HS6 HR6 HA6 hb7 l1 l2 l3 l4 hb6 hg6
              go_wp2_with (at_builtin; refine wpList_append_marks rfl _ _ rfl (w.heap.size + 2) w2.heap.size u8 v3 (tld S) A (by rfl) HTD7.out (by rfl) HA7.out (by omega) (by omega) ?_)
              intro td8 w8 o8 gr8
              rw [app_list S B]
              have hrow : ∀ j, u8.ownBlock = some j → w.heap.size + 2 ≤ j := fun j hj => (HTD7.out.lt j hj).1
              have hb8 : Below w.heap.size w w8 := HB7.out.grown gr8 (by omega) (fun j hj => by have := hrow j hj; omega)
              have hsc8 : ScAt w8 w.heap.size (ib ((S ++ B).drop (tln (S ++ B)))) (S ++ B).length := HS7.out.same (gr8.block _ HS7.out.lt (fun e => by have := hrow _ e.symm; omega))
              have hra8 : RAt w8 (w.heap.size + 1) (S ++ B) (tln (S ++ B)) := (gr8.block _ HR7.out.lt (fun e => by have := hrow _ e.symm; omega)).trans HR7.out
              have htd8 : w8.ownsRow (w.heap.size + 2) 50 4 td8 (tld (S ++ B)).length (mkcs (tld (S ++ B))) := by rw [tld_new, ← HA.out]; simpa using o8
              have hlS : (S ++ B).length ≤ 4000 := by simp; omega
              have HSL2 := hid (show (S ++ B).length ≤ tot P (k + 1) by rw [List.length_append]; exact HSL1.out)
              obtain ⟨S', hS'⟩ : ∃ S', S' = S ++ B := ⟨_, rfl⟩
              rw [← hS'] at hsc8 hra8 htd8 hlS HSL2 ⊢
              clear hS' o8 gr8 hrow c7 j7 HTD7 HS7 HR7 HA7 HB7 HSL1
              have ht' := tln_le S'
              have h3' := none_len _ (rest_none S')
              rw [List.length_drop] at h3'
              have e3 : w8.cell? ⟨w.heap.size, 3, none⟩ = some (.int .i64 (S'.length - tln S' : Nat)) := by have := hsc8.c3; rw [ib_len, List.length_drop] at this; exact this
              have e4 := hsc8.c4
              have f0 := hra8.c0
              have f1 := hra8.c1
              obtain ⟨t', ht2⟩ : ∃ t', t' = tln S' := ⟨_, rfl⟩
              rw [← ht2] at ht' h3' e3 f1
              have HT2 := hid ht2
              clear ht2
              obtain ⟨hd, hhd⟩ : ∃ hd, hd = S'.length - t' := ⟨_, rfl⟩
              rw [← hhd] at h3' e3
              have esub : (S'.length : Int) - (t' : Int) = hd := by omega
              have h3i : (hd : Int) ≤ 3 := by omega
              have ewr : IntKind.i64.wrap ((S'.length : Int) - (t' : Int)) = hd := by rw [IntKind.wrap_i64]; omega
              have HHD := hid hhd
              clear hhd
              have tb3 : decide ((3 : Int) < (hd : Int)) = false := by simp; omega
              have tb5 : ¬ (3 : Int) < (hd : Int) := by omega
              have tb6 : ¬ 3 < hd := by omega
              have ewr2 : IntKind.i64.wrap (hd : Int) = hd := by rw [IntKind.wrap_i64]; omega
              have HSC8 := hid hsc8
              have HRA8 := hid hra8
              have HTD8 := hid htd8
              have HB8 := hid hb8
              clear hsc8 hra8 htd8 hb8
              go_wp2_with fail
              go_region_held3 (fun W => W.cell? ⟨w.heap.size, 3, none⟩ = some (.int .i64 hd) ∧ W.cell? ⟨w.heap.size, 4, none⟩ = some (.int .i64 S'.length) ∧ W.cell? ⟨w.heap.size + 1, 0, none⟩ = some (.string ⟨S'.toArray⟩) ∧ W.cell? ⟨w.heap.size + 1, 1, none⟩ = some (.int .i64 t')) (go_keep)
                ((first | (go_at_call 14; refine (held_any w.heap.size hd _ (by exact e3)).mono ?_; rintro e w9 ⟨rfl, hw9⟩; obtain rfl := hw9.symm; clear hw9) | (go_at_call 15; refine (fed_any w.heap.size 0 S'.length _ (by exact e4)).mono ?_; rintro e w9 ⟨rfl, hw9⟩; obtain rfl := hw9.symm; clear hw9)))
              have HB8d := hid HB8.out.drew
              have c9 := HC1.out w8 HB8.out
              rw [← field1 a k] at c9
              cases cl with
              | false =>
                go_wp2
                go_roundw
                case rel => exact ⟨k + 1, S', by omega, by go_num, rfl, HSL2, ⟨HTD8.out, HSC8.out, HRA8.out, HB8d.out⟩⟩
                case measure => simp [intOf]; omega
              | true =>
                have hlt' : S'.length = t' + hd := by have := HHD.out; omega
                have HSC9 := hid (show ScAt w8.drew w.heap.size (ib (S'.drop t')) ((t' + hd : Nat) : Int) by rw [← hlt']; have := HSC8.out; rw [← HT2.out] at this; exact this)
                have HRA9 := hid (show RAt w8.drew (w.heap.size + 1) S' t' by have := HRA8.out; rw [← HT2.out] at this; exact this)
                have HTD9 := hid (show w8.drew.ownsRow (w.heap.size + 2) 50 4 td8 (tld S').length (mkcs (tld S')) from HTD8.out)
                have hdl : (ib (S'.drop t')).length = hd := by rw [ib_len, List.length_drop, HHD.out]
                have HDL := hid hdl
                have HFL := hid (show mks t' (S'.drop t') = flts t' hd by have h := mks_none t' (S'.drop t') (by rw [HT2.out]; exact rest_none S'); rw [List.length_drop] at h; rw [h, HHD.out])
                have HALL := hid (show tld S' ++ flts t' hd = mks 0 S' by have h := tld_all S'; rw [← HT2.out, ← HHD.out] at h; exact h)
                have hw8s : w.heap.size + 1 < w8.drew.heap.size := HRA9.out.lt
                have htl8 := tld_le S'
                rw [← HT2.out] at htl8
                obtain ⟨wd, hwd⟩ : ∃ wd, wd = w8.drew := ⟨_, rfl⟩
                rw [← hwd] at HSC9 HRA9 HTD9 HB8d hw8s
                have HWD := hid hwd
                clear hwd e3 e4 f0 f1 esub ewr tb3 tb5 tb6 ewr2 HSC8 HRA8 HTD8 HB8 hdl
                go_wp2_with fail
                rw [← HWD.out]
                refine (close_any w.heap.size t' hd (ib (S'.drop t')) wd HSC9.out HDL.out (by omega)).mono ?_
                rintro e w10 ⟨v10, rfl, o10, s10, bu10⟩
                have hb10 : Below w.heap.size w w10 := Below.but HB8d.out bu10 (by omega) (Nat.le_refl _)
                have hra10 : RAt w10 (w.heap.size + 1) S' t' := (bu10.block _ HRA9.out.lt (by omega)).trans HRA9.out
                have htd10 := ownsRow_but HTD9.out bu10 (Nat.le_refl _) (by omega)
                have HS10 := hid s10
                have HO10 := hid o10
                have hs10s := bu10.size
                have HB10 := hid hb10
                have HRA10 := hid hra10
                have HTD10 := hid htd10
                clear s10 o10 bu10 hb10 hra10 htd10 c9
                go_wp2_with fail
                refine (rclose_any (w.heap.size + 1) S' t' w10 HRA10.out ht' (by omega)).mono ?_
                rintro e w11 ⟨v11, rfl, o11, r11, bu11⟩
                rw [HFL.out, flts_len] at o11
                have hb11 : Below w.heap.size w w11 := Below.but HB10.out bu11 (by omega) (by omega)
                have hs11 : ScAt w11 w.heap.size [] 0 := HS10.out.same (bu11.block _ HS10.out.lt (by omega))
                have htd11 := ownsRow_but HTD10.out bu11 (Nat.le_refl _) (by omega)
                have ho10 := ownsRow_but HO10.out bu11 (Nat.le_refl _) (by omega)
                have hs11s := bu11.size
                have HB11 := hid hb11
                have HS11 := hid hs11
                have HTD11 := hid htd11
                have HO10b := hid ho10
                have HO11 := hid o11
                have HR11 := hid r11
                clear hb11 hs11 htd11 ho10 o11 r11 bu11 HS10 HO10 HRA10 HTD10
                go_wp2_with fail
                refine (same_any wd.heap.size w10.heap.size v10 v11 (flts t' hd) w11 (by rw [flts_len]; exact HO10b.out) (by rw [flts_len]; exact HO11.out) (by rw [flts_len]; omega)).mono ?_
                rintro e w12 ⟨rfl, hb12⟩
                have h12s := hb12.size
                have HB12 := hid (HB11.out.trans (hb12.mono HB11.out.size))
                have HS12 := hid (HS11.out.same (hb12.block _ HS11.out.lt))
                have HR12 := hid (HR11.out.below hb12 HR11.out.lt)
                have HTD12 := hid (ownsRow_below HTD11.out hb12 (Nat.le_refl _))
                have HO12 := hid (show w12.ownsRow wd.heap.size 50 4 v10 (flts t' hd).length (mkcs (flts t' hd)) by rw [flts_len]; exact ownsRow_below HO10b.out hb12 (Nat.le_refl _))
                clear hb12 HB11 HS11 HR11 HTD11 HO10b HO11
                go_wp2_with (at_builtin; refine wpList_append_guarded _ _ rfl w12.heap.size (w.heap.size + 2) (.slice (some ⟨w12.heap.size, 0, none⟩) 0 0) td8 [] (tld S') (by rfl) (by rfl) (row_empty w12 50 4) (by rfl) (ownsRow_below HTD12.out ((Below.refl w12.heap.size w12).alloc (Nat.le_refl _) _) (Nat.le_refl _)) (by simp; omega) (by simp) ?_)
                intro v13 w13 o13 gr13
                have hb13 : Below w12.heap.size w12 w13 := ((Below.refl w12.heap.size w12).alloc (Nat.le_refl _) _).grown gr13 (by simp) (fun j hj => ((row_empty w12 50 4).lt j hj).1)
                have h13s := hb13.size
                have HO13 := hid (ownsRow_below HO12.out hb13 (Nat.le_refl _))
                have o13' : w13.ownsRow w12.heap.size 50 4 v13 (tld S').length (mkcs (tld S')) := by simpa using o13
                clear o13 gr13 HO12
                go_wp2_with (at_builtin; refine wpList_append_guarded _ _ rfl w12.heap.size wd.heap.size v13 v10 (tld S') (flts t' hd) (by rfl) (by rfl) o13' (by rfl) HO13.out (by rw [flts_len]; omega) (by omega) ?_)
                intro v14 w14 o14 gr14
                have hb14 : Below w12.heap.size w12 w14 := hb13.grown gr14 (by omega) (fun j hj => (o13'.lt j hj).1)
                have h14s := hb14.size
                have HO14 := hid (show w14.ownsRow w12.heap.size 50 4 v14 (mks 0 S').length (mkcs (mks 0 S')) by rw [← HALL.out]; simpa using o14)
                have hml : (mks 0 S').length ≤ 8000 := by rw [← HALL.out, List.length_append, flts_len]; omega
                have HB14 := hid hb14
                clear o14 gr14 hb13 hb14 o13' HO13
                go_wp2_with fail
                refine (marks_any S' w14 (by omega)).mono ?_
                rintro e w15 ⟨v15, rfl, o15, hb15⟩
                have h15s := hb15.size
                have HO15 := hid o15
                have HO14b := hid (ownsRow_below HO14.out hb15 (Nat.le_refl _))
                have HB15 := hid (HB14.out.trans (hb15.mono h14s))
                clear o15 hb15 HO14 HB14
                go_wp2_with fail
                refine (same_any w12.heap.size w14.heap.size v14 v15 (mks 0 S') w15 HO14b.out HO15.out (by omega)).mono ?_
                rintro e w16 ⟨rfl, hb16⟩
                have HBE := hid (HB15.out.trans (hb16.mono (by omega)))
                have HS16 := hid (HS12.out.same (HBE.out.block _ HS12.out.lt))
                have HR16 := hid (HR12.out.below HBE.out HR12.out.lt)
                have HB16 := hid (HB12.out.trans (HBE.out.mono HB12.out.size))
                clear hb16 HO14b HO15 HB15 HS12 HR12 HBE
                go_wp2_with fail
                refine (fed_any w.heap.size 0 0 w16 HS16.out.c4).mono ?_
                rintro e w17 ⟨rfl, hw17⟩
                obtain rfl := hw17.symm
                clear hw17
                go_wp2_with fail
                refine (held_any w.heap.size 0 w16 HS16.out.c3).mono ?_
                rintro e w17 ⟨rfl, hw17⟩
                obtain rfl := hw17.symm
                clear hw17
                go_wp2
                go_roundw
                case rel => exact ⟨k + 1, [], by omega, by go_num, rfl, Nat.zero_le _, ⟨World.ownsRow_nil _ _ _ _, HS16.out, HR16.out, HB16.out⟩⟩
                case measure => simp [intOf]; omega
        · go_wp2_with (go_at_call 6; refine (live_any _ (tabs_below HT.out h2 HST.out.bel) (by have := HST.out.bel.size; omega)).mono ?_; rintro e w1 ⟨rfl, hb⟩)
          go_ret
          exact ⟨rfl, HST.out.bel.trans (hb.mono HST.out.bel.size)⟩
end Go.Proofs.YtflehkdijfhmgabDoor
