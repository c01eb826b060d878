/- The contracts of own and kept: a list with spare room of its own; whether it is what it was. -/
import Derived.Test.YtfahbdlcokoghabGreatDoorLive
import Derived.Laws.AppendOwnNone
namespace Go.Proofs.YtfahbdlcokoghabGreatDoor
open Go.RowKit

theorem RdR.left {w : World} {ao : Option Addr} {l m : List Rg} (h : RdR w ao (l ++ m)) : RdR w ao l := fun k g hk => h k g (by rw [List.getElem?_append_left (List.getElem?_eq_some_iff.1 hk).1]; exact hk)
theorem rgcs_at (l : List Rg) : ∀ (j : Nat) (u : Value), (rgcs l)[j]? = some u → ∃ k g, l[k]? = some g ∧ ((j = k * 2 ∧ u = .int .i32 g.1) ∨ (j = k * 2 + 1 ∧ u = .int .i32 g.2)) := by
  induction l with
  | nil => intro j u h; cases h
  | cons x l ih =>
    intro j u h
    have e : rgcs (x :: l) = .int .i32 x.1 :: .int .i32 x.2 :: rgcs l := rfl
    rw [e] at h
    match j, h with
    | 0, h => cases h; exact ⟨0, x, rfl, .inl ⟨rfl, rfl⟩⟩
    | 1, h => cases h; exact ⟨0, x, rfl, .inr ⟨rfl, rfl⟩⟩
    | j + 2, h =>
      obtain ⟨k, g, hk, hj⟩ := ih j u h
      refine ⟨k + 1, g, hk, ?_⟩
      rcases hj with ⟨h1, h2⟩ | ⟨h1, h2⟩
      · exact .inl ⟨by omega, h2⟩
      · exact .inr ⟨by omega, h2⟩
theorem rgcs_one (l : List Rg) : ∀ u ∈ rgcs l, u.oneCell' = true := fun u hu => by
  obtain ⟨j, hj⟩ := List.getElem?_of_mem hu
  obtain ⟨k, g, _, h⟩ := rgcs_at l j u hj
  rcases h with ⟨_, h⟩ | ⟨_, h⟩ <;> (rw [h]; rfl)
theorem add_one (a : Addr) (k : Nat) : a.add (k + 1) = ⟨(a.add k).block, (a.add k).off + 1, none⟩ := by
  unfold Addr.add
  rw [if_neg (by omega)]
  split
  · rename_i h; subst h; rfl
  · rfl

/-- append of ranges that came in, nil or not. -/
theorem wpList_append_rg {P : Program} {w : World} {ops : Array Oper} {rest : List Oper} {o : Oper} {a : Act} {Q : Exit → Act → World → Prop} (hgd : o.guard = none) (s x : Operand) (t : TypeId)
    (ho : o.op = .call { callee := .builtin .append, args := #[s, x], argTypes := #[t, t] })
    (base : Nat) (e : TypeId) (i : TypeInfo) (z : Value) (bytes : Nat) (ht : P.underlying t = some (.slice e)) (hi : P.info? e = some i) (hz : i.zero = some z)
    (hsize : i.size = 2) (hby : i.bytes = bytes) (hzs : z.cells.size = 2)
    (v : Value) (n : Nat) (xs : List Value) (hs : a.eval s = v) (hown : w.ownsRow base e 2 v n xs)
    (ao : Option Addr) (cap : Nat) (l : List Rg) (hx : a.eval x = .slice ao l.length cap) (hcap : ao = none → cap = 0) (hl : RdR w ao l)
    (h63 : n + l.length ≤ maxLen) (hbytes : (n + l.length) * bytes ≤ 140737488355328) (hbase : base ≤ w.heap.size)
    (h : ∀ v' w', w'.ownsRow base e 2 v' (n + l.length) (xs ++ rgcs l) → w.grownBy w' v.ownBlock → wpList P ops Q rest (a.put o.dst v') w') : wpList P ops Q (o :: rest) a w := by
  cases ao with
  | none =>
    have hn : l = [] := by
      cases l with
      | nil => rfl
      | cons y ys => obtain ⟨a', h', _⟩ := hl 0 y rfl; cases h'
    subst hn
    rw [hcap rfl] at hx
    exact wpList_append_own_none hgd s x t ho base e i 2 ht hi v n xs hs hown hx (h v w (by simpa [rgcs] using hown) (World.grownBy.refl _ _))
  | some ad =>
    refine wpList_append_own w hgd s x t ho base e i z 2 bytes ht hi hz hsize hby hzs (by decide) v n xs hs hown ad l.length cap (rgcs l) hx (rgcs_len l) (fun j u hj => ?_) (rgcs_one l) h63 hbytes hbase (fun v' w' a b _ => h v' w' a b)
    obtain ⟨k, g, hk, hc⟩ := rgcs_at l j u hj
    obtain ⟨a', h', _, h2, h3⟩ := hl k g hk
    cases h'
    rcases hc with ⟨rfl, rfl⟩ | ⟨rfl, rfl⟩
    · exact h2
    · rw [add_one]; exact h3

theorem row_empty (w : World) (e : TypeId) (size : Nat) : (w.alloc (.cells #[] e)).ownsRow w.heap.size e size (.slice (some ⟨w.heap.size, 0, none⟩) 0 0) 0 [] :=
  ⟨by simp, .inr ⟨w.heap.size, 0, #[], rfl, Nat.le_refl _, World.alloc_heap_new w _, Nat.le_refl _, by simp [maxLen], by simp, by simp⟩⟩
theorem rgcs_app (l m : List Rg) : rgcs (l ++ m) = rgcs l ++ rgcs m := by unfold rgcs; simp

/-- A list with spare room of its own: behind it stands (-9, 9). -/
structure OwnAt (B g cap : Nat) (l : List Rg) (w : World) : Prop where
  row : w.ownsRow B 33 2 (.slice (some ⟨g, 0, none⟩) (l.length + 1) cap) (l ++ [(-9, 9)]).length (rgcs (l ++ [(-9, 9)]))
  room : l.length + 1 ≤ cap
  most : cap ≤ 9223372036854775807
  lt : g < w.heap.size
theorem OwnAt.reads {B g cap : Nat} {l : List Rg} {w : World} (h : OwnAt B g cap l w) : RdR w (some ⟨g, 0, none⟩) (l ++ [(-9, 9)]) := by
  obtain ⟨so, sc, e, hr⟩ := rdr_row h.row
  injection e with e1 _ _
  subst e1
  exact hr
theorem OwnAt.below {B g cap : Nat} {l : List Rg} {w w' : World} (h : OwnAt B g cap l w) (hb : Below w.heap.size w w') : OwnAt B g cap l w' :=
  ⟨ownsRow_below h.row hb, h.room, h.most, Nat.lt_of_lt_of_le h.lt hb.size⟩

set_option maxHeartbeats 1000000 in
theorem own_any (ao : Option Addr) (ac : Nat) (l : List Rg) (w : World) (ha : RdR w ao l) (hcap : ao = none → ac = 0) (hl : l.length ≤ 100000) :
    Calls Tryz.prog 5 #[.slice ao l.length ac] w fun e w' => ∃ g cap, e = .returned (.slice (some ⟨g, 0, none⟩) l.length cap) ∧ OwnAt w.heap.size g cap l w' ∧ w.heap.size ≤ g ∧ Below w.heap.size w w' := by
  obtain ⟨i0, hi, hz0, hz1, hz2⟩ := info_parts Tryz.info33
  have o0 := row_empty w 33 2
  have HE0 := hid (ha.below ((Below.refl w.heap.size w).alloc (Nat.le_refl _) (.cells #[] 33)))
  have HCAP := hid hcap
  clear ha hcap
  go_enter Tryz.func5, Tryz.ntmps5
  go_wp2_with (at_builtin; refine wpList_append_rg rfl _ _ 22 rfl w.heap.size 33 i0 (.agg #[.int .i32 0, .int .i32 0]) 8 Tryz.underlying22 hi hz0 hz1 hz2 (by rfl) (.slice (some ⟨w.heap.size, 0, none⟩) 0 0) 0 [] (by rfl) o0 ao ac l rfl HCAP.out HE0.out (by unfold maxLen; omega) (by omega) (by simp) ?_)
  intro v1 w1 o1 gr1
  have hB1 : Below w.heap.size w w1 := ((Below.refl w.heap.size w).alloc (Nat.le_refl _) _).grown gr1 (by simp) (fun k hk => (o0.lt k hk).1)
  have hs1 := hB1.size
  have o1' : w1.ownsRow w.heap.size 33 2 v1 l.length (rgcs l) := by simpa using o1
  clear gr1 o0 HE0 o1
  go_wp2_with (at_builtin; refine wpList_append_own _ rfl _ _ 22 rfl w.heap.size 33 i0 (.agg #[.int .i32 0, .int .i32 0]) 2 8 Tryz.underlying22 hi hz0 hz1 hz2 rfl (by decide) _ l.length (rgcs l) rfl (o1'.alloc _) ⟨w1.heap.size, 0, none⟩ 1 1 (rgc (-9, 9)) rfl rfl ?c1 ?c2 ?c3 ?c4 ?c5 ?_)
  case c1 => exact app_news _ (-9, 9) _ rfl
  case c2 => exact rgc_one _
  case c3 => unfold maxLen; omega
  case c4 => omega
  case c5 => simp; omega
  intro v2 w2 o2 gr2 _
  have hB2 : Below w.heap.size w w2 := (hB1.alloc hB1.size _).grown gr2 (by simp; omega) (fun k hk => (o1'.lt k hk).1)
  have HB2 := hid hB2
  obtain ⟨g, cap2, cur, rfl, hbg, hg, hcap2, hc9, _, _⟩ : ∃ g cap2 cur, v2 = .slice (some ⟨g, 0, none⟩) (l.length + 1) cap2 ∧ w.heap.size ≤ g ∧ w2.heap[g]? = some (.cells cur 33 (0, 0)) ∧ l.length + 1 ≤ cap2 ∧ cap2 ≤ maxLen ∧ cur.size = cap2 * 2 ∧ cur.toList.take ((l.length + 1) * 2) = rgcs l ++ rgc (-9, 9) := by
    rcases o2.2 with ⟨_, h0⟩ | h
    · omega
    · exact h
  have HOW := hid (show OwnAt w.heap.size g cap2 l w2 from ⟨by rw [rgcs_app, len_snoc]; exact o2, hcap2, by unfold maxLen at hc9; omega, (Array.getElem?_eq_some_iff.1 hg).1⟩)
  unfold maxLen at hc9
  clear o2 gr2 hB1 hB2 o1' hg
  go_wp2
  go_ret
  exact ⟨g, cap2, rfl, HOW.out, hbg, HB2.out⟩

theorem same_eq (ao bo : Option Addr) (ac bc : Nat) (l m : List Rg) (b : Bool) (hb : decide (l = m) = b) (w : World) (h1 : RdR w ao l) (h2 : RdR w bo m) (hl : l.length ≤ 1000000) :
    Calls Tryz.prog 10 #[.slice ao l.length ac, .slice bo m.length bc] w fun e w' => e = .returned (.bool b) ∧ Below w.heap.size w w' := by
  subst hb; exact same2_any ao bo ac bc l m w h1 h2 (by omega)

set_option maxHeartbeats 1000000 in
theorem kept_any (B g cap : Nat) (bo : Option Addr) (bc : Nat) (l : List Rg) (w : World) (ho : OwnAt B g cap l w) (hb : RdR w bo l) (hl : l.length ≤ 100000) :
    Calls Tryz.prog 12 #[.slice (some ⟨g, 0, none⟩) l.length cap, .slice bo l.length bc] w fun e w' => e = .returned (.bool true) ∧ Below w.heap.size w w' := by
  have HS := hid (same_eq (some ⟨g, 0, none⟩) bo cap bc l l true (decide_eq_true rfl) w ho.reads.left hb (by omega))
  have HO := hid ho
  have hroom := ho.room
  have hmost := ho.most
  have hlt := ho.lt
  clear ho hb
  go_enter Tryz.func12, Tryz.ntmps12
  go_wp2_with fail
  refine HS.out.mono ?_
  rintro e w1 ⟨rfl, hb1⟩
  obtain ⟨c0, c1⟩ := rdr_cells (HO.out.below hb1).reads (k := l.length) (x := (-9, 9)) (by simp)
  have HB := hid hb1
  clear hb1 HS HO
  dsimp only at c0 c1
  go_wp2
  go_ret
  exact ⟨rfl, HB.out⟩
end Go.Proofs.YtfahbdlcokoghabGreatDoor

