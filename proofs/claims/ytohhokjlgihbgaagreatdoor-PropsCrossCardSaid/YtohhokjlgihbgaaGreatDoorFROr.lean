/- Slices of runes that came in; append of ranges that came in. -/
import Derived.Deep.AppendLies
import Derived.Laws.AppendOwnNone
import Derived.ChangeSlices
import Derived.Test.YtohhokjlgihbgaaGreatDoorFPut
import Derived.Test.YtohhokjlgihbgaaGreatDoorFNot
namespace Go.Proofs.YtohhokjlgihbgaaGreatDoor
open Go.RowKit

theorem rgcs_at (l : List Rg) : ∀ (j : Nat) (u : Value), (rgcs l)[j]? = some u → ∃ k g, l[k]? = some g ∧ ((j = k * 2 ∧ u = .int .i32 g.1) ∨ (j = k * 2 + 1 ∧ u = .int .i32 g.2)) := by
  induction l with
  | nil => intro j u h; cases h
  | cons x l ih =>
    intro j u h
    have e : rgcs (x :: l) = .int .i32 x.1 :: .int .i32 x.2 :: rgcs l := rfl
    rw [e] at h
    match j, h with
    | 0, h => cases h; exact ⟨0, x, rfl, .inl ⟨rfl, rfl⟩⟩
    | 1, h => cases h; exact ⟨0, x, rfl, .inr ⟨rfl, rfl⟩⟩
    | j + 2, h =>
      obtain ⟨k, g, hk, hj⟩ := ih j u h
      refine ⟨k + 1, g, hk, ?_⟩
      rcases hj with ⟨h1, h2⟩ | ⟨h1, h2⟩
      · exact .inl ⟨by omega, h2⟩
      · exact .inr ⟨by omega, h2⟩
theorem rgcs_one (l : List Rg) : ∀ u ∈ rgcs l, u.oneCell' = true := fun u hu => by
  obtain ⟨j, hj⟩ := List.getElem?_of_mem hu
  obtain ⟨k, g, _, h⟩ := rgcs_at l j u hj
  rcases h with ⟨_, h⟩ | ⟨_, h⟩ <;> (rw [h]; rfl)
theorem add_one (a : Addr) (k : Nat) : a.add (k + 1) = ⟨(a.add k).block, (a.add k).off + 1, none⟩ := by
  unfold Addr.add
  rw [if_neg (by omega)]
  split
  · rename_i h; subst h; rfl
  · rfl

theorem rgcs_app (l m : List Rg) : rgcs (l ++ m) = rgcs l ++ rgcs m := by unfold rgcs; simp
/-- append of ranges that came in, nil or not. -/
theorem wpList_append_rg {P : Program} {w : World} {ops : Array Oper} {rest : List Oper} {o : Oper} {a : Act} {Q : Exit → Act → World → Prop} (hgd : o.guard = none) (s x : Operand) (t : TypeId)
    (ho : o.op = .call { callee := .builtin .append, args := #[s, x], argTypes := #[t, t] })
    (base : Nat) (e : TypeId) (i : TypeInfo) (z : Value) (bytes : Nat) (ht : P.underlying t = some (.slice e)) (hi : P.info? e = some i) (hz : i.zero = some z)
    (hsize : i.size = 2) (hby : i.bytes = bytes) (hzs : z.cells.size = 2)
    (v : Value) (n : Nat) (xs : List Value) (hs : a.eval s = v) (hown : w.ownsRow base e 2 v n xs)
    (ao : Option Addr) (cap : Nat) (l : List Rg) (hx : a.eval x = .slice ao l.length cap) (hcap : ao = none → cap = 0) (hl : RdR w ao l)
    (h63 : n + l.length ≤ maxLen) (hbytes : (n + l.length) * bytes ≤ 140737488355328) (hbase : base ≤ w.heap.size)
    (h : ∀ v' w', w'.ownsRow base e 2 v' (n + l.length) (xs ++ rgcs l) → w.grownBy w' v.ownBlock → wpList P ops Q rest (a.put o.dst v') w') : wpList P ops Q (o :: rest) a w := by
  cases ao with
  | none =>
    have hn : l = [] := by
      cases l with
      | nil => rfl
      | cons y ys => obtain ⟨a', h', _⟩ := hl 0 y rfl; cases h'
    subst hn
    rw [hcap rfl] at hx
    exact wpList_append_own_none hgd s x t ho base e i 2 ht hi v n xs hs hown hx (h v w (by simpa [rgcs] using hown) (World.grownBy.refl _ _))
  | some ad =>
    refine wpList_append_own w hgd s x t ho base e i z 2 bytes ht hi hz hsize hby hzs (by decide) v n xs hs hown ad l.length cap (rgcs l) hx (rgcs_len l) (fun j u hj => ?_) (rgcs_one l) h63 hbytes hbase (fun v' w' a b _ => h v' w' a b)
    obtain ⟨k, g, hk, hc⟩ := rgcs_at l j u hj
    obtain ⟨a', h', _, h2, h3⟩ := hl k g hk
    cases h'
    rcases hc with ⟨rfl, rfl⟩ | ⟨rfl, rfl⟩
    · exact h2
    · rw [add_one]; exact h3

def RdZ (w : World) (ao : Option Addr) (l : List Int) : Prop := ∀ (k : Nat) (z : Int), l[k]? = some z → ∃ a : Addr, ao = some a ∧ a.block < w.heap.size ∧ w.cell? (a.add k) = some (.int .i32 z)
theorem RdZ.below {w w' : World} {ao : Option Addr} {l : List Int} (h : RdZ w ao l) (hb : Below w.heap.size w w') : RdZ w' ao l := fun k c hk => by
  obtain ⟨a, h1, h2, h3⟩ := h k c hk
  exact ⟨a, h1, Nat.lt_of_lt_of_le h2 hb.size, (hb.cell (p := a.add k) (by rw [add_blk]; exact h2)).trans h3⟩
theorem RdZ.nil (w : World) (ao : Option Addr) : RdZ w ao [] := fun k z h => by simp at h
theorem runes_open {H : Type} {enc : TypeId × Value → H} {W : World} {v : Value} {d : DataW H} {ps : List MemPlace} (h : DataW.Trod enc Tryz.prog W 0 (fun _ => true) true 22 v d ps) (hv : ∃ a b c, v = .slice a b c) :
    ∃ (ao : Option Addr) (cap : Nat) (E : List Int), v = .slice ao E.length cap ∧ RdZ W ao E ∧ E.length ≤ 9223372036854775807 := by
  obtain ⟨sa, sl, sc, rfl⟩ := hv
  obtain ⟨m, hm⟩ := h
  rcases Go.ChangeShapes.open_ints Tryz.underlying22 Tryz.underlying21 (by kernel_rfl) hm with ⟨hv, _⟩ | ⟨a, len, cap, zs, hv, _, hlc, hcm, hzl, _, hcells, _⟩
  · have hv' : [Value.slice sa sl sc] = [.slice none 0 0] := hv
    cases hv'
    exact ⟨none, 0, [], rfl, fun k z hk => (by cases hk), by decide⟩
  · have hv' : [Value.slice sa sl sc] = [.slice (some a) len cap] := hv
    cases hv'
    have hle : sl ≤ zs.length := by rw [hzl]; split <;> omega
    have hcm' : sc ≤ 9223372036854775807 := by unfold maxLen at hcm; omega
    refine ⟨some a, sc, zs.take sl, by rw [List.length_take]; congr 1; omega, fun k z hk => ?_, by rw [List.length_take]; omega⟩
    rw [List.getElem?_take] at hk
    split at hk
    · have hkl : k < zs.length := (List.getElem?_eq_some_iff.1 hk).1
      have hc := hcells k hkl
      have hz : zs.getD k 0 = z := by simp [List.getD, hk]
      rw [hz] at hc
      have hlt := World.block_lt_of_cell? W _ hc
      rw [add_blk] at hlt
      exact ⟨a, rfl, hlt, hc⟩
    · cases hk
end Go.Proofs.YtohhokjlgihbgaaGreatDoor
/- The contract of the document's Or. -/
namespace Go.Proofs.YtohhokjlgihbgaaGreatDoor
open Go.RowKit

theorem row_empty (w : World) (e : TypeId) (size : Nat) : (w.alloc (.cells #[] e)).ownsRow w.heap.size e size (.slice (some ⟨w.heap.size, 0, none⟩) 0 0) 0 [] :=
  ⟨by simp, .inr ⟨w.heap.size, 0, #[], rfl, Nat.le_refl _, heap_alloc_new w _, Nat.le_refl _, by simp [maxLen], by simp, by simp⟩⟩
theorem rdr_row3 {w : World} {B : Nat} {v : Value} {l : List Rg} (h : w.ownsRow B 84 2 v l.length (rgcs l)) : ∃ ao cap, v = .slice ao l.length cap ∧ RdR w ao l ∧ (ao = none → cap = 0) := by
  obtain ⟨ao, cap, e, hr⟩ := rdr_row h
  refine ⟨ao, cap, e, hr, fun hn => ?_⟩
  rcases h.2 with ⟨h1, _⟩ | ⟨gg, cc, cur, h1, _⟩
  · rw [e] at h1; injection h1
  · rw [e, hn] at h1; cases h1

set_option maxHeartbeats 1000000 in
theorem ror_any (ao bo : Option Addr) (ac bc : Nat) (a b : List Rg) (w : World) (ha : RdR w ao a) (hb : RdR w bo b) (hac : ao = none → ac = 0) (hbc : bo = none → bc = 0) (h1 : a.length ≤ 40000) (h2 : b.length ≤ 40000) :
    Calls Tryz.prog 76 #[.slice ao a.length ac, .slice bo b.length bc] w fun e w' => ∃ v, e = .returned v ∧ w'.ownsRow w.heap.size 84 2 v (orN a b).length (rgcs (orN a b)) ∧ Below w.heap.size w w' := by
  obtain ⟨i0, hi, hz0, hz1, hz2⟩ := info_parts Tryz.info84
  have o0 := row_empty w 84 2
  have hB0 := (Below.refl w.heap.size w).alloc (Nat.le_refl _) (.cells #[] 84)
  have HE0 := hid (ha.below hB0)
  have HF := hid hb
  have HAC := hid hac
  have HBC := hid hbc
  clear ha hb hac hbc
  go_enter Tryz.func76, Tryz.ntmps76
  go_wp2_with (at_builtin; refine wpList_append_rg rfl _ _ 47 rfl w.heap.size 84 i0 (.agg #[.int .i32 0, .int .i32 0]) 8 Tryz.underlying47 hi hz0 hz1 hz2 (by rfl) (.slice (some ⟨w.heap.size, 0, none⟩) 0 0) 0 [] (by rfl) o0 ao ac a rfl HAC.out HE0.out (by unfold maxLen; omega) (by omega) (by simp) ?_)
  intro v1 w1 o1 gr1
  have hB1 : Below w.heap.size w w1 := hB0.grown gr1 (by simp) (fun k hk => (o0.lt k hk).1)
  have hs1 := hB1.size
  have o1' : w1.ownsRow w.heap.size 84 2 v1 a.length (rgcs a) := by simpa using o1
  have HF1 := hid (HF.out.below hB1)
  clear gr1 o0 HE0 o1 hB0
  go_wp2_with (at_builtin; refine wpList_append_rg rfl _ _ 47 rfl w.heap.size 84 i0 (.agg #[.int .i32 0, .int .i32 0]) 8 Tryz.underlying47 hi hz0 hz1 hz2 (by rfl) _ a.length (rgcs a) rfl o1' bo bc b rfl HBC.out HF1.out (by unfold maxLen; omega) (by omega) (by omega) ?_)
  intro v2 w2 o2 gr2
  have hB2 : Below w.heap.size w w2 := hB1.grown gr2 hs1 (fun k hk => (o1'.lt k hk).1)
  have HB2 := hid hB2
  have o2' : w2.ownsRow w.heap.size 84 2 v2 (a ++ b).length (rgcs (a ++ b)) := by rw [rgcs_app, List.length_append]; exact o2
  have HOR := hid (show orN a b = nrm (a ++ b) from rfl)
  have hcl : (a ++ b).length ≤ 80000 := by rw [List.length_append]; omega
  obtain ⟨c, hc⟩ : ∃ c, c = a ++ b := ⟨_, rfl⟩
  rw [← hc] at o2' HOR hcl
  clear hc
  obtain ⟨co, cc, rfl, hr2, _⟩ := rdr_row3 o2'
  have HN := hid (rnorm_any co cc c w2 hr2 (by omega))
  rw [← HOR.out] at HN
  clear o2 o2' o1' gr2 hB1 hB2 hr2
  go_wp2_with fail
  refine HN.out.mono ?_
  rintro e w3 ⟨v3, rfl, o3, hb3⟩
  have HO := hid (ownsRow_base2 o3 HB2.out.size)
  have HB3 := hid (HB2.out.trans (hb3.mono HB2.out.size))
  clear o3 hb3 HN
  go_wp2
  go_ret
  exact ⟨_, rfl, HO.out, HB3.out⟩
end Go.Proofs.YtohhokjlgihbgaaGreatDoor
