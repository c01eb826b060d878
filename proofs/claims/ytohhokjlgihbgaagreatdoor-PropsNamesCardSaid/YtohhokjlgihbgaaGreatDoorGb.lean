/- The contracts of bare and of enter (package props). -/
import Derived.Deep.AppendLies
import Derived.Test.YtohhokjlgihbgaaGreatDoorGa
namespace Go.Proofs.YtohhokjlgihbgaaGreatDoor
open Go.RowKit Go.Maps Go.WideMaps

theorem lt_of_heap {w : World} {b : Nat} {o : Obj} (h : w.heap[b]? = some o) : b < w.heap.size := (Array.getElem?_eq_some_iff.1 h).1
theorem heap_alloc_old (w : World) (o : Obj) (b : Nat) (h : b < w.heap.size) : (w.alloc o).heap[b]? = w.heap[b]? := by
  show (w.heap.push o)[b]? = _
  rw [Array.getElem?_push]
  rw [if_neg (by omega)]
theorem heap_alloc_new (w : World) (o : Obj) : (w.alloc o).heap[w.heap.size]? = some o := by
  show (w.heap.push o)[w.heap.size]? = _
  simp
def oth : List UInt8 := [79, 116, 104, 101, 114]
set_option maxHeartbeats 1000000 in
set_option maxRecDepth 100000 in
theorem bare_any (w : World) : Calls Tryz.prog 34 #[] w fun e w' => ∃ P K nv, e = .returned (.pointer (some ⟨P, 0, none⟩)) ∧ DbAt w.heap.size P K [oth] nv (.slice none 0 0) w' ∧ Below w.heap.size w w' := by
  obtain ⟨w1, hrun, ho1, hg1⟩ := (World.ownsMap_made (w.alloc (.cells #[.string ⟨#[79, 116, 104, 101, 114]⟩] 9)) Tryz.prog 9 (plainElem (H := Unit) Tryz.prog 3)).update law9 Tryz.underlying74 (by unfold maxLen; omega) (keyOf_nm oth (by decide)) (plainElem_int Tryz.underlying3 (a := 0) (by decide))
  rw [World.size_alloc] at hrun ho1 hg1
  have hrun' : (Instr.mapUpdate 74 (.map (some (w.heap.size + 1))) (.string ⟨#[79, 116, 104, 101, 114]⟩) (.int .i64 0)).run Tryz.prog ((w.alloc (.cells #[.string ⟨#[79, 116, 104, 101, 114]⟩] 9)).alloc (.map #[] 0)) = .ok () w1 := hrun
  have hmm := @run_makeMap Tryz.prog
  have HO := hid ho1
  have HG := hid hg1
  clear hrun ho1 hg1
  go_enter Tryz.func34, Tryz.ntmps34
  go_wp2
  have hs0 : w1.heap[w.heap.size]? = some (.cells #[.string ⟨#[79, 116, 104, 101, 114]⟩] 9 (0, 0)) := (HG.out.block w.heap.size (by simp; omega) (fun e => by injection e with e; omega)).trans ((heap_alloc_old _ _ w.heap.size (by simp)).trans (heap_alloc_new w _))
  have hsz : w.heap.size ≤ w1.heap.size := by have h5 := HG.out.size; simp at h5; omega
  have hB1 : Below w.heap.size w w1 := (((Below.refl w.heap.size w).alloc (Nat.le_refl _) _).alloc (by simp) _).grown HG.out (by simp; omega) (fun k hk => by injection hk with hk; omega)
  have hrow : w1.ownsRow w.heap.size 9 1 (.slice (some ⟨w.heap.size, 0, none⟩) 1 1) 1 (nms [oth]) := ⟨rfl, .inr ⟨w.heap.size, 1, _, rfl, Nat.le_refl _, hs0, Nat.le_refl _, by unfold maxLen; omega, rfl, rfl⟩⟩
  have HR := hid hrow
  have HB := hid hB1
  have HS := hid hsz
  clear hs0 hsz hB1 hrow hrun' hmm
  go_ret
  exact ⟨w1.heap.size, w.heap.size + 1, .slice (some ⟨w.heap.size, 0, none⟩) 1 1, rfl, ⟨heap_alloc_new w1 _, HO.out.alloc _, HR.out.alloc _, HS.out, by omega⟩, HB.out.alloc HS.out _⟩
theorem row_other {w : World} {B t s n : Nat} {v : Value} {xs : List Value} (h : w.ownsRow B t s v n xs) (b : Nat) (c : Array Value) (t' : TypeId) (hb : w.heap[b]? = some (.cells c t' (0, 0))) (ht : t ≠ t') : v.ownBlock ≠ some b := fun e => by
  rcases h.2 with ⟨h0, _⟩ | ⟨g, cap, cur, hv, _, hg, _⟩
  · rw [h0] at e; cases e
  · rw [hv] at e
    have : g = b := by simpa [Value.ownBlock] using e
    subst this
    rw [hg] at hb
    injection hb with hb
    injection hb with _ h2 _
    exact ht h2
theorem ne_map9 {w : World} {K n : Nat} {D : DataW Unit} {R : Value → Option (DataW Unit × List MemPlace)} (h : w.ownsMap Tryz.prog 9 R K n D) {c : Array Value} {t : TypeId} {f : Nat × Nat} (hb : w.heap[K]? = some (.cells c t f)) : False := by
  obtain ⟨es, clock, hk, _⟩ := h
  rw [hk] at hb
  cases hb
theorem row_other_map {w : World} {B t s n : Nat} {v : Value} {xs : List Value} (h : w.ownsRow B t s v n xs) {K m : Nat} {D : DataW Unit} {R : Value → Option (DataW Unit × List MemPlace)} (hk : w.ownsMap Tryz.prog 9 R K m D) : v.ownBlock ≠ some K := fun e => by
  rcases h.2 with ⟨h0, _⟩ | ⟨g, cap, cur, hv, _, hg, _⟩
  · rw [h0] at e; cases e
  · rw [hv] at e
    have : g = K := by simpa [Value.ownBlock] using e
    subst this
    exact ne_map9 hk hg
theorem map_keep {w w' : World} {K n : Nat} {D : DataW Unit} {R : Value → Option (DataW Unit × List MemPlace)} (h : w.ownsMap Tryz.prog 9 R K n D) (e : w'.heap[K]? = w.heap[K]?) : w'.ownsMap Tryz.prog 9 R K n D := by
  obtain ⟨es, clock, hk, F, rest⟩ := h
  exact ⟨es, clock, e.trans hk, F, rest⟩
theorem row_keep {w w' : World} {B t s n : Nat} {v : Value} {xs : List Value} (h : w.ownsRow B t s v n xs) (e : ∀ b, v.ownBlock = some b → w'.heap[b]? = w.heap[b]?) : w'.ownsRow B t s v n xs := by
  refine ⟨h.1, ?_⟩
  rcases h.2 with h' | ⟨q, cap, cur, hv, hB, hg, rest⟩
  · exact .inl h'
  · exact .inr ⟨q, cap, cur, hv, hB, (e q (by rw [hv]; rfl)).trans hg, rest⟩
/-- What a database leaves alone: all but its own block, its map's and its list's. -/
structure FarD (P K : Nat) (nv nv' : Value) (w w' : World) : Prop where
  st : ∀ x, x < w.heap.size → x ≠ P → x ≠ K → nv.ownBlock ≠ some x → w'.heap[x]? = w.heap[x]?
  nw : ∀ x, nv'.ownBlock = some x → nv.ownBlock = some x ∨ w.heap.size ≤ x
  sz : w.heap.size ≤ w'.heap.size
section
variable {B P K : Nat} {U : List (List UInt8)} {nv pv : Value} {w w' : World}
theorem DbAt.keep (h : DbAt B P K U nv pv w) (e : ∀ b, b < w.heap.size → (b = P ∨ b = K ∨ nv.ownBlock = some b) → w'.heap[b]? = w.heap[b]?) : DbAt B P K U nv pv w' :=
  ⟨(e P (lt_of_heap h.hP) (.inl rfl)).trans h.hP, map_keep h.hK (e K h.hK.lt (.inr (.inl rfl))), row_keep h.hR (fun b hb => e b (h.hR.lt b hb).2 (.inr (.inr hb))), h.bP, h.bK⟩
theorem DbAt.below (h : DbAt B P K U nv pv w) (hb : Below w.heap.size w w') : DbAt B P K U nv pv w' := h.keep fun b h1 _ => hb.block b h1
theorem cell_row (w : World) (b j : Nat) (l : List Value) (t : TypeId) (v : Value) (h : w.heap[b]? = some (.cells l.toArray t (0, 0))) (hv : l[j]? = some v) : w.cell? ⟨b, j, none⟩ = some v := by
  rw [cell_of_row w b j l.toArray t (0, 0) h]
  simpa using hv
theorem DbAt.c0 (h : DbAt B P K U nv pv w) : w.cell? ⟨P, 0, none⟩ = some nv := cell_row w P 0 [nv, .map (some K), pv] 76 _ h.hP rfl
theorem DbAt.c1 (h : DbAt B P K U nv pv w) : w.cell? ⟨P, 1, none⟩ = some (.map (some K)) := cell_row w P 1 [nv, .map (some K), pv] 76 _ h.hP rfl
theorem DbAt.c2 (h : DbAt B P K U nv pv w) : w.cell? ⟨P, 2, none⟩ = some pv := cell_row w P 2 [nv, .map (some K), pv] 76 _ h.hP rfl
end
/-- The contract of Class (package props). -/
theorem class_any (B P K : Nat) (U : List (List UInt8)) (nv pv : Value) (b : List UInt8) (w : World) (h : DbAt B P K U nv pv w) (hb : b.length ≤ 9223372036854775807) (hn : U.Nodup) :
    Calls Tryz.prog 32 #[.pointer (some ⟨P, 0, none⟩), .string ⟨b.toArray⟩] w fun e w' => e = .returned (.tuple #[.int .i64 (if b ∈ U then (U.idxOf b : Int) else 0), .bool (decide (b ∈ U))]) ∧ w' = w := by
  have c1 := h.c1
  have HKY := hid (keyOf_nm b hb)
  have HK := hid h.hK
  have HHS := hid (ndc_has (H := Unit) U.length U b rfl)
  have HAT := hid (ndc_at (H := Unit) (.lit (.int .i64 0)) U.length U b rfl hn)
  obtain ⟨v, hv⟩ : ∃ v : Int, v = if b ∈ U then (U.idxOf b : Int) else 0 := ⟨_, rfl⟩
  have HAV := hid (show ∀ c : Int, (ndc U : DataW Unit).atKey (nky b) (.lit (.int .i64 0)) = .lit (.int .i64 c) → v = c from fun c hc => by
    rw [HAT.out] at hc
    rw [hv]
    by_cases hm : b ∈ U
    · rw [if_pos hm] at hc ⊢; simpa using hc
    · rw [if_neg hm] at hc ⊢; simpa using hc)
  rw [← hv]
  clear hv h hn HAT
  go_enter Tryz.func32, Tryz.ntmps32
  go_wp2_with (at_lookup; refine wpList_lookup_own_ok_int _ rfl _ _ 74 rfl 9 3 .i64 law9 Tryz.underlying74 Tryz.underlying3 (zero3 _) K U.length (ndc U) rfl HK.out _ _ rfl HKY.out ?_; intro c hc hwc; obtain rfl := HAV.out c hc; rw [HHS.out]; clear hc hwc)
  go_ret2
  exact ⟨rfl, rfl⟩
end Go.Proofs.YtohhokjlgihbgaaGreatDoor
/- The contract of enter (package props): the number of a name, the next one if it is new. -/
namespace Go.Proofs.YtohhokjlgihbgaaGreatDoor
open Go.RowKit Go.Maps Go.WideMaps

theorem Tryz.info9 : (Tryz.prog.info? 9).map (fun i => (i.zero, i.size, i.bytes)) = some (some (.string ⟨#[]⟩), 1, 16) := by kernel_rfl
theorem news_s (w : World) (b : ByteArray) (T : TypeId) : ∀ j u, [Value.string b][j]? = some u → (w.alloc (.cells #[.string b] T)).cell? ((⟨w.heap.size, 0, none⟩ : Addr).add j) = some u := World.news_of_block (cs := #[.string b]) (heap_alloc_new w _)
theorem str_one (b : ByteArray) : ∀ v ∈ [Value.string b], v.oneCell' = true := fun v hv => by
  simp at hv; subst hv; rfl
theorem set_row (w : World) (b j : Nat) (l : List Value) (t : TypeId) (u : Value) (h : w.heap[b]? = some (.cells l.toArray t (0, 0))) : (w.setCell ⟨b, j, none⟩ u).heap[b]? = some (.cells (l.set j u).toArray t (0, 0)) := by
  have := Lib.heap_setCell_same (i := j) h u
  rw [this]
  simp
theorem frozen_row {w : World} {b : Nat} {l : Array Value} {t : TypeId} (h : w.heap[b]? = some (.cells l t (0, 0))) (j : Nat) : w.frozen? ⟨b, j, none⟩ = false := by
  unfold World.frozen?
  simp only [h]
  simp
theorem FarD.refl (P K : Nat) (nv : Value) (w : World) : FarD P K nv nv w w := ⟨fun _ _ _ _ _ => rfl, fun _ h => .inl h, Nat.le_refl _⟩
theorem FarD.trans {P K : Nat} {a b c : Value} {u v w : World} (h : FarD P K a b u v) (h2 : FarD P K b c v w) : FarD P K a c u w :=
  ⟨fun x hx h3 h4 h6 => (h2.st x (Nat.lt_of_lt_of_le hx h.sz) h3 h4 (fun e => by rcases h.nw x e with h7 | h7; exact h6 h7; omega)).trans (h.st x hx h3 h4 h6),
   fun x e => by
    rcases h2.nw x e with h3 | h3
    · exact h.nw x h3
    · exact .inr (Nat.le_trans h.sz h3), Nat.le_trans h.sz h2.sz⟩
theorem FarD.set {P K : Nat} {a b : Value} {u v : World} (h : FarD P K a b u v) (p : Addr) (hp : p.block = P) (x : Value) : FarD P K a b u (v.setCell p x) :=
  h.trans ⟨fun y _ h3 _ _ => Below.heap_setCell v p x y (fun e => h3 (e.trans hp)), fun _ e => .inl e, by simp [World.setCell]⟩

set_option maxHeartbeats 2000000 in
set_option maxRecDepth 100000 in
theorem enter_any (B P K : Nat) (U : List (List UInt8)) (nv pv : Value) (b : List UInt8) (w : World) (h : DbAt B P K U nv pv w) (hB : B ≤ w.heap.size) (hb : b.length ≤ 9223372036854775807) (hn : U.Nodup) (hl : U.length ≤ 1000000) :
    Calls Tryz.prog 58 #[.pointer (some ⟨P, 0, none⟩), .string ⟨b.toArray⟩] w fun e w' => e = .returned (.int .i64 ((adn b U).2 : Int)) ∧ Below B w w' ∧ ∃ nv', DbAt B P K (adn b U).1 nv' pv w' ∧ FarD P K nv nv' w w' := by
  obtain ⟨i0, hi9, hz0, hz1, hz2⟩ := info_parts Tryz.info9
  obtain ⟨no, nc, rfl⟩ : ∃ ao c, nv = .slice ao U.length c := by
    rcases h.hR.2 with ⟨h5, h6⟩ | ⟨q, qc, _, h5, _⟩
    · exact ⟨none, 0, by rw [h5, h6]⟩
    · exact ⟨_, qc, h5⟩
  have c0 := h.c0
  have c1 := h.c1
  have HKY := hid (keyOf_nm b hb)
  have HK := hid h.hK
  have HHS := hid (ndc_has (H := Unit) U.length U b rfl)
  have HAT := hid (ndc_at (H := Unit) (.lit (.int .i64 0)) U.length U b rfl hn)
  have HW := hid h
  clear h hn
  by_cases hm : b ∈ U
  · rw [decide_eq_true hm] at HHS
    rw [if_pos hm] at HAT
    have ea : adn b U = (U, U.idxOf b) := by unfold adn; rw [if_pos hm]
    rw [ea]
    dsimp only
    obtain ⟨m, hmE⟩ : ∃ m, m = U.idxOf b := ⟨_, rfl⟩
    rw [← hmE] at HAT ⊢
    have HAV := hid (show ∀ c : Int, (ndc U : DataW Unit).atKey (nky b) (.lit (.int .i64 0)) = .lit (.int .i64 c) → (m : Int) = c from fun c hc => by rw [HAT.out] at hc; simpa using hc)
    clear hm ea hmE HAT
    go_enter Tryz.func58, Tryz.ntmps58
    go_wp2_with (at_lookup; refine wpList_lookup_own_ok_int _ rfl _ _ 74 rfl 9 3 .i64 law9 Tryz.underlying74 Tryz.underlying3 (zero3 _) K U.length (ndc U) rfl HK.out _ _ rfl HKY.out ?_; intro c hc hwc; obtain rfl := HAV.out c hc; rw [HHS.out]; clear hc hwc)
    go_ret
    exact ⟨rfl, Below.refl _ _, _, HW.out, FarD.refl _ _ _ _⟩
  · rw [decide_eq_false hm] at HHS
    rw [if_neg hm] at HAT
    have ea : adn b U = (U ++ [b], U.length) := by unfold adn; rw [if_neg hm]
    rw [ea]
    dsimp only
    have HAV := hid (show ∀ c : Int, (ndc U : DataW Unit).atKey (nky b) (.lit (.int .i64 0)) = .lit (.int .i64 c) → (0 : Int) = c from fun c hc => by rw [HAT.out] at hc; simpa using hc)
    have HSN := hid (ndc_snoc (H := Unit) U b)
    have HPS := hid (nms_snoc U b)
    have HLN := hid (show (U ++ [b]).length = U.length + 1 by simp)
    obtain ⟨n, hnE⟩ : ∃ n, n = U.length := ⟨_, rfl⟩
    have HNE := hid hnE
    have HRW := hid HW.out.hR
    rw [← hnE] at c0 hl HSN HLN HK HRW
    have HP := hid HW.out.hP
    rw [← hnE] at HP
    have wfn : (Lit.int .i64 (n : Int)).wf = true := by
      have h2 : IntKind.i64.min = -9223372036854775808 := by decide
      have h3 : IntKind.i64.max = 9223372036854775807 := by decide
      simp [Lit.wf]; omega
    have HWF := hid wfn
    have HP1 := hid (show ∀ (w2 : World) (q2 c2 : Nat), (w.alloc (.cells #[.string ⟨b.toArray⟩] 9)).grownBy w2 (Value.slice no n nc).ownBlock → w2.heap[P]? = some (.cells #[.slice no n nc, .map (some K), pv] 76 (0, 0)) from fun w2 q2 c2 gr => by
      exact (gr.block P (by simp; have h5 := lt_of_heap HP.out; omega) (fun e => row_other HRW.out P _ 76 HP.out (by decide) e.symm)).trans ((heap_alloc_old w _ P (lt_of_heap HP.out)).trans HP.out))
    have HKP := hid (show ∀ (w2 : World), (w.alloc (.cells #[.string ⟨b.toArray⟩] 9)).grownBy w2 (Value.slice no n nc).ownBlock → w2.ownsMap (H := Unit) Tryz.prog 9 (plainElem Tryz.prog 3) K n (ndc U) from fun w2 gr => (HK.out.alloc _).kept gr (fun e => row_other_map HRW.out HK.out e.symm))
    clear hm ea hnE HAT wfn
    go_enter Tryz.func58, Tryz.ntmps58
    go_wp2_with (first | (at_lookup; refine wpList_lookup_own_ok_int _ rfl _ _ 74 rfl 9 3 .i64 law9 Tryz.underlying74 Tryz.underlying3 (zero3 _) K n (ndc U) rfl HK.out _ _ rfl HKY.out ?_; intro c hc hwc; obtain rfl := HAV.out c hc; rw [HHS.out]; clear hc hwc) | (at_builtin; refine wpList_append_lies _ rfl _ _ 45 rfl B 9 i0 (.string ⟨#[]⟩) 1 16 Tryz.underlying45 hi9 hz0 hz1 hz2 rfl (by decide) _ n (nms U) rfl (HRW.out.alloc _) ⟨w.heap.size, 0, none⟩ 1 1 [.string ⟨b.toArray⟩] rfl rfl (news_s w ⟨b.toArray⟩ 9) (str_one _) (by decide) (by unfold maxLen; omega) (by omega) (by simp; omega) (w.heap.size + 1) (by simp) ?_; intro q2 c2 w2 o2 gr2 hl2 hlt2; have f3 := HP1.out w2 q2 c2 gr2; have f1 : w2.cell? ⟨P, 0, none⟩ = some (.slice no n nc) := cell_row w2 P 0 [_, _, _] 76 _ f3 rfl; have f2 := frozen_row f3 0; have f4 : w2.cell? ⟨P, 1, none⟩ = some (.map (some K)) := cell_row w2 P 1 [_, _, _] 76 _ f3 rfl; have HF3 := hid f3; have GR := hid gr2; have HKM := hid ((HKP.out w2 gr2).setCell (a := ⟨P, 0, none⟩) (fun e => ne_map9 HK.out (show w.heap[K]? = _ by rw [e]; exact HP.out)) (.slice (some ⟨q2, 0, none⟩) (n + 1) c2)); clear f3 gr2) | (at_mapUpdate; refine wpList_mapUpdate_own _ rfl _ _ _ 74 rfl 9 3 law9 Tryz.underlying74 _ K n (ndc U) rfl HKM.out (by unfold maxLen; omega) _ _ _ rfl rfl HKY.out _ [] (plainElem_int Tryz.underlying3 HWF.out) ?_; intro w4 ho4 hg4) | fail)
    have gr2 := GR.out
    have hPK : P ≠ K := fun e => ne_map9 HK.out (show w.heap[K]? = _ by rw [← e]; exact HP.out)
    have r1 : (w2.setCell ⟨P, 0, none⟩ (.slice (some ⟨q2, 0, none⟩) (n + 1) c2)).heap[P]? = some (.cells #[.slice (some ⟨q2, 0, none⟩) (n + 1) c2, .map (some K), pv] 76 (0, 0)) := set_row w2 P 0 [.slice no n nc, .map (some K), pv] 76 _ HF3.out
    have hP3 := lt_of_heap r1
    have r2 := (hg4.block P hP3 (fun e => hPK (by injection e))).trans r1
    have r3 := ownsRow_setCell_other o2 (a := ⟨P, 0, none⟩) (row_other o2 P _ 76 HF3.out (by decide)) (.slice (some ⟨q2, 0, none⟩) (n + 1) c2)
    have r4 := World.ownsRow.kept r3 hg4 (.inr (row_other_map r3 HKM.out))
    rw [← HPS.out] at r4
    rw [← HSN.out] at ho4
    have r5 := ((((Below.refl B w).alloc hB (.cells #[.string ⟨b.toArray⟩] 9)).grown gr2 (by simp; omega) (fun k hk => (HRW.out.lt k hk).1)).setCell (p := ⟨P, 0, none⟩) HW.out.bP (.slice (some ⟨q2, 0, none⟩) (n + 1) c2)).grown hg4 (by have h5 := gr2.size; simp at h5; simp [World.setCell]; omega) (fun k hk => by injection hk with hk; rw [← hk]; exact HW.out.bK)
    have r6 : FarD P K (.slice no n nc) (.slice (some ⟨q2, 0, none⟩) (n + 1) c2) w w4 :=
      ((show FarD P K (.slice no n nc) (.slice (some ⟨q2, 0, none⟩) (n + 1) c2) w w2 from ⟨fun x hx _ _ h6 => (gr2.block x (by simp; omega) (fun e => h6 e.symm)).trans (heap_alloc_old w _ x hx), fun x e => by
        have e2 : q2 = x := by simpa [Value.ownBlock] using e
        subst e2
        rcases hl2 with h9 | h9
        · exact .inl h9
        · exact .inr (by omega), by have h9 := gr2.size; simp at h9; omega⟩).set ⟨P, 0, none⟩ rfl _).trans ⟨fun x hx _ h4 _ => hg4.block x hx (fun e => h4 (by injection e)), fun _ e => .inl e, hg4.size⟩
    have HR2 := hid r2
    have HR4 := hid r4
    have HR5 := hid r5
    have HR6 := hid r6
    have HO4 := hid ho4
    clear r1 r2 r3 r4 r5 r6 gr2 ho4 hg4 o2 hl2 hlt2 f1 f2 f4
    rw [← HNE.out]
    go_ret
    exact ⟨rfl, HR5.out, _, ⟨HR2.out, by rw [HLN.out]; exact HO4.out, by rw [HLN.out]; exact HR4.out, HW.out.bP, HW.out.bK⟩, HR6.out⟩
end Go.Proofs.YtohhokjlgihbgaaGreatDoor
/- Rows of ranges with classes. -/
namespace Go.Proofs.YtohhokjlgihbgaaGreatDoor
open Go.RowKit

abbrev Tr := Nat × Nat × Nat
/-- A range and its class. -/
abbrev Rk := Int × Int × Int
/-- A slice of ranges, nil or not, reads as a list. -/
def RdK (w : World) (ao : Option Addr) (l : List Rk) : Prop :=
  ∀ (k : Nat) (g : Rk), l[k]? = some g → ∃ a : Addr, ao = some a ∧ a.block < w.heap.size ∧ w.cell? (a.add (k * 3)) = some (.int .i32 g.1) ∧ w.cell? ⟨(a.add (k * 3)).block, (a.add (k * 3)).off + 1, none⟩ = some (.int .i32 g.2.1) ∧ w.cell? ⟨(a.add (k * 3)).block, (a.add (k * 3)).off + 2, none⟩ = some (.int .i64 g.2.2)
theorem RdK.below {w w' : World} {ao : Option Addr} {l : List Rk} (h : RdK w ao l) (hb : Below w.heap.size w w') : RdK w' ao l := fun k g hk => by
  obtain ⟨a, h1, h2, h3, h4, h5⟩ := h k g hk
  exact ⟨a, h1, Nat.lt_of_lt_of_le h2 hb.size, (hb.cell (p := a.add (k * 3)) (by rw [add_blk]; exact h2)).trans h3, (hb.cell (p := ⟨(a.add (k * 3)).block, (a.add (k * 3)).off + 1, none⟩) (show (a.add (k * 3)).block < _ by rw [add_blk]; exact h2)).trans h4, (hb.cell (p := ⟨(a.add (k * 3)).block, (a.add (k * 3)).off + 2, none⟩) (show (a.add (k * 3)).block < _ by rw [add_blk]; exact h2)).trans h5⟩
def rkc (g : Rk) : List Value := [.int .i32 g.1, .int .i32 g.2.1, .int .i64 g.2.2]
def rkv (g : Rk) : Value := .agg #[.int .i32 g.1, .int .i32 g.2.1, .int .i64 g.2.2]
def rkT (g : Tr) : Rk := ((g.1 : Int), (g.2.1 : Int), (g.2.2 : Int))
def rks (l : List Tr) : List Value := l.flatMap fun g => rkc (rkT g)
theorem rks_snoc (l : List Tr) (g : Tr) : rks (l ++ [g]) = rks l ++ rkc (rkT g) := by simp [rks]
theorem rks_len (l : List Tr) : (rks l).length = l.length * 3 := by
  induction l with
  | nil => rfl
  | cons g l ih =>
    show (rkc (rkT g) ++ rks l).length = _
    rw [List.length_append, ih]
    simp [rkc]; omega
theorem rkc_one (g : Rk) : ∀ v ∈ rkc g, v.oneCell' = true := fun v hv => by
  unfold rkc at hv
  simp only [List.mem_cons, List.not_mem_nil, or_false] at hv
  rcases hv with rfl | rfl | rfl <;> rfl
theorem news_k (w : World) (g : Rk) (T : TypeId) : ∀ j u, (rkc g)[j]? = some u → (w.alloc (.cells #[.int .i32 g.1, .int .i32 g.2.1, .int .i64 g.2.2] T)).cell? ((⟨w.heap.size, 0, none⟩ : Addr).add j) = some u := fun j u hj => by
  rw [show (⟨w.heap.size, 0, none⟩ : Addr).add j = ⟨w.heap.size, j, none⟩ by unfold Addr.add; split <;> simp_all]
  rw [cell_of_row _ w.heap.size j #[.int .i32 g.1, .int .i32 g.2.1, .int .i64 g.2.2] T (0, 0) (show (w.heap.push _)[w.heap.size]? = _ by simp)]
  rw [← hj]
  simp [rkc]
theorem rks_app (l m : List Tr) : rks (l ++ m) = rks l ++ rks m := by simp [rks]
theorem rd_own {B n cap : Nat} {ao : Option Addr} {A : List Tr} {w : World} (h : w.ownsRow B 86 3 (.slice ao n cap) n (rks A)) : RdK w ao (A.map rkT) := by
  intro k x hk
  rw [List.getElem?_map] at hk
  obtain ⟨t, ht, rfl⟩ := Option.map_eq_some_iff.1 hk
  have hn : A.length = n := by have := h.1; rw [rks_len] at this; omega
  have hkl := (List.getElem?_eq_some_iff.1 ht).1
  rcases h.2 with ⟨h', h0⟩ | ⟨q, cap', cur, h', hb, hg, hnc, hcm, hcs, htk⟩
  · omega
  · simp only [Value.slice.injEq, true_and] at h'
    obtain ⟨rfl, rfl⟩ := h'
    have hc : ∀ j v, (rkc (rkT t))[j]? = some v → w.cell? ⟨q, k * 3 + j, none⟩ = some v := fun j v hj => by
      have hj3 := (List.getElem?_eq_some_iff.1 hj).1
      have hj3' : j < 3 := hj3
      rw [h.cellAt _ (by omega)]
      have e : A = A.take k ++ t :: A.drop (k + 1) := by
        have := List.getElem_of_getElem? ht
        obtain ⟨_, this⟩ := this
        rw [← this, List.getElem_cons_drop, List.take_append_drop]
      rw [e, rks_app]
      have hlk : (rks (A.take k)).length = k * 3 := by rw [rks_len, List.length_take]; omega
      rw [List.getElem?_append_right (by omega), hlk, show k * 3 + j - k * 3 = j by omega]
      show (rkc (rkT t) ++ rks (A.drop (k + 1)))[j]? = _
      rw [List.getElem?_append_left hj3]
      exact hj
    have ha : (⟨q, 0, none⟩ : Addr).add (k * 3) = ⟨q, k * 3, none⟩ := by rw [Addr.add_lit, Nat.zero_add]
    refine ⟨_, rfl, (h.lt q rfl).2, ?_, ?_, ?_⟩
    · rw [ha]; exact hc 0 _ rfl
    · rw [ha]; exact hc 1 _ rfl
    · rw [ha]; exact hc 2 _ rfl
theorem own_keep {w w' : World} {B e size n : Nat} {v : Value} {xs : List Value} (h : w.ownsRow B e size v n xs) (hb : Below w.heap.size w w') : w'.ownsRow B e size v n xs := by
  refine ⟨h.1, ?_⟩
  rcases h.2 with h' | ⟨q, cap, cur, hv, hB, hg, rest⟩
  · exact .inl h'
  · exact .inr ⟨q, cap, cur, hv, hB, (hb.block q (Array.getElem?_eq_some_iff.1 hg).1).trans hg, rest⟩
theorem own_mono {w : World} {B B' e size n : Nat} {v : Value} {xs : List Value} (h : w.ownsRow B e size v n xs) (hb : B' ≤ B) : w.ownsRow B' e size v n xs := by
  refine ⟨h.1, ?_⟩
  rcases h.2 with h' | ⟨q, cap, cur, hv, hB, rest⟩
  · exact .inl h'
  · exact .inr ⟨q, cap, cur, hv, Nat.le_trans hb hB, rest⟩
theorem own_form {B n : Nat} {e : TypeId} {k : Nat} {v : Value} {xs : List Value} {w : World} (h : w.ownsRow B e k v n xs) : ∃ ao c, v = .slice ao n c := by
  rcases h.2 with ⟨rfl, h5⟩ | ⟨q', qc, _, rfl, _⟩
  · exact ⟨none, 0, by rw [h5]⟩
  · exact ⟨_, qc, rfl⟩
theorem Tryz.info86 : (Tryz.prog.info? 86).map (fun i => (i.zero, i.size, i.bytes)) = some (some (.agg #[.int .i32 0, .int .i32 0, .int .i64 0]), 3, 16) := by kernel_rfl
end Go.Proofs.YtohhokjlgihbgaaGreatDoor
