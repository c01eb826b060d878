/- What the walk of SentenceWhole uses: the row of runes; what cut answers by the two runes beside an edge; a law for a range over the iterator of Each whose body may leave. -/
import Derived.Test.YtckifhlhechdlaaDoorSnEach
import Derived.Test.YtckifhlhechdlaaDoorSnKind
import Derived.Test.YtckifhlhechdlaaDoorLiveRun
namespace Go.Proofs.YtckifhlhechdlaaDoor
open Go.RowKit Go.Shelf

theorem mks_ru : ∀ (n p : Nat) (l : List UInt8), l.length ≤ n → (mks p l).map (·.ru) = (rl l).map fun x => (x.1 : Int)
  | n, p, l, hn => by
    by_cases h : l = []
    · subst h; rfl
    · have h1 := dec_ge l h
      have hp : 0 < l.length := List.length_pos_iff.2 h
      cases n with
      | zero => omega
      | succ n =>
        rw [mks_cons p l h, rl_cons l h, List.map_cons, List.map_cons, mks_ru n _ _ (by rw [List.length_drop]; omega)]
        rfl
theorem prs_rl (l : List UInt8) : r32 (prs l) = (rl l).map fun x => Value.int .i32 x.1 := by
  have h := mks_ru _ 0 l (Nat.le_refl _)
  unfold r32 prs
  rw [List.map_map]
  have e : (mks 0 l).map ((fun x : Int × Int => Value.int .i32 x.2) ∘ fun m : Mk => (m.pl, m.ru)) = ((mks 0 l).map (·.ru)).map (fun z => Value.int .i32 z) := by rw [List.map_map]; rfl
  rw [e, h, List.map_map]; rfl
theorem prs_len2 (l : List UInt8) : (prs l).length = (rl l).length := by
  have h := congrArg List.length (prs_rl l)
  simpa [r32] using h
/-- A slice of runes reads as a text's runes. -/
def RdQ (w : World) (ao : Option Addr) (K : List (Nat × Nat)) : Prop :=
  ∀ (k : Nat) (x : Nat × Nat), K[k]? = some x → ∃ a : Addr, ao = some a ∧ a.block < w.heap.size ∧ w.cell? (a.add k) = some (.int .i32 x.1)
theorem RdQ.below {w w' : World} {ao : Option Addr} {K : List (Nat × Nat)} (h : RdQ w ao K) (hb : Below w.heap.size w w') : RdQ w' ao K := fun k z hk => by
  obtain ⟨a, h1, h2, h3⟩ := h k z hk
  exact ⟨a, h1, Nat.lt_of_lt_of_le h2 hb.size, (hb.cell (p := a.add k) (by rw [add_blk]; exact h2)).trans h3⟩
theorem rdq_own {B n cap : Nat} {ao : Option Addr} {l : List UInt8} {w : World} (h : w.ownsRow B 21 1 (.slice ao n cap) n (r32 (prs l))) (hn : n = (rl l).length) : RdQ w ao (rl l) := by
  intro k x hk
  have hkl := (List.getElem?_eq_some_iff.1 hk).1
  rcases h.2 with ⟨h', h0⟩ | ⟨q, cap', cur, h', hb, hg, hnc, hcm, hcs, htk⟩
  · omega
  · simp only [Value.slice.injEq, true_and] at h'
    obtain ⟨rfl, rfl⟩ := h'
    refine ⟨_, rfl, (h.lt q rfl).2, ?_⟩
    rw [Addr.add_lit, Nat.zero_add, h.cellAt k (by omega), prs_rl, List.getElem?_map, hk]; rfl
theorem wown_slice {w : World} {B e sz m : Nat} {v : Value} {xs : List Value} (h : w.ownsRow B e sz v m xs) : ∃ vo vc, v = .slice vo m vc := by
  rcases h.2 with ⟨rfl, h0⟩ | ⟨q, qc, _, rfl, _⟩
  · exact ⟨none, 0, by rw [h0]⟩
  · exact ⟨_, qc, rfl⟩
theorem tbs_below {w w' : World} (h : Ev.Tbs tabs w) (hb : Below w.heap.size w w') : Ev.Tbs tabs w' := fun x hx => by
  obtain ⟨c, h1, h2⟩ := h x hx
  exact ⟨c, (hb.block _ (Array.getElem?_eq_some_iff.1 h1).1).trans h1, h2⟩
theorem wcat (a b : List UInt8) : (⟨a.toArray⟩ ++ ⟨b.toArray⟩ : ByteArray) = ⟨(a ++ b).toArray⟩ := by
  apply ByteArray.ext
  simp
theorem fw_cls (l : List UInt8) : Cls (fw l) := fun c hc => by
  unfold fw at hc
  obtain ⟨x, _, rfl⟩ := List.mem_map.1 hc
  exact sn_bd _
/-- The classes beside an edge. -/
theorem fw_at (l : List UInt8) (k : Nat) (hk : k < (rl l).length) : (fw l)[k]'(by rw [fw_len]; exact hk) = sncls ((rl l)[k].1 : Int) := by simp [fw]
theorem cut_heads (l : List UInt8) (k : Nat) (h0 : 0 < k) (hk : k < (rl l).length) (p c : Int) (hp : sncls ((rl l)[k - 1].1 : Int) = p) (hc : sncls ((rl l)[k].1 : Int) = c) :
    (((fw l).take k).reverse).headD 0 = p ∧ ((fw l).drop k).headD 0 = c := by
  have hkl : k < (fw l).length := by rw [fw_len]; exact hk
  constructor
  · obtain ⟨j, rfl⟩ : ∃ j, k = j + 1 := ⟨k - 1, by omega⟩
    rw [List.take_succ_eq_append_getElem (by omega), List.reverse_append]
    simp only [List.reverse_cons, List.reverse_nil, List.nil_append, List.cons_append, List.headD_cons]
    rw [fw_at l j (by omega)]
    exact hp
  · rw [List.drop_eq_getElem_cons hkl, List.headD_cons, fw_at l k hk]
    exact hc
theorem sc_line (l : List UInt8) (k : Nat) (h0 : 0 < k) (hk : k < (rl l).length) (p c : Int) (hp : sncls ((rl l)[k - 1].1 : Int) = p) (hc : sncls ((rl l)[k].1 : Int) = c)
    (h : p = 2 ∨ p = 3 ∨ p = 1 ∧ c ≠ 2) : scut l (pos l k) = true := by
  obtain ⟨e1, e2⟩ := cut_heads l k h0 hk p c hp hc
  rw [scut_at l k (Nat.le_of_lt hk)]
  unfold cutR
  rw [e1, e2]
  have h1 : ¬ ((p == 1 && c == 2) = true) := fun h2 => by
    rw [Bool.and_eq_true] at h2
    have := eq_of_beq h2.1
    have := eq_of_beq h2.2
    omega
  rw [if_neg h1, if_pos]
  rw [sh14 p (by rw [← hp]; exact sn_bd _)]
  omega
theorem sc_crlf (l : List UInt8) (k : Nat) (h0 : 0 < k) (hk : k < (rl l).length) (hp : sncls ((rl l)[k - 1].1 : Int) = 1) (hc : sncls ((rl l)[k].1 : Int) = 2) : scut l (pos l k) = false := by
  obtain ⟨e1, e2⟩ := cut_heads l k h0 hk 1 2 hp hc
  rw [scut_at l k (Nat.le_of_lt hk)]
  unfold cutR
  rw [e1, e2]; rfl
theorem sc_ext (l : List UInt8) (k : Nat) (h0 : 0 < k) (hk : k < (rl l).length) (p : Int) (hp : sncls ((rl l)[k - 1].1 : Int) = p) (hc : sncls ((rl l)[k].1 : Int) = 13)
    (h1 : p ≠ 1) (h2 : p ≠ 2) (h3 : p ≠ 3) : scut l (pos l k) = false := by
  obtain ⟨e1, e2⟩ := cut_heads l k h0 hk p 13 hp hc
  rw [scut_at l k (Nat.le_of_lt hk)]
  unfold cutR
  rw [e1, e2]
  rw [if_neg (by rw [beq_eq_false_iff_ne.2 h1]; simp), if_neg, if_pos (by decide)]
  rw [sh14 p (by rw [← hp]; exact sn_bd _)]
  omega
/-- A piece that is not the last ends well. -/
theorem pc_ends (l : List UInt8) (x : Pc l) (h : x.1.2 < (rl l).length) (c : Int) (hc : c = slast ((l.take (pos l x.1.2)).drop (pos l x.1.1))) (hk : kndR (((fw l).take x.1.2).drop x.1.1).reverse = 0) : c = 1 ∨ c = 2 ∨ c = 3 := by
  obtain ⟨h1, h2, h3, h4⟩ := x.2
  have hcut : scut l (pos l x.1.2) = true := by
    rcases h4 with h4 | h4
    · omega
    · exact h4
  rw [slast_hd, bk_piece l _ _ (Nat.le_of_lt h1) h2] at hc
  have hb : 0 ≤ c ∧ c ≤ 13 := by
    rw [hc]
    exact hd_bd (fun z hz => fw_cls l z (List.mem_of_mem_take (List.mem_of_mem_drop (List.mem_reverse.1 hz))))
  rw [← sh14 c hb]
  by_cases hs : shas 14 c = true
  · exact hs
  · refine absurd hk (ends_well (fw l) (fw_cls l) x.1.1 x.1.2 h1 (by rw [fw_len]; exact h) (by rw [← scut_at l _ h2]; exact hcut) ?_ (by rw [← hc]; exact Bool.eq_false_iff.2 hs))
    rcases h3 with h3 | h3
    · exact .inl h3
    · exact .inr (by rw [← scut_at l _ (by omega)]; exact h3)
/-- The temporaries behind the assignment of the two loop variables. -/
def fr {s : List UInt8} (a : Act) (ps : Array Tmp) (d1 d2 : Nat) (x : Pc s) : Act :=
  { tmps := (((ps.zip (encP x)).foldl (fun t (p, v) => t.setIfInBounds p v) a.tmps).setIfInBounds d1 (.int .i64 (pos s x.1.1 : Nat))).setIfInBounds d2 (.int .i64 (pos s x.1.2 : Nat)), defers := [] }
theorem rf_S {s : List UInt8} {F : Fence} {n : Nat} {P : Program} {g : Operand} {ps : Array Tmp} {assign body : Code} {Q : Exit → Act → World → Prop} {a : Act} {w : World}
    (hro : F.round = none) (h1 : 1 ≤ n) {gf : Nat} {lb : Array Value} (hg : a.eval g = .func (.func gf) #[] lb) (hFg : F.fn gf) (eg : ∀ args w, (callFunc gf args).run P w = .ok (.enter gf args) w)
    {L : List (Pc s)} {w0 : World} {K : Nat → Prop} (hseq : SeqStopsK F (n - 1) P gf lb encP (KrW K) (fun xs => xs = L) (fun pre => pre <+: L) L.length w0) (hK : ∀ k, K k → k < w.heap.size) (hb0 : Below w0.heap.size w0 w) (hps : 2 = ps.size)
    (d1 d2 : Nat) (I : List (Pc s) → World → Prop) (hI : OwnFrom w.heap.size I) (h0 : I [] w)
    (hassign : ∀ (l : Nat) (x : Pc s) (W : World) (K : Act → World → Prop), K (fr a ps d1 d2 x) W → assign.wpIn (F.inRound l) (n - 1 - 1) P (Exit.then K (fun _ _ _ => False)) { tmps := (ps.zip (encP x)).foldl (fun t (p, v) => t.setIfInBounds p v) a.tmps, defers := [] } W)
    (hbody : ∀ (l : Nat) (pre : List (Pc s)) (x : Pc s) (W : World), I pre W → pre.length < L.length → body.wpIn (F.inRound l) (n - 1 - 1) P (ownPostG w.heap.size (KrW K) I (fun c pre _ => c = .ret ∧ ¬ pre <+: L) (pre ++ [x]) W) (fr a ps d1 d2 x) W)
    (hfin : ∀ D W, w.heap.size ≤ D → I L W → W.heap[D]? = some (.deferred (some [])) → Q .normal { a with defers := { target := .collected D, args := #[] } :: a.defers } W) :
    (Code.rangeFunc g ps assign body).wpIn F n P Q a w :=
  wpIn_rangeFunc_ownG hro h1 hg hFg eg hseq KrW_t (KrW_b hK) hb0 (fun _ => hps) I (fun c pre _ => c = .ret ∧ ¬ pre <+: L) hI (fun _ _ _ _ _ h _ _ => h) h0 (fr a ps d1 d2) hassign hbody
    (fun D xs W hD hS hi hDK => hfin D W hD (by have e : xs = L := hS; subst e; exact hi) hDK)
    (fun _ _ _ _ _ hSp hx _ => absurd hSp hx.2)
end Go.Proofs.YtckifhlhechdlaaDoor
