/- Rows of numbers of one's own. -/
import Derived.Test.YtkopefljnhgdkaaGreatDoorWpRf
import Derived.Laws.MakeOwn
namespace Go.Proofs.YtkopefljnhgdkaaGreatDoor
open Go.RowKit Go.Shelf
variable {B : Nat}

def i64s (l : List Int) : List Value := l.map fun z => .int .i64 z
theorem i64s_len (l : List Int) : (i64s l).length = l.length := by simp [i64s]
theorem i64s_at (l : List Int) (k : Nat) : (i64s l)[k]? = (l[k]?).map fun z => .int .i64 z := by simp [i64s]
theorem i64s_one (l : List Int) : ∀ u ∈ i64s l, u.oneCell' = true := fun u hu => by
  obtain ⟨z, _, rfl⟩ := List.mem_map.1 hu
  rfl
theorem i64s_snoc (l : List Int) (z : Int) : i64s (l ++ [z]) = i64s l ++ [.int .i64 z] := by simp [i64s]
/-- The row that lies at a slice: its cells. -/
theorem own_at {w : World} {vo : Option Addr} {m vc : Nat} {l : List Int} (h : w.ownsRow B 3 1 (.slice vo m vc) m (i64s l)) {i : Nat} {x : Int} (hi : l[i]? = some x) : ∃ g, vo = some ⟨g, 0, none⟩ ∧ B ≤ g ∧ g < w.heap.size ∧ w.cell? ⟨g, i, none⟩ = some (.int .i64 x) := by
  have hil := (List.getElem?_eq_some_iff.1 hi).1
  have hl := h.1
  rw [i64s_len] at hl
  rcases h.2 with ⟨_, h0⟩ | ⟨g, cap, cur, hv, hb, hg, _⟩
  · omega
  · simp only [Value.slice.injEq, true_and] at hv
    obtain ⟨rfl, rfl⟩ := hv
    refine ⟨g, rfl, hb, (Array.getElem?_eq_some_iff.1 hg).1, ?_⟩
    rw [h.cellAt i (by omega), i64s_at, hi]
    rfl
theorem rdi_own {B m vc : Nat} {w : World} {vo : Option Addr} {l : List Int} (h : w.ownsRow B 3 1 (.slice vo m vc) m (i64s l)) : RdI w vo l := fun k z hk => by
  obtain ⟨g, e, _, hg, hc⟩ := own_at h hk
  exact ⟨_, e, hg, by rw [Addr.add_lit, Nat.zero_add]; exact hc⟩
theorem news_one (w : World) (v : Value) (T : TypeId) : ∀ j u, [v][j]? = some u → (w.alloc (.cells #[v] T)).cell? ((⟨w.heap.size, 0, none⟩ : Addr).add j) = some u := fun j u hj => by
  match j, hj with
  | 0, hj =>
    have : v = u := by simpa using hj
    subst this
    rw [show (⟨w.heap.size, 0, none⟩ : Addr).add 0 = ⟨w.heap.size, 0, none⟩ by unfold Addr.add; split <;> simp_all]
    rw [cell_of_row _ w.heap.size 0 #[v] T (0, 0) (show (w.heap.push _)[w.heap.size]? = _ by simp)]
    rfl
  | j + 1, hj => simp at hj
theorem own_mono' {w : World} {B B' e size n : Nat} {v : Value} {xs : List Value} (h : w.ownsRow B e size v n xs) (hb : B' ≤ B) : w.ownsRow B' e size v n xs := by
  refine ⟨h.1, ?_⟩
  rcases h.2 with h' | ⟨q, cap, cur, hv, hB, rest⟩
  · exact .inl h'
  · exact .inr ⟨q, cap, cur, hv, Nat.le_trans hb hB, rest⟩
theorem lt_of {W : World} {k : Nat} {o : Obj} (h : W.heap[k]? = some o) : k < W.heap.size := (Array.getElem?_eq_some_iff.1 h).1
theorem own_same {W W' : World} {B e size m : Nat} {v : Value} {xs : List Value} (h : W.ownsRow B e size v m xs) (hh : ∀ k, v.ownBlock = some k → k < W.heap.size → W'.heap[k]? = W.heap[k]?) : W'.ownsRow B e size v m xs := by
  refine ⟨h.1, ?_⟩
  rcases h.2 with h' | ⟨q, cap, cur, hv, hB, hg, rest⟩
  · exact .inl h'
  · exact .inr ⟨q, cap, cur, hv, hB, (hh q (by rw [hv]; rfl) (lt_of hg)).trans hg, rest⟩
theorem own_type {W : World} {B e size m : Nat} {v : Value} {xs : List Value} (h : W.ownsRow B e size v m xs) {k : Nat} (hk : v.ownBlock = some k) : ∃ c, W.heap[k]? = some (.cells c e) := by
  rcases h.2 with ⟨rfl, _⟩ | ⟨q, cap, cur, rfl, hB, hg, _⟩
  · cases hk
  · cases hk; exact ⟨cur, hg⟩
theorem Tryz.info3 : (Tryz.prog.info? 3).map (fun i => (i.zero, i.size, i.bytes)) = some (some (.int .i64 0), 1, 8) := by kernel_rfl
theorem own_nil (w : World) (B e size : Nat) : w.ownsRow B e size (.slice none 0 0) 0 [] := ⟨by simp, .inl ⟨rfl, rfl⟩⟩
theorem Shut.own {B : Nat} {X Y : World} (h : Shut B X Y) {B' e size m : Nat} {v : Value} {xs : List Value} (o : X.ownsRow B' e size v m xs) : Y.ownsRow B' e size v m xs := by
  refine ⟨o.1, ?_⟩
  rcases o.2 with h' | ⟨q, cap, cur, hv, hB, hg, rest⟩
  · exact .inl h'
  · exact .inr ⟨q, cap, cur, hv, hB, h.cells q _ hg rfl, rest⟩
/-- What an append leaves as it was. -/
theorem Marks.grown {D : List Nat} {B : Nat} {X Y : World} {e B' size m : Nat} {v : Value} {xs : List Value} (h : Marks D B X) (o : X.ownsRow B' e size v m xs) (g : X.grownBy Y v.ownBlock) : Marks D B Y :=
  ⟨fun d hd => (g.block d (lt_of (h.at' d hd)) (fun e => by
    obtain ⟨c, hc⟩ := own_type o e.symm
    rw [h.at' d hd] at hc
    cases hc)).trans (h.at' d hd), h.low, h.nodup⟩
theorem Marks.alloc {D : List Nat} {B : Nat} {X : World} (h : Marks D B X) (o : Obj) : Marks D B (X.alloc o) :=
  ⟨fun d hd => (Below.heap_alloc _ _ _ (lt_of (h.at' d hd))).trans (h.at' d hd), h.low, h.nodup⟩
theorem Marks.bs {D : List Nat} {B : Nat} {S : Nat → Prop} {X Y : World} (h : Marks D B X) (b : BS S X Y) (hS : ∀ k, S k → ∃ c t, X.heap[k]? = some (Obj.cells c t (0, 0))) : Marks D B Y :=
  ⟨fun d hd => (b.block d (lt_of (h.at' d hd)) (fun e => by
    obtain ⟨c, t, hc⟩ := hS d e
    rw [h.at' d hd] at hc
    cases hc)).trans (h.at' d hd), h.low, h.nodup⟩
theorem Marks.below {D : List Nat} {B : Nat} {X Y : World} (h : Marks D B X) (b : Below X.heap.size X Y) : Marks D B Y :=
  ⟨fun d hd => (b.block d (lt_of (h.at' d hd))).trans (h.at' d hd), h.low, h.nodup⟩
theorem Marks.cons {D : List Nat} {B d : Nat} {X : World} (h : Marks D B X) (hd : X.heap[d]? = some (.deferred (some []))) (hB : B ≤ d) (hn : ∀ e ∈ D, e < d) : Marks (d :: D) B X :=
  ⟨fun e he => by
    rcases List.mem_cons.1 he with rfl | he
    · exact hd
    · exact h.at' e he, fun e he => by
    rcases List.mem_cons.1 he with rfl | he
    · exact hB
    · exact h.low e he, List.nodup_cons.2 ⟨fun he => by have := hn d he; omega, h.nodup⟩⟩
end Go.Proofs.YtkopefljnhgdkaaGreatDoor
