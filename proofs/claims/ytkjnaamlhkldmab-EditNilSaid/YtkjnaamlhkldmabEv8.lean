import Derived.Test.YtkjnaamlhkldmabEv7
namespace Go.Proofs.Ytkjnaamlhkldmab
namespace Ev
variable {P : Program} {μ : Mu} {A : AW} {w : World}

theorem open_new (W : WR μ A w) {ys ys' : List Value} (hy : LR μ ys ys') (rest : List Value) (t size : Nat) :
    WR (μ.add A.next ⟨w.heap.size, 0, (ys' ++ rest).length, size⟩) (A.push (.cells ys t true none size)) { w with heap := w.heap.push (.cells (ys' ++ rest).toArray t) } ∧
    Ext μ A w (μ.add A.next ⟨w.heap.size, 0, (ys' ++ rest).length, size⟩) (A.push (.cells ys t true none size)) { w with heap := w.heap.push (.cells (ys' ++ rest).toArray t) } := by
  refine W.new ?_
  have hle := Mu.add_le (x := ⟨w.heap.size, 0, (ys' ++ rest).length, size⟩) (W.dom A.next (Nat.le_refl _))
  refine ⟨_, _, rfl, by simp, by simp [hy.len], by simp, rfl, ?_, rfl⟩
  simp only [List.drop_zero]
  rw [← hy.len, List.take_left]
  exact hy.mono hle
theorem VR_open {b n m size sz : Nat} (h1 : n ≤ m) (h2 : m * size ≤ sz) {i : Nat} (hd : μ i = none) : VR (μ.add i ⟨b, 0, sz, size⟩) (.slice (some ⟨i, 0, none⟩) n unk) (.slice (some ⟨b, 0, none⟩) n m) := by
  simp only [VR]
  exact ⟨_, _, rfl, .inr ⟨rfl, .inr ⟨rfl, h1, _, Mu.add_get hd, by simp, by simpa using h2⟩⟩⟩
/-- A fresh row. -/
theorem app_fresh {sType xType elem size : Nat} (T : AppT P sType xType elem size) {base : Option Addr} {x x' : Value} {len cap n : Nat} {os xs : List Value} {type : Nat} (W : WR μ A w) (hx : VR μ x x') (hn : lenV x = some n) (hc : aCells A size n x = some xs) (hxl : xs.length = n * size) (hol : os.length = len * size)
    (hgt : cap < len + n) (hsm : len + n ≤ 1000000) (ho : ∀ w1, WR μ A w1 → ∃ os' : List Value, (Builtin.firstCells size len (.slice base len cap)).run P w1 = .ok os'.toArray w1 ∧ LR μ os os') :
    ∃ μ' v' w', (Builtin.append_ #[sType, xType] type #[.slice base len cap, x']).run P w = .ok v' w' ∧ VR μ' (.slice (some ⟨A.next, 0, none⟩) (len + n) unk) v' ∧ WR μ' (A.push (.cells (os ++ xs) elem true none size)) w' ∧ Ext μ A w μ' (A.push (.cells (os ++ xs) elem true none size)) w' := by
  obtain ⟨W1, E1⟩ := W.drawn (w.drawn + 1)
  obtain ⟨os', h1, h2⟩ := ho _ W1
  obtain ⟨xs', h3, h4⟩ := aCells_ok (P := P) W1 hx hn (Nat.le_refl _) hc
  obtain ⟨m, hm, hr⟩ := app_new T (type := type) (lenV_ok (w := w) hx hn) hgt hsm h1 h3
  obtain ⟨W2, E2⟩ := open_new W1 (h2.append h4) (reps (m - (len + n)) (cellsL T.z)) elem size
  refine ⟨_, _, _, hr, ?_, W2, E1.trans E2⟩
  refine VR_open (i := A.next) hm ?_ (W.dom _ (Nat.le_refl _))
  have e : (os' ++ xs' ++ reps (m - (len + n)) (cellsL T.z)).length = m * size := by
    rw [List.length_append, reps_len, T.hl, List.length_append, h2.len, h4.len, hol, hxl, ← Nat.add_mul, ← Nat.add_mul]
    congr 1; omega
  rw [e]
  exact Nat.le_refl _
theorem aAppend_ok {sType xType elem size : Nat} (T : AppT P sType xType elem size) {s s' x x' v : Value} {len n : Nat} {A' : AW} {type : Nat} (W : WR μ A w) (hs : VR μ s s') (hx : VR μ x x') (hn : lenV x = some n) (hl : lenV s = some len) (hsm : len + n ≤ 1000000) (h : aAppend A elem size s x n = some (v, A')) :
    ∃ μ' v' w', (Builtin.append_ #[sType, xType] type #[s', x']).run P w = .ok v' w' ∧ VR μ' v v' ∧ WR μ' A' w' ∧ Ext μ A w μ' A' w' := by
  unfold aAppend at h
  split at h
  · rename_i xs hc
    simp only [VR] at hs; subst hs
    simp only [lenV] at hl; cases hl
    split at h
    · rename_i h0
      cases h
      obtain ⟨xs', h3, h4⟩ := aCells_ok (P := P) W hx hn (Nat.le_refl _) hc
      refine ⟨μ, .slice none (0 + n) 0, w, app_in T (lenV_ok hx hn) (by omega) h3 (fun a ha => by cases ha) (fun _ => rfl), ?_, W, Ext.refl⟩
      subst h0; simp [VR]
    · rename_i h0
      split at h
      · rename_i hxl
        cases h
        have := app_fresh T (type := type) (base := none) (len := 0) (cap := 0) (os := []) W hx hn hc hxl (by simp) (by omega) hsm (fun w1 _ => ⟨[], rfl, LR.nil⟩)
        simpa using this
      · cases h
  · rename_i a len' cap xs hc
    simp only [lenV] at hl; cases hl
    have hs0 := hs
    simp only [VR] at hs
    obtain ⟨a', c', rfl, hS⟩ := hs
    split at h
    · rename_i hpre
      obtain ⟨hxl, hsp⟩ := hpre
      split at h
      · rename_i hcond
        obtain ⟨h0, hcap⟩ := hcond
        cases h
        subst h0
        obtain ⟨xs', h3, h4⟩ := aCells_ok (P := P) W hx hn (Nat.le_refl _) hc
        have hxs : xs' = [] := by
          have := h4.len
          rw [hxl, Nat.zero_mul] at this
          exact List.eq_nil_of_length_eq_zero this
        subst hxs
        have hle : len + 0 ≤ c' := by
          rcases hS with ⟨h5, rfl, _⟩ | ⟨_, ⟨h5, h6⟩ | ⟨_, h5, _⟩⟩
          · exact hcap.resolve_left h5
          · omega
          · omega
        exact ⟨μ, _, w, app_in T (lenV_ok hx hn) hle h3 (fun a _ => rfl) (fun hh => by cases hh), hs0, W, Ext.refl⟩
      · rename_i hcond
        split at h
        · rename_i hc2
          obtain ⟨hcu, hl0, hcn⟩ := hc2
          cases h
          subst hl0
          rcases hS with ⟨_, rfl, _⟩ | ⟨h5, _⟩
          · have := app_fresh T (type := type) (base := some a') (len := 0) (cap := c') (os := []) W hx hn hc hxl (by simp) (by omega) hsm (fun w1 _ => ⟨[], by simp [Builtin.firstCells, loadCells, loadCellsFrom], LR.nil⟩)
            simpa using this
          · exact absurd h5 hcu
        · split at h
          · rename_i vs t op fz es hg
            split at h
            · rename_i hu
              split at h
              · rename_i hc3
                obtain ⟨hend, hes, ht, hone⟩ := hc3
                subst ht
                split at h
                · rename_i fz' hfz
                  cases h
                  have hn0 : 0 < n := by
                    rcases Nat.eq_zero_or_pos n with h5 | h5
                    · exact absurd ⟨h5, .inl hu⟩ hcond
                    · exact h5
                  by_cases hin : len + n ≤ c'
                  · -- in place
                    rcases hS with ⟨h5, _⟩ | ⟨_, ⟨h5, h6⟩ | ⟨_, h5, l, hm, rfl, hroom⟩⟩
                    · exact absurd hu h5
                    · omega
                    · obtain ⟨xs', h3, h4⟩ := aCells_ok (P := P) W hx hn (Nat.le_refl _) hc
                      obtain ⟨c, fr, h6, h8, h9, h10, hk, h11, h12⟩ := W.cells hm hg
                      have hcl : c.toList.length = l.sz := by simpa using h8
                      have hk' : l.k = size := by rw [← hk, hes]
                      have hsz : l.d + a.off + (len + n) * size ≤ l.sz := by
                        rw [hk'] at hroom
                        have := Nat.mul_le_mul_right size hin
                        omega
                      rw [Nat.add_mul] at hsz
                      have hrun := run_stores (P := P) l.b (l.d + a.off + len * size) t fr xs' 0 c w h6 (fun j hj => by
                        rw [h4.len, hxl] at hj
                        cases fz with
                        | none => simp only [FZ] at h12; subst h12; simp
                        | some m =>
                          simp only [FZ] at h12
                          simp only [fzShift] at hfz
                          split at hfz
                          · rw [show l.d + a.off + len * size + 0 + j = l.d + (a.off + len * size + j) by omega, h12 _ (by omega)]; omega
                          · cases hfz) (by rw [h4.len, hxl]; omega) (h4.all1 hone)
                      have hrun' : (storeCells ((⟨l.b, l.d + a.off, none⟩ : Addr).add (len * size)) xs').run P w = .ok () { w with heap := w.heap.setIfInBounds l.b (.cells (splice c.toList (l.d + a.off + len * size) xs').toArray t fr) } := by
                        rw [add_at]; simpa using hrun
                      have hsw := W.swap (l' := ⟨l.b, l.d + a.off, l.sz, size⟩) (o := .cells ((vs.drop a.off).take (len * size) ++ xs) t true fz' size) (o' := .cells (splice c.toList (l.d + a.off + len * size) xs').toArray t fr) hg hm rfl ?_
                      · obtain ⟨W2, E2⟩ := hsw
                        refine ⟨_, _, _, app_in T (lenV_ok hx hn) hin h3 (fun a1 ha1 => by cases ha1; exact hrun') (fun hh => by cases hh), ?_, W2, E2⟩
                        simp only [VR]
                        refine ⟨_, _, rfl, .inr ⟨rfl, .inr ⟨rfl, hin, _, Mu.add_get (W.dom A.next (Nat.le_refl _)), by simp, ?_⟩⟩⟩
                        rw [hk'] at hroom
                        simpa using hroom
                      · have hle := Mu.add_le (x := ⟨l.b, l.d + a.off, l.sz, size⟩) (W.dom A.next (Nat.le_refl _))
                        refine ⟨_, fr, rfl, ?_, ?_, by simp, rfl, ?_, ?_⟩
                        · simp only [List.size_toArray]; rw [splice_len (by rw [h4.len, hxl]; omega)]; exact hcl
                        · simp only [List.length_append, List.length_take, List.length_drop]; omega
                        · have e1 : (splice c.toList (l.d + a.off + len * size) xs').drop (l.d + a.off) = splice (c.toList.drop (l.d + a.off)) (len * size) xs' := splice_drop (by rw [h4.len, hxl]; omega)
                          have e2 : ((vs.drop a.off).take (len * size) ++ xs).length = len * size + xs.length := by simp only [List.length_append, List.length_take, List.length_drop]; omega
                          simp only
                          rw [e1, e2]
                          have e3 : (splice (c.toList.drop (l.d + a.off)) (len * size) xs').take (len * size + xs.length) = (c.toList.drop (l.d + a.off)).take (len * size) ++ xs' := by
                            simp only [splice]
                            rw [List.take_left' (by simp [h4.len]; omega)]
                          rw [e3]
                          have e4 : LR μ ((vs.drop a.off).take (len * size)) ((c.toList.drop (l.d + a.off)).take (len * size)) := by
                            have h13 := (h11.drop a.off).take (len * size)
                            rw [List.drop_take, List.drop_drop, List.take_take] at h13
                            rw [show min (len * size) (vs.length - a.off) = len * size by omega] at h13
                            exact h13
                          exact (e4.append h4).mono hle
                        · simp only
                          cases fz with
                          | none => simp only [fzShift] at hfz; cases hfz; exact h12
                          | some m =>
                            simp only [fzShift] at hfz
                            split at hfz
                            · rename_i hmo
                              cases hfz
                              simp only [FZ] at h12 ⊢
                              intro i hi
                              rw [show l.d + a.off + i = l.d + (a.off + i) by omega, h12 _ (by omega)]
                              omega
                            · cases hfz
                  · -- anew
                    have hos : ∀ w1, WR μ A w1 → ∃ os' : List Value, (Builtin.firstCells size len (.slice (some a') len c')).run P w1 = .ok os'.toArray w1 ∧ LR μ ((vs.drop a.off).take (len * size)) os' := fun w1 W1 => by
                      rcases Nat.eq_zero_or_pos len with h5 | h5
                      · subst h5
                        rw [Nat.zero_mul, List.take_zero]
                        exact ⟨[], by simp [Builtin.firstCells, loadCells, loadCellsFrom], LR.nil⟩
                      · obtain ⟨os', h6, h7⟩ := load_cells (P := P) (n := len * size) W1 (hS.addr h5) hg (by omega)
                        exact ⟨os', by simpa [Builtin.firstCells] using h6, h7⟩
                    -- the row is read ahead of the forgetting
                    obtain ⟨W1, E1⟩ := W.drawn (w.drawn + 1)
                    obtain ⟨os', h1, h2⟩ := hos _ W1
                    obtain ⟨xs', h3, h4⟩ := aCells_ok (P := P) W1 hx hn (Nat.le_refl _) hc
                    obtain ⟨m, hm, hr⟩ := app_new T (type := type) (lenV_ok (w := w) hx hn) (by omega) hsm h1 h3
                    obtain ⟨W1d, E1d⟩ := W1.drop a.block
                    obtain ⟨W2, E2⟩ := open_new W1d (h2.append h4) (reps (m - (len + n)) (cellsL T.z)) t size
                    have hsz : (os' ++ xs' ++ reps (m - (len + n)) (cellsL T.z)).length = m * size := by
                      rw [List.length_append, reps_len, T.hl, List.length_append, h2.len, h4.len, hxl]
                      simp only [List.length_take, List.length_drop]
                      rw [show min (len * size) (vs.length - a.off) = len * size by omega, ← Nat.add_mul, ← Nat.add_mul]
                      congr 1; omega
                    have hz0 : fz' = none ∨ fz' = some 0 := by
                      cases fz with
                      | none => simp only [fzShift] at hfz; cases hfz; exact .inl rfl
                      | some m => simp only [fzShift] at hfz; split at hfz <;> cases hfz; exact .inr rfl
                    refine ⟨_, _, _, hr, VR_open (μ := μ) (i := A.next) (size := size) (sz := (os' ++ xs' ++ reps (m - (len + n)) (cellsL T.z)).length) hm (by rw [hsz]; exact Nat.le_refl _) (W.dom _ (Nat.le_refl _)), ?_, ?_⟩
                    · rcases hz0 with rfl | rfl
                      · exact W2
                      · refine ⟨fun j oj lj hj h5 => ?_, fun j i oj oi lj li hj hi => ?_, W2.dom⟩
                        · rw [AW.get_push] at hj
                          split at hj
                          · rename_i e; cases hj
                            obtain ⟨oj', h6, h7⟩ := W2.has j (.cells ((vs.drop a.off).take (len * size) ++ xs) t true none size) lj (by rw [AW.get_push, if_pos e]) h5
                            refine ⟨oj', h6, ?_⟩
                            obtain ⟨c, fr, rfl, g1, g2, g3, g4, g5, g6⟩ := h7
                            refine ⟨c, fr, rfl, g1, g2, g3, g4, g5, ?_⟩
                            simp only [FZ] at g6 ⊢
                            subst g6
                            intro i _
                            simp
                          · rename_i e; exact W2.has j oj lj (by rw [AW.get_push, if_neg e]; exact hj) h5
                        · have fix : ∀ n on, (((A.set a.block none).push (.cells ((vs.drop a.off).take (len * size) ++ xs) t true (some 0) size)).get n = some on) → ∃ on', ((A.set a.block none).push (.cells ((vs.drop a.off).take (len * size) ++ xs) t true none size)).get n = some on' := fun n on hh => by
                            rw [AW.get_push] at hh ⊢
                            split at hh
                            · exact ⟨_, by rw [if_pos (by assumption)]⟩
                            · exact ⟨on, by rw [if_neg (by assumption)]; exact hh⟩
                          obtain ⟨x1, hx1⟩ := fix j oj hj
                          obtain ⟨x2, hx2⟩ := fix i oi hi
                          exact W2.inj j i x1 x2 lj li hx1 hx2
                    · have E := (E1.trans E1d).trans E2
                      rcases hz0 with rfl | rfl
                      · exact E
                      · refine ⟨E.le, E.size, E.tape, E.os, E.output, E.stay, fun j oj lj hj hl => ?_, E.next, E.keep⟩
                        rw [AW.get_push] at hj
                        split at hj
                        · rename_i e; exact E.img j (.cells ((vs.drop a.off).take (len * size) ++ xs) t true none size) lj (by rw [AW.get_push, if_pos e]) hl
                        · rename_i e; exact E.img j oj lj (by rw [AW.get_push, if_neg e]; exact hj) hl
                · cases h
              · cases h
            · rename_i hu
              rcases hS with ⟨_, rfl, ha⟩ | ⟨h5, _⟩
              · split at h
                · rename_i hin
                  split at h
                  · rename_i hc3
                    obtain ⟨hroom, hone, hfz⟩ := hc3
                    cases h
                    obtain ⟨xs', h3, h4⟩ := aCells_ok (P := P) W hx hn (Nat.le_refl _) hc
                    have ha2 := ha.add (len * size)
                    have hao : (a.add (len * size)).block = a.block ∧ (a.add (len * size)).off = a.off + len * size := by
                      obtain ⟨ab, ao, asp⟩ := a
                      simp only at hsp; subst hsp
                      rw [add_at]; exact ⟨rfl, rfl⟩
                    obtain ⟨w', h5, h6, h7⟩ := store_cells (P := P) W ha2 (by rw [hao.1]; exact hg) h4 hone (by rw [hao.2]; exact hroom) (by rw [hao.2]; exact hfz)
                    rw [hao.1, hao.2] at h6 h7
                    refine ⟨μ, _, w', app_in T (lenV_ok hx hn) hin h3 (fun a1 ha1 => by cases ha1; exact h5) (fun hh => by cases hh), ?_, h6, h7⟩
                    simp only [VR]
                    exact ⟨_, _, rfl, .inl ⟨hu, rfl, ha⟩⟩
                  · cases h
                · rename_i hin
                  split at h
                  · rename_i hc3
                    obtain ⟨hroom, hpos⟩ := hc3
                    cases h
                    exact app_fresh T (type := type) W hx hn hc hxl (by simp; omega) (by omega) hsm (fun w1 W1 => by
                      obtain ⟨os', h6, h7⟩ := load_cells (P := P) (n := len * size) W1 ha hg hroom
                      exact ⟨os', by simpa [Builtin.firstCells] using h6, h7⟩)
                  · cases h
              · exact absurd h5 hu
          · cases h
    · cases h
  · cases h
end Ev
end Go.Proofs.Ytkjnaamlhkldmab
