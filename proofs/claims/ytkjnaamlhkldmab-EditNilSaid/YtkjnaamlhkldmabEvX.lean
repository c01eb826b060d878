import Derived.Test.YtkjnaamlhkldmabEv10
import Derived.Laws.BytesString
import Derived.Laws.RangeString
namespace Go.Proofs.Ytkjnaamlhkldmab
namespace Ev
variable {P : Program} {μ : Mu} {A : AW} {w : World}

/-! texts and their bytes -/
theorem asBytes_ints : ∀ {l : List Value} {bs : List UInt8}, asBytes l = some bs → ∃ ns : List Int, l = ns.map (Value.int .u8) ∧ bs = ns.map fun n => UInt8.ofNat n.toNat
  | [], bs, h => by simp only [asBytes] at h; cases h; exact ⟨[], rfl, rfl⟩
  | x :: l, bs, h => by
    unfold asBytes at h
    split at h
    · rename_i heq; cases heq
    · rename_i n r heq
      cases heq
      split at h
      · rename_i bs' hbs
        cases h
        obtain ⟨ns, rfl, rfl⟩ := asBytes_ints hbs
        exact ⟨n :: ns, rfl, rfl⟩
      · cases h
    · cases h
theorem fold_push : ∀ (ns : List Int) (s : ByteArray), ns.foldl (fun r n => r.push (UInt8.ofNat n.toNat)) s = ⟨(s.data.toList ++ ns.map fun n => UInt8.ofNat n.toNat).toArray⟩
  | [], s => by simp
  | n :: ns, s => by
    rw [List.foldl_cons, fold_push ns]
    simp [ByteArray.push]
noncomputable def aB2S (P : Program) (A : AW) (src dst : TypeId) (x : Value) : Option Value :=
  match P.underlying src, P.underlying dst with
  | some (.slice e), some .string => match P.underlying e with
    | some (.int .u8) => match x with
      | .slice none _ _ => some (.string .empty)
      | .slice (some a) n _ => if n = 0 then some (.string .empty) else match A.get a.block with
        | some (.cells vs _ _ _ _) => if a.off + n ≤ vs.length then
            match asBytes ((vs.drop a.off).take n) with
            | some bs => some (.string ⟨bs.toArray⟩)
            | none => none
          else none
        | _ => none
      | _ => none
    | _ => none
  | _, _ => none
theorem aB2S_ok {src dst : TypeId} {x x' v : Value} (W : WR μ A w) (hx : VR μ x x') (h : aB2S P A src dst x = some v) : ∃ v', (convert src dst x').run P w = .ok v' w ∧ VR μ v v' := by
  unfold aB2S at h
  split at h
  · rename_i e hs hd
    split at h
    · rename_i he
      split at h
      · cases h; simp only [VR] at hx; subst hx
        exact ⟨.string .empty, by rw [run_convert_bytes_string w src dst e none _ _ hs he hd]; rfl, by simp [VR]⟩
      · rename_i a n c
        simp only [VR] at hx
        obtain ⟨a', c', rfl, hS⟩ := hx
        split at h
        · rename_i h0; cases h; subst h0
          refine ⟨.string .empty, ?_, by simp [VR]⟩
          rw [run_convert_bytes_string w src dst e (some a') _ _ hs he hd, run_bytesToString w a' 0 c' [] rfl]
          rfl
        · rename_i h0
          split at h
          · rename_i vs t op fz es hg
            split at h
            · rename_i hle
              split at h
              · rename_i bs hbs
                cases h
                obtain ⟨xs', h1, h2⟩ := load_cells (P := P) W (hS.addr (by omega)) hg hle
                have hxs := flatL_eq (asBytes_flat hbs) h2
                subst hxs
                obtain ⟨ns, hns, rfl⟩ := asBytes_ints hbs
                rw [hns] at h1
                refine ⟨_, by rw [run_convert_bytes_string w src dst e (some a') _ _ hs he hd, run_bytesToString w a' n c' ns h1], ?_⟩
                rw [fold_push]
                simp only [VR]
                rfl
              · cases h
            · cases h
          · cases h
      · cases h
    · cases h
  · cases h
noncomputable def aS2B (P : Program) (A : AW) (dst : TypeId) : Value → Option (Value × AW)
  | .string s => match P.underlying dst with
    | some (.slice e) => match P.underlying e, P.info? e with
      | some (.int .u8), some ie => if ie.size = 1 ∧ s.size ≤ 1000000 then some (.slice (some ⟨A.next, 0, none⟩) s.size unk, A.push (.cells (bytesV s s.size) e true (some 0) 1)) else none
      | _, _ => none
    | _ => none
  | _ => none
theorem aS2B_ok {src dst : TypeId} {x x' v : Value} {A' : AW} {ds : TypeDesc} (W : WR μ A w) (hsrc : P.underlying src = some ds) (hx : VR μ x x') (h : aS2B P A dst x = some (v, A')) :
    ∃ μ' v' w', (convert src dst x').run P w = .ok v' w' ∧ VR μ' v v' ∧ WR μ' A' w' ∧ Ext μ A w μ' A' w' := by
  unfold aS2B at h
  split at h
  · rename_i s
    simp only [VR] at hx; subst hx
    split at h
    · rename_i e hd
      split at h
      · rename_i ie he hie
        split at h
        · rename_i hc
          cases h
          obtain ⟨W1, E1⟩ := W.drawn (w.drawn + 1)
          have hlen : (bytesV s s.size).length = s.size := by
            unfold bytesV
            rw [Array.toList_map, List.length_map]
            simp
          have hcut : ∃ m, s.size ≤ m ∧ m = Question.cut (.appendCap s.size 0 e) (w.tape w.drawn (.appendCap s.size 0 e)) := ⟨_, by simp [Question.cut], rfl⟩
          obtain ⟨m, hm, hme⟩ := hcut
          have hb : (s.data.map fun b => Value.int .u8 b.toNat) = (bytesV s s.size).toArray := by
            unfold bytesV
            have : s.extract 0 s.size = s := by simp
            rw [this]
          have hLR : LR μ (bytesV s s.size) (bytesV s s.size) := flatL_LR (by unfold bytesV; rw [Array.toList_map]; exact flatL_bytes _)
          let c : Array Value := (bytesV s s.size).toArray ++ Array.replicate (m - s.size) (.int .u8 0)
          have hcs : c.size = m := by simp only [c, Array.size_append, List.size_toArray, hlen, Array.size_replicate]; omega
          have hN := W1.new (d := 0) (sz := m) (k := 1) (o := .cells (bytesV s s.size) e true (some 0) 1) (o' := .cells c e (m, m + 1)) (by
            have hle := Mu.add_le (x := ⟨w.heap.size, 0, m, 1⟩) (W1.dom A.next (Nat.le_refl _))
            refine ⟨c, (m, m + 1), rfl, hcs, by simp only [Nat.zero_add, hlen]; exact hm, by simp, rfl, ?_, ?_⟩
            · simp only [List.drop_zero, c, Array.toList_append]
              rw [List.take_left' rfl]
              exact hLR.mono hle
            · simp only [FZ]; intro i hi; simp at hi ⊢; omega)
          refine ⟨_, .slice (some ⟨w.heap.size, 0, none⟩) s.size m, _, ?_, ?_, hN.1, E1.trans hN.2⟩
          · have hconv : (convert src dst (.string s)).run P w = (Conv.stringToBytes e s).run P w := by
              unfold convert
              simp only [Sem.run_bind, rU hsrc, rU hd, Result.andThen, rU he]
            rw [hconv]
            simp only [Conv.stringToBytes, Sem.run_bind, run_choose, Question.forced, Bool.false_eq_true, if_false, Result.andThen]
            rw [← hme, hb]
            simp only [newRow, Sem.run_bind, run_newObj, Result.andThen, Sem.run_pure, markStringish, run_shape, World.shape?, Array.getElem?_push_size, run_freeze]
            have hfz : World.freeze { w with drawn := w.drawn + 1, heap := w.heap.push (.cells c e) } { block := w.heap.size, off := c.size } 1 = { w with drawn := w.drawn + 1, heap := w.heap.push (.cells c e (m, m + 1)) } := by
              unfold World.freeze
              rw [if_neg (by omega)]
              congr 1
              apply Array.ext_getElem?
              intro j
              rw [Array.getElem?_modify, Array.getElem?_push, Array.getElem?_push]
              by_cases e' : w.heap.size = j
              · subst e'; simp [hcs]
              · have : ¬ j = w.heap.size := fun h => e' h.symm
                simp [e', this]
            exact congrArg (fun W' => Result.ok (Value.slice (some ⟨w.heap.size, 0, none⟩) s.size m) W') hfz
          · simp only [VR]
            exact ⟨_, _, rfl, .inr ⟨rfl, .inr ⟨rfl, hm, _, Mu.add_get (W1.dom A.next (Nat.le_refl _)), by simp, by simp⟩⟩⟩
        · cases h
      · cases h
    · cases h
  · cases h
/-! copy -/
noncomputable def aCopy (P : Program) (A : AW) (dType : TypeId) (d s : Value) : Option (Value × AW) :=
  match P.underlying dType, lenV s with
  | some (.slice elem), some sl => match P.info? elem, d with
    | some _, .slice none dl _ => if Nat.min sl dl = 0 then some (goInt 0, A) else none
    | some ie, .slice (some a) dl _ => if Nat.min sl dl = 0 then some (goInt 0, A) else
        match A.get a.block, aCells A ie.size (Nat.min sl dl) s with
        | some (.cells vs t op fz es), some xs => if xs.all (·.oneCell') = true ∧ a.off + xs.length ≤ vs.length ∧ FZok fz a.off = true then
            some (goInt (Nat.min sl dl), A.set a.block (some (.cells (splice vs a.off xs) t op fz es)))
          else none
        | _, _ => none
    | _, _ => none
  | _, _ => none
theorem cells_zero {x x' : Value} {size m : Nat} (hx : VR μ x x') (hm : lenV x = some m) : (Builtin.firstCells size 0 x').run P w = .ok #[] w := by
  unfold lenV at hm
  split at hm
  · rename_i a n c
    cases a with
    | none => simp only [VR] at hx; subst hx; rfl
    | some a => simp only [VR] at hx; obtain ⟨_, _, rfl, _⟩ := hx; simp [Builtin.firstCells, loadCells, loadCellsFrom]
  · simp only [VR] at hx; subst hx; simp [Builtin.firstCells]
  · cases hm
theorem aCopy_ok {dType sType ty : TypeId} {d d' s s' v : Value} {A' : AW} (W : WR μ A w) (hd : VR μ d d') (hs : VR μ s s') (h : aCopy P A dType d s = some (v, A')) :
    ∃ v' w', (Builtin.copy_ #[dType, sType] ty #[d', s']).run P w = .ok v' w' ∧ VR μ v v' ∧ WR μ A' w' ∧ Ext μ A w μ A' w' := by
  unfold aCopy at h
  split at h
  · rename_i elem sl hu hsl
    split at h
    · rename_i ie dl dc hie
      simp only [VR] at hd; subst hd
      split at h
      · rename_i h0
        cases h
        refine ⟨goInt 0, w, ?_, by simp [goInt, VR], W, Ext.refl⟩
        simp [Builtin.copy_, rU hu, lenV_ok hs hsl, rS hie, h0, cells_zero hs hsl]
      · cases h
    · rename_i ie a dl dc hie
      simp only [VR] at hd
      obtain ⟨a', c', rfl, hS⟩ := hd
      split at h
      · rename_i h0
        cases h
        refine ⟨goInt 0, w, ?_, by simp [goInt, VR], W, Ext.refl⟩
        simp [Builtin.copy_, rU hu, lenV_ok hs hsl, rS hie, h0, cells_zero hs hsl, storeCells]
      · rename_i h0
        split at h
        · rename_i vs t op fz es xs hg hxs
          split at h
          · rename_i hc
            obtain ⟨h1, h2, h3⟩ := hc
            cases h
            obtain ⟨xs', h4, h5⟩ := aCells_ok (P := P) W hs hsl (Nat.min_le_left _ _) hxs
            have hdl : 0 < dl := by
              have : Nat.min sl dl ≤ dl := Nat.min_le_right sl dl
              omega
            obtain ⟨w', h6, h7, h8⟩ := store_cells (P := P) W (hS.addr hdl) hg h5 h1 h2 h3
            refine ⟨goInt (Nat.min sl dl), w', ?_, by simp [goInt, VR], h7, h8⟩
            simp [Builtin.copy_, rU hu, lenV_ok hs hsl, rS hie, h4, h6]
          · cases h
        · cases h
    · cases h
  · cases h
/-! clear -/
noncomputable def aClear (P : Program) (A : AW) (t : TypeId) : Value → Option AW
  | .slice none _ _ => match P.underlying t with
    | some _ => some A
    | none => none
  | .slice (some _) 0 _ => match P.underlying t with
    | some _ => some A
    | none => none
  | .slice (some a) (n + 1) _ => match P.underlying t with
    | some (.slice elem) => match P.info? elem with
      | some ie => match ie.zero with
        | some z => match A.get a.block with
          | some (.cells vs ty op fz es) => if flat z = true ∧ (reps (n + 1) (cellsL z)).all (·.oneCell') = true ∧ a.off + (reps (n + 1) (cellsL z)).length ≤ vs.length ∧ FZok fz a.off = true then
              some (A.set a.block (some (.cells (splice vs a.off (reps (n + 1) (cellsL z))) ty op fz es)))
            else none
          | _ => none
        | none => none
      | none => none
    | _ => none
  | _ => none
theorem zero_reps (z : Value) (m : Nat) : Builtin.zeroCells z.cells m = (reps m (cellsL z)).toArray := by
  unfold Builtin.zeroCells
  rw [range_zero, cellsL_eq]
theorem reps_flat {z : List Value} (h : LR μ z z) : ∀ n, LR μ (reps n z) (reps n z)
  | 0 => LR.nil
  | n + 1 => h.append (reps_flat h n)
theorem aClear_ok {t ty : TypeId} {x x' : Value} {A' : AW} (W : WR μ A w) (hx : VR μ x x') (h : aClear P A t x = some A') :
    ∃ w', (Builtin.clear_ #[t] ty #[x']).run P w = .ok (.tuple #[]) w' ∧ WR μ A' w' ∧ Ext μ A w μ A' w' := by
  unfold aClear at h
  split at h
  · split at h
    · rename_i d hd
      cases h
      simp only [VR] at hx; subst hx
      exact ⟨w, by simp [Builtin.clear_, rU hd], W, Ext.refl⟩
    · cases h
  · split at h
    · rename_i d hd
      cases h
      simp only [VR] at hx; obtain ⟨a', c', rfl, _⟩ := hx
      exact ⟨w, by simp [Builtin.clear_, rU hd], W, Ext.refl⟩
    · cases h
  · rename_i a n c
    simp only [VR] at hx; obtain ⟨a', c', rfl, hS⟩ := hx
    split at h
    · rename_i elem hd
      split at h
      · rename_i ie hi
        split at h
        · rename_i z hz
          split at h
          · rename_i vs ty' op fz es hg
            split at h
            · rename_i hc
              obtain ⟨h1, h2, h3, h4⟩ := hc
              cases h
              have hL : LR μ (cellsL z) (cellsL z) := by
                have := cells_LR (flat_VR (μ := μ) h1)
                rwa [cellsL_eq] at this
              obtain ⟨w', h6, h7, h8⟩ := store_cells (P := P) W (hS.addr (Nat.succ_pos _)) hg (reps_flat hL (n + 1)) h2 h3 h4
              refine ⟨w', ?_, h7, h8⟩
              have e : (Builtin.zeroCells z.cells (n + 1)).toList = reps (n + 1) (cellsL z) := by rw [zero_reps]
              simp [Builtin.clear_, rU hd, rZ hi hz, e, h6]
            · cases h
          · cases h
        · cases h
      · cases h
    · cases h
  · cases h
/-! a text gone over rune by rune -/
noncomputable def aRange (P : Program) (A : AW) (t : TypeId) : Value → Option (Value × AW)
  | .string s => match P.underlying t with
    | some .string => some (.pointer (some ⟨A.next, 0, none⟩), A.push (.sit s 0))
    | _ => none
  | _ => none
theorem aRange_ok {t : TypeId} {x x' v : Value} {A' : AW} (W : WR μ A w) (hx : VR μ x x') (h : aRange P A t x = some (v, A')) : ∃ μ' v' w', (Instr.range t x').run P w = .ok v' w' ∧ VR μ' v v' ∧ WR μ' A' w' ∧ Ext μ A w μ' A' w' := by
  unfold aRange at h
  split at h
  · rename_i s
    simp only [VR] at hx; subst hx
    split at h
    · rename_i hu
      cases h
      have hN := W.new (d := 0) (sz := 0) (k := 0) (o := .sit s 0) (o' := .stringIter s 0) ⟨rfl, rfl⟩
      refine ⟨_, .pointer (some ⟨w.heap.size, 0, none⟩), _, ?_, ?_, hN⟩
      · simp [Instr.range, rU hu]
      · simp only [VR]; exact ⟨_, rfl, AR_new (W.dom _ (Nat.le_refl _))⟩
    · cases h
  · cases h
noncomputable def aNext (A : AW) (str : Bool) : Value → Option (Value × AW)
  | .pointer (some ⟨r, 0, none⟩) => match A.get r, str with
    | some (.sit s pos), true => if pos < s.size then some (.tuple ⟨[.bool true, goInt pos, .int .i32 (Utf8.decode s pos).1]⟩, A.set r (some (.sit s (pos + (Utf8.decode s pos).2)))) else some (.tuple ⟨[.bool false]⟩, A)
    | _, _ => none
  | _ => none
theorem aNext_ok {str : Bool} {ty : TypeId} {x x' v : Value} {A' : AW} (W : WR μ A w) (hx : VR μ x x') (h : aNext A str x = some (v, A')) : ∃ v' w', (Instr.next x' str ty).run P w = .ok v' w' ∧ VR μ v v' ∧ WR μ A' w' ∧ Ext μ A w μ A' w' := by
  unfold aNext at h
  split at h
  · rename_i r
    simp only [VR] at hx
    obtain ⟨a', rfl, _, l, hm, rfl⟩ := hx
    split at h
    · rename_i s pos hg
      obtain ⟨o', h2, h3⟩ := W.has _ _ l hg hm
      obtain ⟨hd0, rfl⟩ := h3
      have hget : (getObj l.b).run P w = .ok (.stringIter s pos) w := by simp [getObj, Sem.run, h2]
      split at h
      · rename_i hlt
        cases h
        have hset : (setObj l.b (.stringIter s (pos + (Utf8.decode s pos).2))).run P w = .ok () { w with heap := w.heap.setIfInBounds l.b (.stringIter s (pos + (Utf8.decode s pos).2)) } := by simp [setObj, Sem.run, h2]
        have hU := W.upd (o := .sit s (pos + (Utf8.decode s pos).2)) (o' := .stringIter s (pos + (Utf8.decode s pos).2)) hg hm ⟨hd0, rfl⟩
        refine ⟨.tuple #[.bool true, goInt pos, .int .i32 (Utf8.decode s pos).1], _, ?_, ?_, hU⟩
        · simp only [Instr.next, hd0, Nat.add_zero, Sem.run_bind, hget, Result.andThen, hlt, if_true, hset, Sem.run_pure]
        · simp only [VR]
          exact ⟨_, rfl, LR.cons (by simp [VR]) (LR.cons (by simp [goInt, VR]) (LR.cons (by simp [VR]) LR.nil))⟩
      · rename_i hge
        cases h
        refine ⟨.tuple #[.bool false], w, ?_, ?_, W, Ext.refl⟩
        · simp only [Instr.next, hd0, Nat.add_zero, Sem.run_bind, hget, Result.andThen, hge, if_false, Sem.run_pure]
        · simp only [VR]
          exact ⟨_, rfl, LR.cons (by simp [VR]) LR.nil⟩
    · cases h
  · cases h
end Ev
end Go.Proofs.Ytkjnaamlhkldmab
