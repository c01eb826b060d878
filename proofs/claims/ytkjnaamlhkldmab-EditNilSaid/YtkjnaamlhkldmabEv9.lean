import Derived.Test.YtkjnaamlhkldmabEv8
import Derived.Lib.UnsafeStr
namespace Go.Proofs.Ytkjnaamlhkldmab
namespace Ev
variable {P : Program} {μ : Mu} {A : AW} {w : World}

/-! pointers that are turned into others, and back -/
theorem run_seen {b o t : Nat} {c : Array Value} {fr : Nat × Nat} (h : w.heap[b]? = some (.cells c t fr)) : (Conv.seenAt ⟨b, o, none⟩).run P w = .ok ⟨b, o, none⟩ w := by
  simp [Conv.seenAt, viewAt, World.shape?, h]
noncomputable def aUnsafe (P : Program) (A : AW) (src dst : TypeId) : Value → Option Value
  | .pointer (some a) => match P.underlying src, P.underlying dst, A.get a.block with
    | some (.pointer t), some .unsafePointer, some (.cells vs _ _ _ _) => match P.info? t with
      | some i => if i.size ≠ 0 ∧ a.off < vs.length then some (.pointer (some a)) else none
      | none => none
    | some .unsafePointer, some (.pointer u), some (.cells vs t false _ _) => match P.info? u with
      | some i => if i.size ≠ 0 ∧ liesAt P P.depth t (vs.length / P.cellsOf t) a.off u 1 = true then some (.pointer (some a)) else none
      | none => none
    | _, _, _ => none
  | _ => none
theorem aUnsafe_ok {src dst : TypeId} {x x' v : Value} (W : WR μ A w) (hx : VR μ x x') (h : aUnsafe P A src dst x = some v) : ∃ v', (convert src dst x').run P w = .ok v' w ∧ VR μ v v' := by
  unfold aUnsafe at h
  split at h
  · rename_i a
    have hx0 := hx
    simp only [VR] at hx
    obtain ⟨a', rfl, hs, l, hm, rfl⟩ := hx
    split at h
    · rename_i t vs ty op fz es h1 h2 hg
      split at h
      · rename_i i hi
        split at h
        · rename_i hc
          cases h
          obtain ⟨c, fr, h6, h8, h9, h10, hk, h11, h12⟩ := W.cells hm hg
          refine ⟨_, ?_, hx0⟩
          have hlt : ¬ c.size ≤ l.d + a.off := by omega
          simp [convert, rU h1, rU h2, Conv.unsafePointer, run_seen h6, cellsIn, World.shape?, h6, rS hi, hc.1, hlt]
        · cases h
      · cases h
    · rename_i u vs t fz es h1 h2 hg
      split at h
      · rename_i i hi
        split at h
        · rename_i hc
          cases h
          obtain ⟨c, fr, h6, h8, h9, h10, hk, h11, h12⟩ := W.cells hm hg
          obtain ⟨hd0, hvl⟩ := h10 rfl
          refine ⟨_, ?_, hx0⟩
          have hl : liesAt P P.depth t (c.size / P.cellsOf t) (l.d + a.off) u 1 = true := by rw [h8, hd0, Nat.zero_add, ← hvl]; exact hc.2
          simp [convert, rU h1, rU h2, Conv.unsafePointer, run_seen h6, World.shape?, h6, rS hi, hc.1, variablesAt, hl]
        · cases h
      · cases h
    · cases h
  · cases h
def aSliceData : Value → Option Value
  | .slice none _ _ => some (.pointer none)
  | .slice (some a) n c => if 0 < n ∧ (c = unk ∨ c ≠ 0) then some (.pointer (some a)) else none
  | _ => none
theorem aSliceData_ok {ts : Array TypeId} {t : TypeId} {x x' v : Value} (hx : VR μ x x') (h : aSliceData x = some v) : ∃ v', (Builtin.unsafeSliceData_ ts t #[x']).run P w = .ok v' w ∧ VR μ v v' := by
  unfold aSliceData at h
  split at h
  · cases h; simp only [VR] at hx; subst hx
    exact ⟨_, rfl, by simp [VR]⟩
  · rename_i a n c
    split at h
    · rename_i hc
      cases h
      simp only [VR] at hx
      obtain ⟨a', c', rfl, hs⟩ := hx
      have hc' : c' ≠ 0 := by
        rcases hs with ⟨h1, rfl, _⟩ | ⟨_, ⟨h1, h2⟩ | ⟨_, h1, _⟩⟩
        · exact hc.2.resolve_left h1
        · omega
        · omega
      refine ⟨.pointer (some a'), Lib.run_unsafeSliceData_row w ts t a' n c' hc', ?_⟩
      simp only [VR]
      exact ⟨_, rfl, hs.addr hc.1⟩
    · cases h
  · cases h
def asBytes : List Value → Option (List UInt8)
  | [] => some []
  | .int .u8 b :: r => match asBytes r with
    | some bs => some (b.toNat.toUInt8 :: bs)
    | none => none
  | _ :: _ => none
theorem run_loadBytes {b t : Nat} {c : Array Value} {fr : Nat × Nat} (h : w.heap[b]? = some (.cells c t fr)) : ∀ (xs : List Value) (bs : List UInt8) (o : Nat) (acc : ByteArray), asBytes xs = some bs → (∀ j v, xs[j]? = some v → c[o + j]? = some v) →
    (loadBytes ⟨b, o, none⟩ acc xs.length).run P w = .ok ⟨(acc.data.toList ++ bs).toArray⟩ w
  | [], bs, o, acc, h1, _ => by
    simp only [asBytes] at h1; cases h1
    simp [loadBytes]
  | x :: xs, bs, o, acc, h1, h2 => by
    unfold asBytes at h1
    split at h1
    · rename_i heq; cases heq
    · rename_i n r heq
      cases heq
      split at h1
      · rename_i bs' hbs
        cases h1
        have h0 := h2 0 (.int .u8 n) rfl
        simp only [Nat.add_zero] at h0
        have hc : w.cell? ⟨b, o, none⟩ = some (.int .u8 n) := by simp [World.cell?, h, h0]
        have ih := run_loadBytes h xs bs' (o + 1) (acc.push n.toNat.toUInt8) hbs (fun j v hj => by
          have := h2 (j + 1) v (by simpa using hj)
          rwa [show o + 1 + j = o + (j + 1) by omega])
        simp only [loadBytes, List.length_cons, Sem.run_bind, run_load, hc, Result.andThen]
        rw [add_at, ih]
        simp [ByteArray.push]
      · cases h1
    · cases h1
theorem liesAt_one {e u count off n : Nat} (hc : P.cellsOf e = 1) (hs : sameLayout P P.depth e u = true) (h : off + n ≤ count) : liesAt P P.depth e count off u n = true := by
  have hd : ∃ d, P.depth = d + 1 := ⟨2 * (P.types.size + Made.depth) + 1, rfl⟩
  obtain ⟨d, hd⟩ := hd
  rw [hd] at hs ⊢
  simp only [liesAt, hd, rowAt, hc, Nat.div_one, Nat.mod_one, hs]
  simp [h]
noncomputable def aString (P : Program) (A : AW) (pt : TypeId) (p : Value) : Value → Option (Value × AW)
  | .int _ n => match p with
    | .pointer none => if n = 0 then some (.string .empty, A) else none
    | .pointer (some a) => match P.underlying pt, A.get a.block with
      | some (.pointer u), some (.cells vs t op none es) =>
        if 0 < n ∧ n ≤ 1000000 ∧ a.off = 0 ∧ n.toNat ≤ vs.length ∧ P.cellsOf t = 1 ∧ sameLayout P P.depth t u = true then
          match asBytes (vs.take n.toNat) with
          | some bs => some (.string ⟨bs.toArray⟩, A.set a.block (some (.cells vs t op (some n.toNat) es)))
          | none => none
        else none
      | _, _ => none
    | _ => none
  | _ => none
theorem asBytes_flat : ∀ {l : List Value} {bs : List UInt8}, asBytes l = some bs → flatL l = true
  | [], _, _ => rfl
  | x :: l, bs, h => by
    unfold asBytes at h
    split at h
    · rename_i heq; cases heq
    · rename_i n r heq
      cases heq
      split at h
      · rename_i bs' hbs
        simp [flatL, flat, asBytes_flat hbs]
      · cases h
    · cases h
theorem aString_ok {pt it : TypeId} {ty : TypeId} {p p' x x' v : Value} {A' : AW} (W : WR μ A w) (hp : VR μ p p') (hx : VR μ x x') (h : aString P A pt p x = some (v, A')) :
    ∃ v' w', (Builtin.unsafeString_ #[pt, it] ty #[p', x']).run P w = .ok v' w' ∧ VR μ v v' ∧ WR μ A' w' ∧ Ext μ A w μ A' w' := by
  unfold aString at h
  split at h
  · rename_i k n
    simp only [VR] at hx; subst hx
    split at h
    · simp only [VR] at hp; subst hp
      split at h
      · rename_i h0; cases h; subst h0
        refine ⟨.string .empty, w, ?_, by simp [VR], W, Ext.refl⟩
        have hdef : ∃ m1 m2 m3 : String, Builtin.unsafeString_ #[pt, it] ty #[.pointer none, .int k 0] =
            (do
              let n ← asInt (.int k 0)
              if n < 0 then runtimePanic (.error m1)
              if n > IntKind.i64.max then unsupported (.unsafePointer m2)
              if n = 0 then pure (.string .empty)
              else runtimePanic (.error m3)) := ⟨_, _, _, rfl⟩
        obtain ⟨m1, m2, m3, hdef⟩ := hdef
        have hmax : IntKind.i64.max = 9223372036854775807 := rfl
        rw [hdef]
        simp [asInt, asIntOf, hmax]
      · cases h
    · rename_i a
      simp only [VR] at hp
      obtain ⟨a', rfl, hs, l, hm, rfl⟩ := hp
      split at h
      · rename_i u vs t op es hd hg
        split at h
        · rename_i hc
          obtain ⟨h0, hbig, hoff, hlen, hc1, hsl⟩ := hc
          split at h
          · rename_i bs hbs
            cases h
            obtain ⟨c, fr, h6, h8, h9, h10, hk, h11, h12⟩ := W.cells hm hg
            simp only [FZ] at h12
            subst h12
            have hpre : LR μ (vs.take n.toNat) ((c.toList.drop l.d).take n.toNat) := by
              have := h11.take n.toNat
              rwa [List.take_take, Nat.min_eq_left hlen] at this
            have heq := flatL_eq (asBytes_flat hbs) hpre
            have hrun := run_loadBytes (P := P) h6 (vs.take n.toNat) bs (l.d + a.off) .empty hbs (fun j v hj => by
              rw [hoff, Nat.add_zero]
              rw [← heq] at hj
              exact get_of_take hj)
            rw [List.length_take, Nat.min_eq_left hlen] at hrun
            have hn1 : ¬ n < 0 := by omega
            have hn2 : ¬ n > IntKind.i64.max := by
              have : (1000000 : Int) ≤ IntKind.i64.max := by decide
              omega
            have hn3 : ¬ n = 0 := by omega
            have hl2 : liesAt P P.depth t (c.size / P.cellsOf t) (l.d + a.off) u n.toNat = true := liesAt_one hc1 hsl (by rw [hc1, h8]; simp; omega)
            have hlt := W.lt hg hm
            have hfz : w.freeze ⟨l.b, l.d + a.off, none⟩ n.toNat = { w with heap := w.heap.setIfInBounds l.b (.cells c t (l.d, l.d + n.toNat)) } := by
              unfold World.freeze
              rw [if_neg (by omega)]
              congr 1
              apply Array.ext_getElem?
              intro j
              rw [Array.getElem?_modify, Array.getElem?_setIfInBounds]
              by_cases e : l.b = j
              · subst e; simp [hlt]
                have := (Array.getElem?_eq_some_iff.1 h6).2
                rw [this]
                simp [hoff]
              · simp [e]
            have hu := W.upd (o := .cells vs t op (some n.toNat) es) (o' := .cells c t (l.d, l.d + n.toNat)) hg hm ⟨c, _, rfl, h8, h9, h10, hk, h11, by
              simp only [FZ]; intro i _; omega⟩
            refine ⟨.string ⟨bs.toArray⟩, _, ?_, by simp [VR], hu⟩
            have hdef : ∃ m1 m2 m3 : String, Builtin.unsafeString_ #[pt, it] ty #[.pointer (some ⟨l.b, l.d + a.off, none⟩), .int k n] =
                (do
                  let n ← asInt (.int k n)
                  if n < 0 then runtimePanic (.error m1)
                  if n > IntKind.i64.max then unsupported (.unsafePointer m2)
                  if n = 0 then pure (.string .empty)
                  else if ← variablesAt ⟨l.b, l.d + a.off, none⟩ (← elemOf pt) n.toNat then do
                    let s ← loadBytes ⟨l.b, l.d + a.off, none⟩ .empty n.toNat
                    freeze ⟨l.b, l.d + a.off, none⟩ n.toNat
                    pure (.string s)
                  else unsupported (.unsafePointer m3)) := ⟨_, _, _, rfl⟩
            obtain ⟨m1, m2, m3, hdef⟩ := hdef
            rw [hdef]
            simp only [Sem.run_bind, asInt, asIntOf, Sem.run_pure, Result.andThen, hn1, if_false, hn2, hn3, elemOf, rU hd, variablesAt, run_program, run_shape, World.shape?, h6, hl2, if_true, hrun, run_freeze, hfz]
            simp
          · cases h
        · cases h
      · cases h
    · cases h
  · cases h
end Ev
end Go.Proofs.Ytkjnaamlhkldmab
