/- The contracts of HasPrefix at the replacement rune's bytes, of AppendRune and of appendRune (package fold). -/
import Derived.Test.YtdcfflnjkjnodaaGreatDoorFoFun1
import Derived.Shelf.Utf8.AppendRunePlain
namespace Go.Proofs.YtdcfflnjkjnodaaGreatDoor
open Go.RowKit Go.Shelf
namespace Fo
def u8s (l : List UInt8) : List Value := l.map fun b => .int .u8 (b.toNat : Int)
/-- All blocks but rows of bytes stay. -/
def KO (w w' : World) : Prop := ∀ (k : Nat) (o : Obj), w.heap[k]? = some o → (∀ c fz, o ≠ .cells c 5 fz) → w'.heap[k]? = some o
theorem KO.refl (w : World) : KO w w := fun _ _ h _ => h
theorem KO.trans {a b c : World} (h : KO a b) (k : KO b c) : KO a c := fun i o hi ho => k i o (h i o hi ho) ho
theorem KO.of_below {w w' : World} (h : Below w.heap.size w w') : KO w w' := fun k _ hk _ => (h.block k (Array.getElem?_eq_some_iff.1 hk).1).trans hk
theorem KO.alloc (w : World) (o : Obj) : KO w (w.alloc o) := KO.of_below below_box
theorem KO.grown {w w' : World} {B n : Nat} {v : Value} {xs : List Value} (ho : w.ownsRow B 5 1 v n xs) (hg : w.grownBy w' v.ownBlock) : KO w w' := fun k o hk hn => by
  have hlt := (Array.getElem?_eq_some_iff.1 hk).1
  rw [hg.block k hlt (fun e => ?_)]
  · exact hk
  · rcases ho.2 with ⟨h0, _⟩ | ⟨g, cap, cur, hv, _, hgb, _⟩
    · rw [h0] at e; simp [Value.ownBlock] at e
    · rw [hv] at e
      obtain rfl : k = g := by simpa [Value.ownBlock] using e
      rw [hgb] at hk
      exact hn _ _ (Option.some.inj hk).symm
/-- A row of bytes that the call owns. -/
def OwB (B : Nat) (v : Value) (l : List UInt8) (w : World) : Prop := w.ownsRow B 5 1 v l.length (u8s l)
/-- What a call that lays bytes behind a row leaves. -/
structure Grw (B : Nat) (w w' : World) : Prop where
  below : Below B w w'
  others : KO w w'
theorem Grw.trans {B : Nat} {a b c : World} (h : Grw B a b) (k : Grw B b c) : Grw B a c := ⟨h.below.trans k.below, h.others.trans k.others⟩
theorem Grw.of_below {B : Nat} {w w' : World} (h : Below w.heap.size w w') (hB : B ≤ w.heap.size) : Grw B w w' := ⟨h.mono hB, KO.of_below h⟩
def Tryz.lays242_ren : Go.Shelf.Ren := ⟨fun | 242 => 38 | 278 => 56 | n => n, fun | 37 => 41 | 21 => 21 | 51 => 96 | 4 => 4 | 5 => 5 | 46 => 83 | n => n, fun | n => n⟩
theorem Tryz.lays242 : Go.Proofs.Lays.n242 Tryz.prog Tryz.lays242_ren := {
  mixed := by kernel_rfl
  f242 := Tryz.func38.trans (congrArg some (by kernel_rfl))
  f278 := Tryz.func56.trans (congrArg some (by kernel_rfl))
  t4 := Tryz.underlying4
  a4 := Tryz.isAgg4
  z4 := Tryz.sizeOf4
  v4 := Tryz.zeroValue4
  t5 := Tryz.underlying5
  a5 := Tryz.isAgg5
  z5 := Tryz.sizeOf5
  v5 := Tryz.zeroValue5
  t21 := Tryz.underlying21
  a21 := Tryz.isAgg21
  z21 := Tryz.sizeOf21
  v21 := Tryz.zeroValue21
  t37 := Tryz.underlying41
  a37 := Tryz.isAgg41
  z37 := Tryz.sizeOf41
  v37 := Tryz.zeroValue41
  t46 := Tryz.underlying83
  a46 := Tryz.isAgg83
  z46 := Tryz.sizeOf83
  v46 := Tryz.zeroValue83
  t51 := Tryz.underlying96
  a51 := Tryz.isAgg96
  z51 := Tryz.sizeOf96
  v51 := Tryz.zeroValue96 }
theorem app_any (B : Nat) (v : Value) (T : List UInt8) (r : Int) (hr0 : 0 ≤ r) (hr1 : r ≤ 1114111) (w : World) (ho : OwB B v T w) (hl : T.length ≤ 1000000000) (hB : B ≤ w.heap.size) :
    Calls Tryz.prog 38 #[v, .int .i32 r] w fun e w' => ∃ v', e = .returned v' ∧ OwB B v' (T ++ Lib.encodeRune r) w' ∧ Grw B w w' := by
  refine (Any.utf8_AppendRune_plain Tryz.lays242 (by kernel_rfl) B v T.length (u8s T) r (by omega) (by omega) w ho (by omega) hB).mono fun e w' ⟨v', he, h1, o, hg⟩ => ⟨v', he, ?_, ?_⟩
  · unfold OwB u8s
    have h2 : (Lib.runeCells r).length = (Lib.encodeRune r).length := Lib.runeCells_length r
    rw [List.length_append, ← h2, List.map_append]
    have h3 : Lib.runeCells r = u8s (Lib.encodeRune r) := (Lib.byteCells_encodeRune r).symm
    rw [h3] at h1 ⊢
    exact h1
  · have hb : Below B w (w.alloc o) := (Below.refl _ _).alloc hB o
    exact ⟨hb.grown hg (by simp; omega) (fun k hk => (World.ownsRow.lt ho k hk).1), (KO.alloc w o).trans (KO.grown (World.ownsRow.alloc ho o) hg)⟩
def rpl : List UInt8 := [239, 191, 189]
theorem ext_take (l : List UInt8) (k : Nat) : (⟨l.toArray⟩ : ByteArray).extract 0 k = ⟨(l.take k).toArray⟩ := by
  apply ByteArray.ext
  simp
set_option maxHeartbeats 1000000 in
theorem has55 (l : List UInt8) (w : World) (hl : l.length ≤ 1000000000) : Calls Tryz.prog 55 #[.string ⟨l.toArray⟩, .string ⟨#[239, 191, 189]⟩] w fun e w' => e = .returned (.bool (l.take 3 == rpl)) ∧ w' = w := by
  by_cases h : 3 ≤ l.length
  · have i1 : (3 : Int) ≤ (l.length : Int) := by omega
    go_enter Tryz.func55, Tryz.ntmps55
    go_wp2
    go_ret
    refine ⟨?_, rfl⟩
    have e : ((⟨l.toArray⟩ : ByteArray).extract 0 3).toList = l.take 3 := by rw [ext_take, Lib.toList_data]
    show Ending.returned (Value.bool (((⟨l.toArray⟩ : ByteArray).extract 0 3).toList == [239, 191, 189])) = _
    rw [e]
    rfl
  · have i1 : ¬ (3 : Int) ≤ (l.length : Int) := by omega
    have HV := hid (show (l.take 3 == rpl) = false by
      refine beq_eq_false_iff_ne.2 fun e => ?_
      have := congrArg List.length e
      simp [rpl] at this
      omega)
    go_enter Tryz.func55, Tryz.ntmps55
    go_wp2
    go_ret
    exact ⟨by rw [HV.out]; rfl, rfl⟩
theorem pre_any (l : List UInt8) (w : World) (hl : l.length ≤ 1000000000) : Calls Tryz.prog 37 #[.string ⟨l.toArray⟩, .string ⟨#[239, 191, 189]⟩] w fun e w' => e = .returned (.bool (l.take 3 == rpl)) ∧ w' = w := by
  go_enter Tryz.func37, Tryz.ntmps37
  go_wp2_with fail
  refine (has55 l w hl).mono ?_
  rintro e w1 ⟨rfl, rfl⟩
  go_wp2
  go_ret
  exact ⟨rfl, rfl⟩
/-- What a rune became, in bytes. -/
def arn (l : List UInt8) (r b : Int) : List UInt8 := if r = 65533 ∧ (l.take 3 == rpl) = false then [l.getD 0 0] else Lib.encodeRune b
set_option maxHeartbeats 4000000 in
theorem arn_any (B : Nat) (v : Value) (T l : List UInt8) (r b : Int) (w : World) (ho : OwB B v T w) (hT : T.length ≤ 1000000000) (hl : l.length ≤ 1000000000) (hl0 : l ≠ []) (hb0 : 0 ≤ b) (hb1 : b ≤ 1114111) (hB : B ≤ w.heap.size) :
    Calls Tryz.prog 22 #[v, .string ⟨l.toArray⟩, .int .i32 r, .int .i32 b] w fun e w' => ∃ v', e = .returned v' ∧ OwB B v' (T ++ arn l r b) w' ∧ Grw B w w' := by
  have HO := hid ho
  clear ho
  by_cases h1 : r = 65533
  · subst h1
    obtain ⟨c, hc⟩ : ∃ c, c = (l.take 3 == rpl) := ⟨_, rfl⟩
    cases c with
    | true =>
      have HV := hid (show arn l 65533 b = Lib.encodeRune b by unfold arn; rw [if_neg (by rw [← hc]; simp)])
      go_enter Tryz.func22, Tryz.ntmps22
      go_wp2_with fail
      refine (pre_any l w hl).mono ?_
      rintro e w1 ⟨rfl, rfl⟩
      rw [← hc]
      clear hc
      go_wp2_with fail
      refine (app_any B v T b hb0 hb1 _ HO.out hT hB).mono ?_
      rintro e w2 ⟨v', rfl, h2, h3⟩
      have H2 := hid h2
      have H3 := hid h3
      clear h2 h3
      go_wp2
      go_ret
      exact ⟨v', rfl, by rw [HV.out]; exact H2.out, H3.out⟩
    | false =>
      have HV := hid (show arn l 65533 b = [l.getD 0 0] by unfold arn; rw [if_pos ⟨rfl, hc.symm⟩])
      have hl1 : 0 < l.length := List.length_pos_iff.2 hl0
      obtain ⟨i0, hi, hz0, hz1, hz2⟩ := info_parts (show (Tryz.prog.info? 5).map (fun i => (i.zero, i.size, i.bytes)) = some (some (.int .u8 0), 1, 1) by kernel_rfl)
      have HI := hid (And.intro hi (And.intro hz0 (And.intro hz1 hz2)))
      clear hi hz0 hz1 hz2
      go_enter Tryz.func22, Tryz.ntmps22
      go_wp2_with fail
      refine (pre_any l w hl).mono ?_
      rintro e w1 ⟨rfl, rfl⟩
      rw [← hc]
      clear hc
      go_wp2_with (at_builtin; refine wpList_append_own _ rfl _ _ 41 rfl B 5 i0 (.int .u8 0) 1 1 Tryz.underlying41 HI.out.1 HI.out.2.1 HI.out.2.2.1 HI.out.2.2.2 rfl (by decide) v T.length (u8s T) rfl (World.ownsRow.alloc HO.out _) ⟨w1.heap.size, 0, none⟩ 1 1 [.int .u8 ((l.getD 0 0).toNat : Int)] rfl rfl ?c1 ?c2 ?c3 ?c4 ?c5 ?_)
      case c1 =>
        intro j u hj
        match j, hj with
        | 0, hj =>
          simp at hj
          subst hj
          simp only [Addr.add, go_sem]
          simp
          have := byt_eq l 0 (by show 0 < l.toArray.size; simpa using hl1)
          simpa [byt, List.getD] using this
        | (j + 1), hj => simp at hj
      case c2 => intro u hu; simp at hu; subst hu; rfl
      case c3 => unfold maxLen; omega
      case c4 => omega
      case c5 => simp; omega
      intro v' w2 hown' hgrow _
      have H2 := hid (show OwB B v' (T ++ [l.getD 0 0]) w2 by
        unfold OwB u8s
        rw [List.length_append, List.map_append]
        have e0 : l[0] = l.getD 0 0 := by simp [List.getD, hl1]
        rw [e0] at hown'
        exact hown')
      have H3 := hid (show Grw B w1 w2 from ⟨((Below.refl B w1).alloc hB _).grown hgrow (by simp; omega) (fun k hk => (World.ownsRow.lt HO.out k hk).1), (KO.alloc w1 _).trans (KO.grown (World.ownsRow.alloc HO.out _) hgrow)⟩)
      clear hown' hgrow
      go_wp2
      go_ret
      exact ⟨v', rfl, by rw [HV.out]; exact H2.out, H3.out⟩
  · have HV := hid (show arn l r b = Lib.encodeRune b by unfold arn; rw [if_neg (by simp [h1])])
    go_enter Tryz.func22, Tryz.ntmps22
    have h2 : (r == 65533) = false := beq_eq_false_iff_ne.2 h1
    go_wp2_with fail
    refine (app_any B v T b hb0 hb1 _ HO.out hT hB).mono ?_
    rintro e w2 ⟨v', rfl, h2, h3⟩
    have H2 := hid h2
    have H3 := hid h3
    clear h2 h3
    go_wp2
    go_ret
    exact ⟨v', rfl, by rw [HV.out]; exact H2.out, H3.out⟩
end Fo
end Go.Proofs.YtdcfflnjkjnodaaGreatDoor
