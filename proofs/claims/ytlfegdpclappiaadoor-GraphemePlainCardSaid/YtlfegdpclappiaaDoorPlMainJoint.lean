/- Encoding, in plain functions: what is decoded and encoded again is what stood there; what is encoded is decoded again. -/
import Derived.Lib.ValidU
import Derived.Test.YtlfegdpclappiaaDoorRMath
import Derived.Shelf.Unicode.ValidAny
import Derived.Test.YtlfegdpclappiaaDoorBase
import Derived.Laws.Cover4
import Derived.Test.YtlfegdpclappiaaDoorGrPlcJoint
import Derived.Test.YtlfegdpclappiaaDoorGrTurnJoint
import Derived.Test.YtlfegdpclappiaaDoorGrLivJoint
namespace Go.Proofs.YtlfegdpclappiaaDoor

/-- A number is a rune. -/
def isR (r : Int) : Bool := decide (0 ≤ r) && (decide (r ≤ 1114111) && (decide (r < 55296) || decide (57343 < r)))
theorem isR_iff (r : Int) : isR r = true ↔ 0 ≤ r ∧ r ≤ 1114111 ∧ (r < 55296 ∨ 57343 < r) := by simp [isR]
/-- The places where a text is no UTF-8. -/
def flt (l : List UInt8) : List Int := ((mks 0 l).filter (·.bad)).map (·.pl)
/-- The bytes of a rune. -/
def enc (r : Int) : List UInt8 := (Utf8.encode r).data.toList
/-- The bytes of a number that is a rune. -/
def encN (c : Nat) : List UInt8 :=
  if c < 128 then [UInt8.ofNat c]
  else if c < 2048 then [UInt8.ofNat (192 + c / 64), UInt8.ofNat (128 + c % 64)]
  else if c < 65536 then [UInt8.ofNat (224 + c / 4096), UInt8.ofNat (128 + c / 64 % 64), UInt8.ofNat (128 + c % 64)]
  else [UInt8.ofNat (240 + c / 262144), UInt8.ofNat (128 + c / 4096 % 64), UInt8.ofNat (128 + c / 64 % 64), UInt8.ofNat (128 + c % 64)]

theorem valid_isR (r : Int) : Utf8.valid r = isR r := by
  unfold Utf8.valid isR
  apply Bool.eq_iff_iff.2
  simp
  omega
theorem enc_if (r : Int) (c : Nat) (hc : (if Utf8.valid r = true then r.toNat else Utf8.runeError) = c) : enc r = encN c := by
  unfold enc Utf8.encode encN
  simp only [hc]
  by_cases h1 : c < 128
  · rw [if_pos h1, if_pos h1]
  · rw [if_neg h1, if_neg h1]
    by_cases h2 : c < 2048
    · rw [if_pos h2, if_pos h2]
    · rw [if_neg h2, if_neg h2]
      by_cases h3 : c < 65536
      · rw [if_pos h3, if_pos h3]
      · rw [if_neg h3, if_neg h3]
theorem enc_rune (c : Nat) (h : isR c = true) : enc c = encN c :=
  enc_if c c (by rw [valid_isR, h, if_pos rfl]; exact Int.toNat_natCast c)
theorem enc_other (r : Int) (h : isR r = false) : enc r = encN 65533 :=
  enc_if r 65533 (by rw [valid_isR, h]; rfl)

theorem list_take2 (l : List UInt8) (h : 2 ≤ l.length) : l.take 2 = [l.getD 0 0, l.getD 1 0] := by
  match l, h with
  | a :: b :: r, _ => simp
theorem list_take3 (l : List UInt8) (h : 3 ≤ l.length) : l.take 3 = [l.getD 0 0, l.getD 1 0, l.getD 2 0] := by
  match l, h with
  | a :: b :: c :: r, _ => simp
theorem list_take4 (l : List UInt8) (h : 4 ≤ l.length) : l.take 4 = [l.getD 0 0, l.getD 1 0, l.getD 2 0, l.getD 3 0] := by
  match l, h with
  | a :: b :: c :: d :: r, _ => simp
theorem list_take1 (l : List UInt8) (h : 1 ≤ l.length) : l.take 1 = [l.getD 0 0] := by
  match l, h with
  | a :: r, _ => simp
theorem of_nat (b : UInt8) (n : Nat) (h : n = b.toNat) : UInt8.ofNat n = b := by subst h; simp

theorem dec_isR (l : List UInt8) (h : l ≠ []) : isR (dec l).1 = true := by
  rw [isR_iff, dec_numbers l h]
  generalize (l.getD 0 0).toNat = b0
  generalize (l.getD 1 0).toNat = b1
  generalize (l.getD 2 0).toNat = b2
  generalize (l.getD 3 0).toNat = b3
  unfold Lib.decodeN
  repeat' split
  all_goals (simp only []; omega)

/-- What was decoded, encoded again. -/
theorem enc_dec (l : List UInt8) (h : l ≠ []) (hb : ¬ ((dec l).1 = 65533 ∧ (dec l).2 = 1)) : enc (dec l).1 = l.take (dec l).2 := by
  rw [enc_rune _ (dec_isR l h)]
  have hp : 0 < l.length := List.length_pos_iff.2 h
  have t1 := list_take1 l
  have t2 := list_take2 l
  have t3 := list_take3 l
  have t4 := list_take4 l
  have g0 := (l.getD 0 0).toNat_lt
  have g1 := (l.getD 1 0).toNat_lt
  have g2 := (l.getD 2 0).toNat_lt
  have g3 := (l.getD 3 0).toNat_lt
  have q0 := of_nat (l.getD 0 0)
  have q1 := of_nat (l.getD 1 0)
  have q2 := of_nat (l.getD 2 0)
  have q3 := of_nat (l.getD 3 0)
  rw [dec_numbers l h] at hb ⊢
  generalize l.getD 0 0 = c0 at *
  generalize l.getD 1 0 = c1 at *
  generalize l.getD 2 0 = c2 at *
  generalize l.getD 3 0 = c3 at *
  unfold Lib.decodeN at hb ⊢
  by_cases h0 : c0.toNat < 128
  · rw [if_pos h0]
    dsimp only
    rw [t1 (by omega)]
    unfold encN
    rw [if_pos h0, q0 _ rfl]
  · rw [if_neg h0] at hb ⊢
    by_cases h1 : c0.toNat / 32 = 6 ∧ 1 < l.length ∧ c1.toNat / 64 = 2
    · rw [if_pos h1] at hb ⊢
      by_cases h2 : c0.toNat % 32 * 64 + c1.toNat % 64 ≥ 128
      · rw [if_pos h2]
        dsimp only
        rw [t2 (by omega)]
        unfold encN
        rw [if_neg (by omega), if_pos (by omega), q0 _ (by omega), q1 _ (by omega)]
      · rw [if_neg h2] at hb
        exact absurd ⟨rfl, rfl⟩ hb
    · rw [if_neg h1] at hb ⊢
      split at hb
      · rename_i h2
        rw [if_pos h2]
        split at hb
        · rename_i h3
          rw [if_pos h3]
          dsimp only
          rw [t3 (by omega)]
          unfold encN
          rw [if_neg (by omega), if_neg (by omega), if_pos (by omega), q0 _ (by omega), q1 _ (by omega), q2 _ (by omega)]
        · exact absurd ⟨rfl, rfl⟩ hb
      · rename_i h2
        rw [if_neg h2]
        split at hb
        · rename_i h3
          rw [if_pos h3]
          split at hb
          · rename_i h4
            rw [if_pos h4]
            dsimp only
            rw [t4 (by omega)]
            unfold encN
            rw [if_neg (by omega), if_neg (by omega), if_neg (by omega), q0 _ (by omega), q1 _ (by omega), q2 _ (by omega), q3 _ (by omega)]
          · exact absurd ⟨rfl, rfl⟩ hb
        · exact absurd ⟨rfl, rfl⟩ hb

/-- The text of runes. -/
def txt (xs : List Int) : List UInt8 := xs.flatMap enc
def cln (l : List UInt8) : List UInt8 := txt (rns l)

theorem cln_from (l : List UInt8) : ∀ (n t : Nat), l.length - t ≤ n → (∀ m ∈ mks t (l.drop t), m.bad = false) → txt ((mks t (l.drop t)).map (·.ru)) = l.drop t
  | 0, t, h, _ => by rw [mks_end l t (by omega), List.drop_of_length_le (by omega)]; rfl
  | n + 1, t, h, hb => by
    by_cases ht : t < l.length
    · have h1 := wid_ge l t ht
      rw [mks_at l t ht] at hb ⊢
      have hb0 := hb _ (List.mem_cons_self ..)
      have ih := cln_from l n (t + wid l t) (by omega) (fun m hm => hb m (List.mem_cons_of_mem _ hm))
      rw [List.map_cons]
      show enc (mk1 t (l.drop t)).ru ++ txt _ = _
      rw [ih]
      have : enc (mk1 t (l.drop t)).ru = (l.drop t).take (wid l t) := by
        refine enc_dec (l.drop t) (drop_ne l t ht) ?_
        unfold mk1 at hb0
        simp at hb0
        intro hh
        exact hb0 hh.2 hh.1
      rw [this, ← List.drop_drop, List.take_append_drop]
    · rw [mks_end l t ht, List.drop_of_length_le (by omega)]; rfl
theorem cln_valid (l : List UInt8) (h : flt l = []) : cln l = l := by
  have hb : ∀ m ∈ mks 0 (l.drop 0), m.bad = false := fun m hm => by
    unfold flt at h
    have h1 : (mks 0 l).filter (·.bad) = [] := List.map_eq_nil_iff.1 h
    have := List.filter_eq_nil_iff.1 h1 m (by simpa using hm)
    simpa using this
  have := cln_from l l.length 0 (by omega) hb
  unfold cln rns
  simpa using this

theorem valid_from (l : List UInt8) : ∀ (n t : Nat), l.length - t ≤ n → Lib.validGoD n (l.drop t) = decide ((mks t (l.drop t)).filter (·.bad) = [])
  | 0, t, h => by rw [mks_end l t (by omega)]; rfl
  | n + 1, t, h => by
    by_cases ht : t < l.length
    · have h1 := wid_ge l t ht
      have ih := valid_from l n (t + wid l t) (by omega)
      unfold Lib.validGoD
      rw [if_neg (drop_ne l t ht), mks_at l t ht, List.filter_cons, ← dec_eqL _ (drop_ne l t ht)]
      by_cases hb : (dec (l.drop t)).1 = 65533 ∧ (dec (l.drop t)).2 = 1
      · rw [if_pos hb]
        have : (mk1 t (l.drop t)).bad = true := by unfold mk1; simp [hb]
        rw [this]; simp
      · rw [if_neg hb]
        have : (mk1 t (l.drop t)).bad = false := by
          unfold mk1; simp
          intro h2 h3; exact hb ⟨h3, h2⟩
        rw [this, List.drop_drop]
        simpa [wid] using ih
    · rw [mks_end l t ht, List.drop_of_length_le (by omega)]
      simp [Lib.validGoD]
theorem valid_flt (l : List UInt8) : Lib.validD l = decide (flt l = []) := by
  unfold Lib.validD flt
  have := valid_from l l.length 0 (by omega)
  rw [List.drop_zero] at this
  rw [this]
  simp
end Go.Proofs.YtlfegdpclappiaaDoor
/- The contract of Valid (package utf): whether a text has no fault. -/
namespace Go.Proofs.YtlfegdpclappiaaDoor
open Go.RowKit

def Tryd.lays196_ren : Go.Shelf.Ren := ⟨fun | 196 => 43 | 259 => 63 | n => n, fun | 12 => 12 | 46 => 84 | 53 => 94 | 119 => 80 | 138 => 82 | 139 => 83 | n => n, fun | 3 => 0 | 4 => 1 | n => n⟩
theorem Tryd.lays196 : Go.Proofs.Lays.n196 Tryd.prog Tryd.lays196_ren := {
  mixed := by kernel_rfl
  f196 := Tryd.func43.trans (congrArg some (by kernel_rfl))
  f259 := Tryd.func63.trans (congrArg some (by kernel_rfl))
  t0 := Tryd.underlying0
  a0 := Tryd.isAgg0
  z0 := Tryd.sizeOf0
  v0 := Tryd.zeroValue0
  t3 := Tryd.underlying3
  a3 := Tryd.isAgg3
  z3 := Tryd.sizeOf3
  v3 := Tryd.zeroValue3
  t4 := Tryd.underlying4
  a4 := Tryd.isAgg4
  z4 := Tryd.sizeOf4
  v4 := Tryd.zeroValue4
  t5 := Tryd.underlying5
  a5 := Tryd.isAgg5
  z5 := Tryd.sizeOf5
  v5 := Tryd.zeroValue5
  t9 := Tryd.underlying9
  a9 := Tryd.isAgg9
  z9 := Tryd.sizeOf9
  v9 := Tryd.zeroValue9
  t12 := Tryd.underlying12
  a12 := Tryd.isAgg12
  z12 := Tryd.sizeOf12
  v12 := Tryd.zeroValue12
  t46 := Tryd.underlying84
  a46 := Tryd.isAgg84
  z46 := Tryd.sizeOf84
  v46 := Tryd.zeroValue84
  t53 := Tryd.underlying94
  a53 := Tryd.isAgg94
  z53 := Tryd.sizeOf94
  v53 := Tryd.zeroValue94
  t119 := Tryd.underlying80
  a119 := Tryd.isAgg80
  z119 := Tryd.sizeOf80
  t138 := Tryd.underlying82
  a138 := Tryd.isAgg82
  z138 := Tryd.sizeOf82
  v138 := Tryd.zeroValue82
  t139 := Tryd.underlying83
  a139 := Tryd.isAgg83
  z139 := Tryd.sizeOf83
  v139 := Tryd.zeroValue83
  g3 := by kernel_rfl
  g4 := by kernel_rfl }

theorem Tryd.utf8_ValidString (s : ByteArray) (w : World) (hs : s.size ≤ 9223372036854775807) (hT : Lib.Utf8Tabs 0 1 w) :
    Calls Tryd.prog 43 #[.string s] w fun e w' => e = .returned (.bool (Lib.validD s.data.toList)) ∧ Below w.heap.size w w' := Any.utf8_ValidString Tryd.lays196 s w hs hT

set_option maxHeartbeats 400000 in
theorem valid_any (l : List UInt8) (w : World) (hl : l.length ≤ 1000000000000) (hT : Lib.Utf8Tabs 0 1 w) :
    Calls Tryd.prog 15 #[.string ⟨l.toArray⟩] w fun e w' => e = .returned (.bool (decide (flt l = []))) ∧ Below w.heap.size w w' := by
  rw [← valid_flt]
  have HT := hid hT
  have HS := hid (show (⟨l.toArray⟩ : ByteArray).size ≤ 9223372036854775807 by show l.toArray.size ≤ _; simp; omega)
  clear hT
  go_enter Tryd.func15, Tryd.ntmps15
  go_wp2_with (go_at_call 43; refine (Tryd.utf8_ValidString ⟨l.toArray⟩ _ HS.out (by exact HT.out)).mono ?_; rintro e w1 ⟨rfl, hb⟩)
  go_ret
  exact ⟨rfl, hb⟩
end Go.Proofs.YtlfegdpclappiaaDoor
/- The contracts of Text (package utf). -/
namespace Go.Proofs.YtlfegdpclappiaaDoor
open Go.RowKit

/-- A slice that reads as these numbers. -/
def Reads (K : IntKind) (w : World) (v : Value) (E : List Int) : Prop :=
  ∃ (ao : Option Addr) (cap : Nat), v = .slice ao E.length cap ∧ ∀ (k : Nat) (z : Int), E[k]? = some z → ∃ g o : Nat, ao = some ⟨g, o, none⟩ ∧ g < w.heap.size ∧ w.cell? ⟨g, o + k, none⟩ = some (.int K z)
theorem foldl_bytes : ∀ (zs : List Int) (b : ByteArray), (zs.foldl (fun b r => b ++ Utf8.encode r) b).data.toList = b.data.toList ++ txt zs
  | [], b => by simp [txt]
  | z :: zs, b => by
    rw [List.foldl_cons, foldl_bytes zs]
    simp [txt, enc]
theorem runesBytes_txt (zs : List Int) : runesBytes zs = ⟨(txt zs).toArray⟩ := by
  have h := foldl_bytes zs .empty
  apply ByteArray.ext
  apply Array.ext'
  unfold runesBytes
  rw [h]
  simp

theorem conv_runes (v : Value) (E : List Int) (w : World) (hv : Reads .i32 w v E) : (convert 24 9 v).run Tryd.prog w = .ok (.string ⟨(txt E).toArray⟩) w := by
  obtain ⟨ao, cap, rfl, hc⟩ := hv
  cases ao with
  | none =>
    have : E = [] := by
      cases E with
      | nil => rfl
      | cons x xs => obtain ⟨g, o, h, _⟩ := hc 0 x rfl; cases h
    subst this
    exact run_convert_runes_nil w 24 9 21 0 cap Tryd.underlying24 Tryd.underlying21 Tryd.underlying9
  | some a =>
    rw [run_convert_runes w 24 9 21 a E.length cap E (Nat.le_refl _) Tryd.underlying24 Tryd.underlying21 Tryd.underlying9 (fun j hj => ?_), List.take_length, runesBytes_txt]
    obtain ⟨g, o, h, _, h2⟩ := hc j E[j] (List.getElem?_eq_getElem hj)
    injection h with h
    subst h
    rw [show (⟨g, o, none⟩ : Addr).add j = ⟨g, o + j, none⟩ by unfold Addr.add; split <;> simp_all, h2]
    simp [List.getD, hj]

set_option maxHeartbeats 400000 in
theorem text_any (v : Value) (E : List Int) (w : World) (hv : Reads .i32 w v E) :
    Calls Tryd.prog 16 #[v] w fun e w' => e = .returned (.string ⟨(txt E).toArray⟩) ∧ w = w' := by
  have hcv := conv_runes v E w hv
  obtain ⟨ao, cap, rfl, hc⟩ := hv
  clear hc
  generalize txt E = S at *
  go_enter Tryd.func16, Tryd.ntmps16
  go_wp2
  go_ret
  exact ⟨rfl, rfl⟩

end Go.Proofs.YtlfegdpclappiaaDoor
/- The mathematics of GraphemeWhole: what is never cut, flags by twos, cut and joined again, turned. -/
namespace Go.Proofs.YtlfegdpclappiaaDoor
open Go.RowKit

theorem take_last (l : List UInt8) (i : Nat) (h0 : 0 < i) (h : i < (rl l).length) : (((rl l).take i).map gc).getLastD 0 = gc (rl l)[i - 1] := by
  obtain ⟨j, rfl⟩ : ∃ j, i = j + 1 := ⟨i - 1, by omega⟩
  rw [List.take_succ_eq_append_getElem (by omega), List.map_append]
  simp
theorem joined_no (l : List UInt8) (i : Nat) (h0 : 0 < i) (h : i < (rl l).length) (hg : gbt (gc (rl l)[i - 1]) (gc (rl l)[i]) = 1) : ¬ Gis l (pos l i) := by
  intro hG
  obtain ⟨h1, h2⟩ := gis_cut _ _ hG
  rw [rl_take l i (by omega), rl_drop l i (by omega)] at h2
  have hd : (rl l).drop i = (rl l)[i] :: (rl l).drop (i + 1) := List.drop_eq_getElem_cons h
  rw [hd] at h2
  have h3 : rl l = (rl l).take i ++ (rl l)[i] :: (rl l).drop (i + 1) := by rw [← hd, List.take_append_drop]
  refine pcl_keep gc gc_cl (pcl gc ((rl l).take i)) (pcl gc ((rl l)[i] :: (rl l).drop (i + 1))) ((rl l).take i) (rl l)[i] ((rl l).drop (i + 1)) ?_ ?_ ?_ ?_
  · intro e
    have := congrArg List.length e
    rw [List.length_take, List.length_nil, Nat.min_eq_left (by omega)] at this
    omega
  · rw [take_last l i h0 h]; exact hg
  · rw [← h2, ← h3]
  · exact pcl_all gc _ _ (Nat.le_refl _)
theorem pcl_head (b : Nat × Nat) (B : List (Nat × Nat)) : ∃ x M, pcl gc (b :: B) = x :: M := ⟨_, _, pcl_cons gc (b :: B) (by simp)⟩
theorem cut_yes (l : List UInt8) (i : Nat) (h0 : 0 < i) (h : i < (rl l).length) (hg : gbt (gc (rl l)[i - 1]) (gc (rl l)[i]) = 0) : Gis l (pos l i) := by
  have hd : (rl l).drop i = (rl l)[i] :: (rl l).drop (i + 1) := List.drop_eq_getElem_cons h
  have h3 : rl l = (rl l).take i ++ (rl l)[i] :: (rl l).drop (i + 1) := by rw [← hd, List.take_append_drop]
  have hne : (rl l).take i ≠ [] := by
    intro e
    have := congrArg List.length e
    rw [List.length_take, List.length_nil, Nat.min_eq_left (by omega)] at this
    omega
  have h4 := pcl_sure gc gc_cl _ ((rl l).take i) (rl l)[i] ((rl l).drop (i + 1)) (Nat.le_refl _) hne (by rw [take_last l i h0 h]; exact hg)
  rw [← h3] at h4
  obtain ⟨x, M, hM⟩ := pcl_head ((rl l)[i]) ((rl l).drop (i + 1))
  rw [hM] at h4
  unfold Gis
  rw [gpF_0, h4, plc_app, pcl_all gc _ _ (Nat.le_refl _)]
  refine ⟨(0 + psm ((rl l).take i), 0 + psm ((rl l).take i) + psm x), List.mem_append_right _ (List.mem_cons_self ..), ?_⟩
  show 0 + psm ((rl l).take i) = pos l i
  rw [Nat.zero_add]; rfl
/-- What the law calls joined, and cut. -/
def jnd (p c : Int) : Prop := (p = 1 ∧ c = 2) ∨ (p ≠ 1 ∧ p ≠ 2 ∧ p ≠ 3 ∧ (c = 4 ∨ c = 5 ∨ c = 6))
theorem gbt_jnd (p c : Int) (h : jnd p c) : gbt p c = 1 := by
  unfold gbt galone
  rcases h with ⟨rfl, rfl⟩ | ⟨h1, h2, h3, h4⟩
  · rfl
  · rw [if_neg (by omega)]
    rcases h4 with rfl | rfl | rfl <;> simp [h1, h2, h3]
theorem gbt_cut (p c : Int) (h : ¬ jnd p c) (hc : p = 1 ∨ p = 2 ∨ p = 3 ∨ c = 1 ∨ c = 2 ∨ c = 3) : gbt p c = 0 := by
  unfold gbt galone
  have h0 : ¬ (p = 1 ∧ c = 2) := fun h1 => h (.inl h1)
  rw [if_neg h0, if_pos]
  simp
  omega
/-- x and so many flags. -/
def flg (k : Nat) : List UInt8 := 120 :: (List.replicate k [240, 159, 135, 166]).flatten
theorem flg_succ (k : Nat) : flg (k + 1) = flg k ++ [240, 159, 135, 166] := by
  unfold flg
  rw [List.replicate_succ', List.flatten_append]; simp
theorem flg_len (k : Nat) : (flg k).length = 4 * k + 1 := by
  induction k with
  | zero => rfl
  | succ k ih => rw [flg_succ, List.length_append, ih]; simp; omega
theorem flg_cnt' : ∀ k : Fin 21, gcnt (flg k) = 1 + (k.1 + 1) / 2 := by decide +kernel
theorem flg_cnt (k : Nat) (h : k ≤ 20) : gcnt (flg k) = 1 + (k + 1) / 2 := flg_cnt' ⟨k, by omega⟩
theorem trP_sum (l : List UInt8) : ∀ xs : List (Nat × Nat), (trP l xs).length = (xs.map fun x => min x.2 l.length - x.1).sum
  | [] => rfl
  | x :: xs => by
    have e : trP l (x :: xs) = (l.take x.2).drop x.1 ++ trP l xs := rfl
    rw [e, List.length_append, trP_sum l xs, List.length_drop, List.length_take]; simp
theorem plc_sum (n : Nat) : ∀ (M : List (List (Nat × Nat))) (q : Nat), q + psm M.flatten ≤ n → ((plc q M).map fun x => min x.2 n - x.1).sum = psm M.flatten
  | [], _, _ => rfl
  | x :: M, q, h => by
    rw [List.flatten_cons, psm_app] at h
    rw [plc, List.map_cons, List.sum_cons, plc_sum n M _ (by omega), List.flatten_cons, psm_app]
    show min (q + psm x) n - q + _ = _
    omega
theorem trn_len (l : List UInt8) : (trn l).length = l.length := by
  unfold trn
  rw [trP_sum, List.map_reverse, List.sum_reverse, gpF_0, plc_sum]
  · rw [pcl_all gc _ _ (Nat.le_refl _)]; exact rl_sum _ l (Nat.le_refl _)
  · rw [pcl_all gc _ _ (Nat.le_refl _), rl_sum _ l (Nat.le_refl _)]; omega
theorem plq_cnt (l : List UInt8) (n : Int) (p : Nat) (h : PlQ l n p) (h0 : 0 ≤ n) (h1 : n ≤ gcnt l) : (gcnt (l.take p) : Int) = n := by
  obtain ⟨P, Q, e1, rfl, e3⟩ := h
  have h3 := pcl_all gc _ (rl l) (Nat.le_refl _)
  rw [e1, List.flatten_append] at h3
  obtain ⟨k1, _⟩ := cut_at l _ _ h3.symm
  obtain ⟨k2, _⟩ := pcl_cut gc P Q _ e1
  unfold gcnt
  rw [k1, k2]
  exact e3 h0 h1
end Go.Proofs.YtlfegdpclappiaaDoor
/- A plain text turned: letters of one rune each. -/
namespace Go.Proofs.YtlfegdpclappiaaDoor
open Go.RowKit

theorem nat_byte (n : Nat) (h : n < 256) : (UInt8.ofNat n).toNat = n := by simp [UInt8.toNat_ofNat']; omega

theorem dec_encN (c : Nat) (h : isR c = true) (rest : List UInt8) : dec (encN c ++ rest) = (c, (encN c).length) := by
  have hh := (isR_iff c).1 h
  by_cases h1 : c < 128
  · have e : encN c = [UInt8.ofNat c] := by unfold encN; rw [if_pos h1]
    rw [e, dec_numbers _ (by simp)]
    simp only [List.cons_append, List.nil_append, List.getD_cons_zero, List.length_cons, List.length_nil]
    rw [nat_byte c (by omega)]
    unfold Lib.decodeN
    rw [if_pos h1]
  · by_cases h2 : c < 2048
    · have e : encN c = [UInt8.ofNat (192 + c / 64), UInt8.ofNat (128 + c % 64)] := by unfold encN; rw [if_neg h1, if_pos h2]
      rw [e, dec_numbers _ (by simp)]
      simp only [List.cons_append, List.nil_append, List.getD_cons_zero, List.getD_cons_succ, List.length_cons, List.length_nil]
      rw [nat_byte (192 + c / 64) (by omega), nat_byte (128 + c % 64) (by omega)]
      unfold Lib.decodeN
      rw [if_neg (by omega), if_pos (by omega), if_pos (by omega)]
      congr 1
      omega
    · by_cases h3 : c < 65536
      · have e : encN c = [UInt8.ofNat (224 + c / 4096), UInt8.ofNat (128 + c / 64 % 64), UInt8.ofNat (128 + c % 64)] := by unfold encN; rw [if_neg h1, if_neg h2, if_pos h3]
        rw [e, dec_numbers _ (by simp)]
        simp only [List.cons_append, List.nil_append, List.getD_cons_zero, List.getD_cons_succ, List.length_cons, List.length_nil]
        rw [nat_byte (224 + c / 4096) (by omega), nat_byte (128 + c / 64 % 64) (by omega), nat_byte (128 + c % 64) (by omega)]
        have q : (224 + c / 4096) % 16 * 4096 + (128 + c / 64 % 64) % 64 * 64 + (128 + c % 64) % 64 = c := by omega
        unfold Lib.decodeN
        rw [q, if_neg (by omega), if_neg (by omega), if_pos (by omega), if_pos (by omega)]
      · have e : encN c = [UInt8.ofNat (240 + c / 262144), UInt8.ofNat (128 + c / 4096 % 64), UInt8.ofNat (128 + c / 64 % 64), UInt8.ofNat (128 + c % 64)] := by unfold encN; rw [if_neg h1, if_neg h2, if_neg h3]
        rw [e, dec_numbers _ (by simp)]
        simp only [List.cons_append, List.nil_append, List.getD_cons_zero, List.getD_cons_succ, List.length_cons, List.length_nil]
        rw [nat_byte (240 + c / 262144) (by omega), nat_byte (128 + c / 4096 % 64) (by omega), nat_byte (128 + c / 64 % 64) (by omega), nat_byte (128 + c % 64) (by omega)]
        have q : (240 + c / 262144) % 8 * 262144 + (128 + c / 4096 % 64) % 64 * 4096 + (128 + c / 64 % 64) % 64 * 64 + (128 + c % 64) % 64 = c := by omega
        unfold Lib.decodeN
        rw [q, if_neg (by omega), if_neg (by omega), if_neg (by omega), if_pos (by omega), if_pos (by omega)]

theorem encN_one (c : Nat) (h : (encN c).length = 1) : c < 128 := by
  unfold encN at h
  split at h
  · assumption
  · split at h
    · simp at h
    · split at h <;> simp at h
theorem encN_ne (c : Nat) : encN c ≠ [] := by
  unfold encN
  repeat' split
  all_goals simp

/-- A class of which the law asks. -/
def Pln (c : Int) : Prop := c = 0 ∨ c = 2 ∨ c = 3
theorem gbt_pln (a b : Int) (ha : Pln a) (hb : Pln b) : gbt a b = 0 := by
  rcases ha with rfl | rfl | rfl <;> rcases hb with rfl | rfl | rfl <;> decide
theorem pcl_one (x : Nat × Nat) : pcl gc [x] = [[x]] := by
  rw [pcl_cons gc [x] (by simp)]
  rfl
theorem pcl_pln : ∀ X : List (Nat × Nat), (∀ x ∈ X, Pln (gc x)) → pcl gc X = X.map fun x => [x]
  | [], _ => rfl
  | [x], _ => pcl_one x
  | x :: b :: B, h => by
    have h1 := pcl_sure gc gc_cl _ [x] b B (Nat.le_refl _) (by simp) (gbt_pln _ _ (h x (by simp)) (h b (by simp)))
    rw [List.singleton_append] at h1
    rw [h1, pcl_one, pcl_pln (b :: B) (fun y hy => h y (List.mem_cons_of_mem _ hy))]
    rfl
/-- The runes with their widths. -/
def rw0 (c : Nat) : Nat × Nat := (c, (encN c).length)
/-- The text of runes. -/
def tx0 (R : List Nat) : List UInt8 := R.flatMap encN
theorem rl_tx0 : ∀ R : List Nat, (∀ c ∈ R, isR c = true) → rl (tx0 R) = R.map rw0
  | [], _ => rfl
  | c :: R, h => by
    have hne := encN_ne c
    have e : tx0 (c :: R) = encN c ++ tx0 R := rfl
    have hd := dec_encN c (h c (by simp)) (tx0 R)
    rw [e, rl_cons _ (by simp [hne]), hd]
    show rw0 c :: rl ((encN c ++ tx0 R).drop (encN c).length) = _
    rw [List.drop_left, rl_tx0 R (fun d hd => h d (List.mem_cons_of_mem _ hd))]
    rfl
theorem pieces_tx0 (l : List UInt8) : ∀ (R : List Nat) (q : Nat), l.drop q = tx0 R → (plc q ((R.map rw0).map fun x => [x])).map (fun y => (l.take y.2).drop y.1) = R.map encN
  | [], _, _ => rfl
  | c :: R, q, h => by
    have e : tx0 (c :: R) = encN c ++ tx0 R := rfl
    rw [e] at h
    have hp : psm [rw0 c] = (encN c).length := by simp [psm, rw0]
    rw [List.map_cons, List.map_cons, plc, List.map_cons, List.map_cons, hp]
    have h1 : (l.take (q + (encN c).length)).drop q = encN c := by
      rw [List.drop_take, Nat.add_sub_cancel_left, h, List.take_left]
    have h2 : l.drop (q + (encN c).length) = tx0 R := by rw [← List.drop_drop, h, List.drop_left]
    rw [pieces_tx0 l R _ h2]
    show (l.take (q + (encN c).length)).drop q :: _ = _
    rw [h1]
theorem trn_tx0 (R : List Nat) (h : ∀ c ∈ R, isR c = true) (hp : ∀ c ∈ R, Pln (gpcls c)) : trn (tx0 R) = tx0 R.reverse := by
  unfold trn trP
  rw [gpF_0, rl_tx0 R h, pcl_pln _ (fun x hx => by
    obtain ⟨c, hc, rfl⟩ := List.mem_map.1 hx
    exact hp c hc), List.flatMap_def, List.map_reverse, pieces_tx0 (tx0 R) R 0 (List.drop_zero ..), ← List.map_reverse]
  rfl
/-- The runes of a text, as numbers. -/
def rnN (l : List UInt8) : List Nat := (rl l).map (·.1)
theorem rl_isR : ∀ (n : Nat) (l : List UInt8), l.length ≤ n → ∀ x ∈ rl l, isR x.1 = true
  | n, l, hn, x, hx => by
    by_cases e : l = []
    · subst e; cases hx
    · rw [rl_cons l e] at hx
      rcases List.mem_cons.1 hx with rfl | hx
      · exact dec_isR l e
      · have h1 := dec_ge l e
        have hl : 0 < l.length := List.length_pos_iff.2 e
        cases n with
        | zero => omega
        | succ n => exact rl_isR n _ (by rw [List.length_drop]; omega) x hx
theorem rns_rl (l : List UInt8) : rns l = (rl l).map fun x => (x.1 : Int) := mks_ru _ 0 l (Nat.le_refl _)
theorem fm_eq {α : Type} (f g : α → List UInt8) : ∀ X : List α, (∀ x ∈ X, f x = g x) → X.flatMap f = X.flatMap g
  | [], _ => rfl
  | x :: X, h => by rw [List.flatMap_cons, List.flatMap_cons, h x (by simp), fm_eq f g X (fun y hy => h y (List.mem_cons_of_mem _ hy))]
theorem valid_tx0 (l : List UInt8) (h : flt l = []) : tx0 (rnN l) = l := by
  have h1 := cln_valid l h
  unfold cln at h1
  rw [rns_rl] at h1
  unfold txt at h1
  rw [List.flatMap_map] at h1
  refine Eq.trans ?_ h1
  unfold tx0 rnN
  rw [List.flatMap_map]
  exact fm_eq _ _ _ fun x hx => (enc_rune x.1 (rl_isR _ l (Nat.le_refl _) x hx)).symm
end Go.Proofs.YtlfegdpclappiaaDoor
/- The walk of GraphemePlain. -/
namespace Go.Proofs.YtlfegdpclappiaaDoor
open Go.RowKit Go.Shelf

/-- The runes, the last first, as they lie in memory. -/
def bkv (l : List UInt8) (j : Nat) : List Value := ((rl l).reverse.take j).map fun x => Value.int .i32 x.1
theorem bkv_snoc (l : List UInt8) (j k : Nat) (h : k + j + 1 = (rl l).length) : bkv l (j + 1) = bkv l j ++ [.int .i32 ((rl l)[k]'(by omega)).1] := by
  unfold bkv
  have hj : j < (rl l).reverse.length := by rw [List.length_reverse]; omega
  rw [List.take_succ_eq_append_getElem hj, List.map_append, List.getElem_reverse]
  have e : (rl l).length - 1 - j = k := by omega
  simp [e]
theorem trn_valid (l : List UInt8) (h : flt l = []) (hp : ∀ x ∈ rl l, Pln (gc x)) : trn l = txt ((rl l).reverse.map fun x => (x.1 : Int)) ∧ trn (trn l) = l := by
  have hR : ∀ c ∈ rnN l, isR c = true := fun c hc => by
    obtain ⟨x, hx, rfl⟩ := List.mem_map.1 hc
    exact rl_isR _ l (Nat.le_refl _) x hx
  have hP : ∀ c ∈ rnN l, Pln (gpcls c) := fun c hc => by
    obtain ⟨x, hx, rfl⟩ := List.mem_map.1 hc
    exact hp x hx
  have h1 := valid_tx0 l h
  have h2 := trn_tx0 (rnN l) hR hP
  rw [h1] at h2
  have h3 := trn_tx0 (rnN l).reverse (fun c hc => hR c (List.mem_reverse.1 hc)) (fun c hc => hP c (List.mem_reverse.1 hc))
  rw [List.reverse_reverse, h1, ← h2] at h3
  refine ⟨?_, h3⟩
  rw [h2]
  unfold tx0 txt rnN
  rw [← List.map_reverse, List.flatMap_map, List.flatMap_map]
  exact fm_eq _ _ _ fun x hx => (enc_rune x.1 (rl_isR _ l (Nat.le_refl _) x (List.mem_reverse.1 hx))).symm
theorem bkv_all (l : List UInt8) : bkv l (rl l).length = ((rl l).reverse.map fun x => (x.1 : Int)).map fun z => Value.int .i32 z := by
  unfold bkv
  rw [List.take_of_length_le (by rw [List.length_reverse]; exact Nat.le_refl _), List.map_map]
  rfl
theorem Reads.below {K : IntKind} {w w' : World} {v : Value} {E : List Int} (h : Reads K w v E) (hb : Below w.heap.size w w') : Reads K w' v E := by
  obtain ⟨ao, cap, hv, hc⟩ := h
  refine ⟨ao, cap, hv, fun k z hk => ?_⟩
  obtain ⟨g, o, h1, h2, h3⟩ := hc k z hk
  exact ⟨g, o, h1, Nat.lt_of_lt_of_le h2 hb.size, (hb.cell (p := ⟨g, o + k, none⟩) h2).trans h3⟩
theorem reads_own {B n cap : Nat} {ao : Option Addr} {E : List Int} {w : World} (h : w.ownsRow B 21 1 (.slice ao n cap) n (E.map fun z => Value.int .i32 z)) (hn : n = E.length) : Reads .i32 w (.slice ao n cap) E := by
  refine ⟨ao, cap, by rw [hn], fun k z hk => ?_⟩
  have hkl := (List.getElem?_eq_some_iff.1 hk).1
  rcases h.2 with ⟨h', h0⟩ | ⟨q, cap', cur, h', hb, hg, hnc, hcm, hcs, htk⟩
  · omega
  · simp only [Value.slice.injEq, true_and] at h'
    obtain ⟨rfl, rfl⟩ := h'
    refine ⟨q, 0, rfl, (h.lt q rfl).2, ?_⟩
    rw [Nat.zero_add, h.cellAt k (by omega), List.getElem?_map, hk]; rfl
set_option maxHeartbeats 8000000 in
set_option maxRecDepth 100000 in
theorem plain_main (l : List UInt8) (w : World) (hl : l.length ≤ 120) (hv : flt l = []) (htb : Ev.Tbs tabs w) (ht : TbW w) :
    Calls Tryd.prog 4 #[.string ⟨l.toArray⟩] w fun e w' => e = .returned (.bool true) ∧ Below w.heap.size w w' := by
  obtain ⟨i0, hi, hz0, hz1, hz2⟩ := info_parts Tryd.info21
  have HT := hid ht
  have HTB := hid htb
  have HV := hid hv
  obtain ⟨N, hN⟩ : ∃ N, N = w.heap.size := ⟨_, rfl⟩
  have HLV := hid (fun W (h : Below N w W) => lives11 W (HT.out.below (by rw [← hN]; exact h)) (tbs_below HTB.out (by rw [← hN]; exact h)))
  have HTT := hid (fun W (h : Below N w W) => HT.out.below (by rw [← hN]; exact h))
  have hli : ¬ (120 : Int) < (l.length : Int) := by omega
  have hdv : decide (flt l = []) = true := by simp [hv]
  have HDV := hid hdv
  have HN := hid hN
  clear ht htb hN hv hdv
  go_enter Tryd.func4, Tryd.ntmps4
  go_wp2_with fail
  refine (valid_any l w (by omega) HT.out.tabs).mono ?_
  rintro e w1 ⟨rfl, be1⟩
  rw [HDV.out]
  have HB1 := hid (show Below N w w1 by rw [HN.out]; exact be1)
  clear be1
  go_wp2_with fail
  refine (runes_any l w1 (by omega)).mono ?_
  rintro e w2 ⟨v, rfl, hown, be2⟩
  have hpn := prs_len2 l
  rw [hpn] at hown
  obtain ⟨vo, vc, rfl⟩ := wown_slice hown
  have HQ2 := hid (rdq_own hown rfl)
  have HB2 := hid (HB1.out.trans (be2.mono (by have := HB1.out.size; have := HN.out; omega)))
  obtain ⟨m, hm⟩ : ∃ m, m = (rl l).length := ⟨_, rfl⟩
  rw [← hm]
  have hml : m ≤ 120 := by rw [hm, ← hpn]; exact Nat.le_trans (prs_len l) hl
  have HM := hid hm
  have hs2 := HB2.out.size
  obtain ⟨M, hMM⟩ : ∃ M, M = w2.heap.size := ⟨_, rfl⟩
  have HMM := hid hMM
  have hNM : N ≤ M := by have := HN.out; omega
  clear hown hpn be2 hm HB1 hMM hs2
  go_wp2
  go_loopw [4, 5] (fun v x wr => ∃ (j : Nat) (z : Int), j ≤ m ∧ z = (m : Int) - 1 - (j : Int) ∧ x = .int .i64 z ∧ Hid (wr.ownsRow M 21 1 v j (bkv l j)) ∧ Hid (∀ k (h : k < (rl l).length), m ≤ k + j → Pln (gc (rl l)[k])) ∧ Hid (Below M w2 wr)) (fun _ x _ => (intOf x + 1).toNat)
  case atStart => exact ⟨0, (m : Int) - 1, by omega, by simp, rfl, World.ownsRow_nil _ _ _ _, fun k h hk => by have := HM.out; omega, Below.refl _ _⟩
  case round =>
    obtain ⟨j, z, hj, hz, rfl, HO, HPL, HB⟩ := hrel
    have hwr : M ≤ wr.heap.size := by have := HB.out.size; have := HMM.out; omega
    have HBN := hid (show Below N w wr from HB2.out.trans (HB.out.mono hNM))
    by_cases hlt : j < m
    · obtain ⟨k, hk⟩ : ∃ k : Nat, z = (k : Int) := ⟨z.toNat, by omega⟩
      subst hk
      have hkj : k + j + 1 = m := by omega
      have hkl : k < (rl l).length := by rw [← HM.out]; omega
      obtain ⟨ad, rfl, _, hcell⟩ := HQ2.out.below (by rw [← HMM.out]; exact HB.out) k ((rl l)[k]) (List.getElem?_eq_getElem hkl)
      have HE := hid (bkv_snoc l j k (by rw [← HM.out]; exact hkj))
      obtain ⟨r, hr⟩ : ∃ r : Int, r = (((rl l)[k]).1 : Int) := ⟨_, rfl⟩
      have HR := hid (show gpcls r = gc (rl l)[k] by rw [hr]; rfl)
      rw [← hr] at hcell HE
      have hkm : (k : Int) < (m : Int) := by omega
      have hk0 : (0 : Int) ≤ (k : Int) := by omega
      have hk120 : k ≤ 120 := by omega
      have hj120 : j ≤ 120 := by omega
      have HKJ := hid hkj
      have HJ := hid hlt
      clear hr hz hkj hlt hj
      go_wp2_with fail
      refine (gpcls_any r _).mono ?_
      rintro e W2 ⟨rfl, hW2⟩
      obtain rfl := hW2.symm
      clear hW2
      obtain ⟨c, hc⟩ : ∃ k, k = gpcls r := ⟨_, rfl⟩
      rw [← hc] at HR ⊢
      clear hc
      by_cases hp : Pln c
      · have HPL2 := hid (show ∀ k' (h : k' < (rl l).length), m ≤ k' + (j + 1) → Pln (gc (rl l)[k']) from fun k' h hk' => by
          rcases Nat.lt_or_ge k k' with h1 | h1
          · exact HPL.out k' h (by have := HKJ.out; omega)
          · obtain rfl : k' = k := by have := HKJ.out; omega
            rw [← HR.out]; exact hp)
        rcases hp with rfl | rfl | rfl
        · go_wp2_with (at_builtin; refine wpList_append_own _ rfl _ _ 24 rfl M 21 i0 (.int .i32 0) 1 4 Tryd.underlying24 hi hz0 hz1 hz2 rfl (by decide) _ j (bkv l j) rfl (HO.out.alloc _) ⟨wr.heap.size, 0, none⟩ 1 1 [.int .i32 r] rfl rfl (cell_one_new _ _ _) (by simp [Value.oneCell']) (by unfold maxLen; omega) (by omega) (by simp; omega) ?_; intro v2 w2' o2 gr2 _; have HO2 := hid (show w2'.ownsRow M 21 1 v2 (j + 1) (bkv l (j + 1)) by rw [HE.out]; exact o2); have HBX := hid ((HB.out.alloc hwr (.cells #[.int .i32 r] 21)).grown gr2 (by simp; omega) (fun j hj => (HO.out.lt j hj).1)); clear o2 gr2)
          go_roundw
          case rel => exact ⟨j + 1, (k : Int) - 1, by have := HJ.out; omega, by have := HKJ.out; omega, by go_num, HO2, HPL2, HBX⟩
          case measure => simp [intOf]
        · go_wp2_with (at_builtin; refine wpList_append_own _ rfl _ _ 24 rfl M 21 i0 (.int .i32 0) 1 4 Tryd.underlying24 hi hz0 hz1 hz2 rfl (by decide) _ j (bkv l j) rfl (HO.out.alloc _) ⟨wr.heap.size, 0, none⟩ 1 1 [.int .i32 r] rfl rfl (cell_one_new _ _ _) (by simp [Value.oneCell']) (by unfold maxLen; omega) (by omega) (by simp; omega) ?_; intro v2 w2' o2 gr2 _; have HO2 := hid (show w2'.ownsRow M 21 1 v2 (j + 1) (bkv l (j + 1)) by rw [HE.out]; exact o2); have HBX := hid ((HB.out.alloc hwr (.cells #[.int .i32 r] 21)).grown gr2 (by simp; omega) (fun j hj => (HO.out.lt j hj).1)); clear o2 gr2)
          go_roundw
          case rel => exact ⟨j + 1, (k : Int) - 1, by have := HJ.out; omega, by have := HKJ.out; omega, by go_num, HO2, HPL2, HBX⟩
          case measure => simp [intOf]
        · go_wp2_with (at_builtin; refine wpList_append_own _ rfl _ _ 24 rfl M 21 i0 (.int .i32 0) 1 4 Tryd.underlying24 hi hz0 hz1 hz2 rfl (by decide) _ j (bkv l j) rfl (HO.out.alloc _) ⟨wr.heap.size, 0, none⟩ 1 1 [.int .i32 r] rfl rfl (cell_one_new _ _ _) (by simp [Value.oneCell']) (by unfold maxLen; omega) (by omega) (by simp; omega) ?_; intro v2 w2' o2 gr2 _; have HO2 := hid (show w2'.ownsRow M 21 1 v2 (j + 1) (bkv l (j + 1)) by rw [HE.out]; exact o2); have HBX := hid ((HB.out.alloc hwr (.cells #[.int .i32 r] 21)).grown gr2 (by simp; omega) (fun j hj => (HO.out.lt j hj).1)); clear o2 gr2)
          go_roundw
          case rel => exact ⟨j + 1, (k : Int) - 1, by have := HJ.out; omega, by have := HKJ.out; omega, by go_num, HO2, HPL2, HBX⟩
          case measure => simp [intOf]
      · have hc0 : (c != 0) = true := bne_iff_ne.2 (fun h => hp (.inl h))
        have hc2 : (c != 2) = true := bne_iff_ne.2 (fun h => hp (.inr (.inl h)))
        have hc3 : (c != 3) = true := bne_iff_ne.2 (fun h => hp (.inr (.inr h)))
        clear hp
        go_wp2_with fail
        refine (HLV.out _ HBN.out).mono ?_
        rintro e W9 ⟨rfl, be9⟩
        have HB9 := hid (HBN.out.trans (be9.mono (by have := HBN.out.size; have := HN.out; omega)))
        clear be9
        go_wp2
        go_ret
        exact ⟨rfl, by rw [← HN.out]; exact HB9.out⟩
    · obtain rfl : j = m := by omega
      have hz1' : z < 0 := by omega
      have hz2' : ¬ (0 : Int) ≤ z := by omega
      have HPA := hid (show ∀ x ∈ rl l, Pln (gc x) from fun x hx => by
        obtain ⟨k, hk, rfl⟩ := List.mem_iff_getElem.1 hx
        exact HPL.out k hk (by omega))
      obtain ⟨hx1, hx2⟩ := trn_valid l HV.out HPA.out
      have HX1 := hid hx1
      have HX2 := hid hx2
      have hxl : (trn l).length ≤ 120 := by rw [trn_len]; exact hl
      obtain ⟨qo, qc, rfl⟩ := wown_slice HO.out
      have hrd := HO.out
      have hbk : bkv l j = ((rl l).reverse.map fun x => (x.1 : Int)).map fun z => Value.int .i32 z := by rw [HM.out, bkv_all]
      rw [hbk] at hrd
      have HRD := hid (reads_own hrd (by rw [List.length_map, List.length_reverse]; exact HM.out))
      clear hbk
      clear hx1 hx2 hrd hz hlt hj
      go_wp2_with fail
      refine (gturn_any l wr (HTT.out _ HBN.out) (by omega)).mono ?_
      rintro e W1 ⟨rfl, be1⟩
      have HBA := hid (HBN.out.trans (be1.mono (by have := HBN.out.size; have := HN.out; omega)))
      have HRD1 := hid (HRD.out.below be1)
      clear be1 HBN HRD HO HB
      obtain ⟨x, hx⟩ : ∃ x, x = trn l := ⟨_, rfl⟩
      rw [← hx] at HX1 HX2 hxl ⊢
      clear hx
      go_wp2_with fail
      refine (text_any _ _ W1 HRD1.out).mono ?_
      rintro e W3 ⟨rfl, hW3⟩
      obtain rfl := hW3
      rw [← HX1.out]
      clear HRD1
      go_wp2_with fail
      refine (gturn_any x _ (HTT.out _ HBA.out) (by omega)).mono ?_
      rintro e W4 ⟨rfl, be4⟩
      rw [HX2.out]
      have HB4 := hid (HBA.out.trans (be4.mono (by have := HBA.out.size; have := HN.out; omega)))
      clear be4 HBA
      go_wp2_with fail
      refine (HLV.out _ HB4.out).mono ?_
      rintro e W9 ⟨rfl, be9⟩
      have HB9 := hid (HB4.out.trans (be9.mono (by have := HB4.out.size; have := HN.out; omega)))
      clear be9
      go_wp2
      go_ret
      exact ⟨rfl, by rw [← HN.out]; exact HB9.out⟩
end Go.Proofs.YtlfegdpclappiaaDoor
/- GraphemePlain at every text. -/
namespace Go.Proofs.YtlfegdpclappiaaDoor
open Go.RowKit Go.Shelf

set_option maxHeartbeats 2000000 in
set_option maxRecDepth 100000 in
theorem plain_all (l : List UInt8) (w : World) (hl : l.length ≤ 281474976710656) (htb : Ev.Tbs tabs w) (ht : TbW w) :
    Calls Tryd.prog 4 #[.string ⟨l.toArray⟩] w fun e w' => e = .returned (.bool true) ∧ Below w.heap.size w w' := by
  by_cases hbig : 120 < l.length
  · have hbi : (120 : Int) < (l.length : Int) := by omega
    have HLV := hid (lives11 w ht htb)
    clear htb ht
    go_enter Tryd.func4, Tryd.ntmps4
    go_wp2_with fail
    refine HLV.out.mono ?_
    rintro e w1 ⟨rfl, be1⟩
    have HB1 := hid be1
    clear be1
    go_wp2
    go_ret
    exact ⟨rfl, HB1.out⟩
  · by_cases hv : flt l = []
    · exact plain_main l w (by omega) hv htb ht
    · have hbi : ¬ (120 : Int) < (l.length : Int) := by omega
      have HT := hid ht
      have HTB := hid htb
      have HDV := hid (show decide (flt l = []) = false by simp [hv])
      clear htb ht hv
      go_enter Tryd.func4, Tryd.ntmps4
      go_wp2_with fail
      refine (valid_any l w (by omega) HT.out.tabs).mono ?_
      rintro e w0 ⟨rfl, be0⟩
      rw [HDV.out]
      have HB0 := hid be0
      clear be0
      go_wp2_with fail
      refine (lives11 w0 (HT.out.below HB0.out) (tbs_below HTB.out HB0.out)).mono ?_
      rintro e w1 ⟨rfl, be1⟩
      have HB1 := hid (HB0.out.trans (be1.mono HB0.out.size))
      clear be1
      go_wp2
      go_ret
      exact ⟨rfl, HB1.out⟩
end Go.Proofs.YtlfegdpclappiaaDoor
