/- The contract of strconv.ParseInt at hexadecimal digits, six at most; of strings.HasPrefix. -/
import Derived.Test.YtfahbdlcokoghabGreatDoorPInt
namespace Go.Proofs.YtfahbdlcokoghabGreatDoor
open Go.RowKit

theorem hxs_six (l : List UInt8) (hl : l.length ≤ 6) (hx : ∀ c, c ∈ l → isHx c = true) : hxs 0 l ≤ 16777215 := by
  have h1 := hxs_le l 0 hx
  have h2 : 16 ^ l.length ≤ 16 ^ 6 := Nat.pow_le_pow_right (by omega) hl
  have h3 : (16 : Nat) ^ 6 = 16777216 := by decide
  omega

set_option maxHeartbeats 1000000 in
set_option maxRecDepth 100000 in
theorem pint_any (l : List UInt8) (w : World) (hne : l ≠ []) (hl : l.length ≤ 6) (hx : ∀ c, c ∈ l → isHx c = true) :
    Calls Tryz.prog 86 #[.string ⟨l.toArray⟩, .int .i64 16, .int .i64 32] w fun e w' => e = .returned (.tuple #[.int .i64 (hxs 0 l : Nat), .nilIface]) ∧ Below w.heap.size w w' := by
  have hpos : 0 < l.length := List.length_pos_iff.2 hne
  have HU := hid (puint_any l w hne hl hx)
  have hv := hxs_six l hl hx
  have hx0 := hx l[0] (List.getElem_mem hpos)
  rw [isHx_iff] at hx0
  have hsz : 0 < (⟨l.toArray⟩ : ByteArray).size := by show 0 < l.toArray.size; simpa using hpos
  obtain ⟨c0, hc0⟩ : ∃ c0, c0 = l[0] := ⟨_, rfl⟩
  rw [← hc0] at hx0
  have hq : (⟨l.toArray⟩ : ByteArray)[0]'hsz = c0 := hc0.symm
  have he : l.isEmpty = false := by simpa using hne
  have m0 : 48 ≤ c0.toNat := by omega
  clear hc0 hx0 hne hx
  obtain ⟨v, hv'⟩ : ∃ v : Int, v = (hxs 0 l : Nat) := ⟨_, rfl⟩
  have v0 : 0 ≤ v := by omega
  have v1 : v ≤ 16777215 := by omega
  rw [← hv'] at HU ⊢
  clear hv' hv
  go_enter Tryz.func86, Tryz.ntmps86
  go_wp2_with fail
  refine HU.out.mono ?_
  rintro e w1 ⟨rfl, hb⟩
  have HB := hid hb
  clear hb HU
  go_wp2
  go_ret2
  exact ⟨rfl, HB.out⟩

set_option maxHeartbeats 1000000 in
theorem parseInt_any (l : List UInt8) (w : World) (hne : l ≠ []) (hl : l.length ≤ 6) (hx : ∀ c, c ∈ l → isHx c = true) :
    Calls Tryz.prog 65 #[.string ⟨l.toArray⟩, .int .i64 16, .int .i64 32] w fun e w' => e = .returned (.tuple #[.int .i64 (hxs 0 l : Nat), .nilIface]) ∧ Below w.heap.size w w' := by
  have HU := hid (pint_any l w hne hl hx)
  clear hne hx
  go_enter Tryz.func65, Tryz.ntmps65
  go_wp2_with fail
  refine HU.out.mono ?_
  rintro e w1 ⟨rfl, hb⟩
  have HB := hid hb
  clear hb HU
  go_wp2
  go_ret2
  exact ⟨rfl, HB.out⟩

/-- Whether a text begins with another one. -/
def pre (l p : List UInt8) : Bool := decide (l.take p.length = p)
set_option maxHeartbeats 1000000 in
theorem has80 (l p : List UInt8) (w : World) :
    Calls Tryz.prog 64 #[.string ⟨l.toArray⟩, .string ⟨p.toArray⟩] w fun e w' => e = .returned (.bool (pre l p)) ∧ w' = w := by
  by_cases h3 : l.length < p.length
  · have e1 : pre l p = false := by
      unfold pre
      rw [decide_eq_false_iff_not]
      intro e
      have := congrArg List.length e
      rw [List.length_take] at this
      omega
    rw [e1]
    go_enter Tryz.func64, Tryz.ntmps64
    go_wp2
    go_ret
    exact ⟨rfl, rfl⟩
  · have HE := hid (show (((⟨l.toArray⟩ : ByteArray).extract 0 p.length).toList == p) = pre l p by
      rw [ByteArray.toList_eq]
      simp only [ByteArray.data_extract, List.extract_toArray, List.extract_eq_take_drop, List.drop_zero, Nat.sub_zero]
      unfold pre
      rw [Bool.beq_eq_decide_eq])
    go_enter Tryz.func64, Tryz.ntmps64
    go_wp2
    go_ret
    exact ⟨by rw [← HE.out]; rfl, rfl⟩
set_option maxHeartbeats 1000000 in
theorem has67 (s : ByteArray) (l p : List UInt8) (b : Bool) (hb : pre l p = b) (w : World) (hs : s = ⟨l.toArray⟩) :
    Calls Tryz.prog 43 #[.string s, .string ⟨p.toArray⟩] w fun e w' => e = .returned (.bool b) ∧ w' = w := by
  subst hs hb
  have H := hid (has80 l p w)
  go_enter Tryz.func43, Tryz.ntmps43
  go_wp2_with fail
  refine H.out.mono ?_
  rintro e w1 ⟨rfl, hw⟩
  obtain rfl := hw.symm
  go_wp2
  go_ret
  exact ⟨rfl, rfl⟩
end Go.Proofs.YtfahbdlcokoghabGreatDoor

