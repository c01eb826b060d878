/- The contract of the document's trim. -/
import Derived.Test.YtohhokjlgihbgaaGreatDoorFReadMath
import Derived.Test.YtohhokjlgihbgaaGreatDoorFRead
namespace Go.Proofs.YtohhokjlgihbgaaGreatDoor
open Go.RowKit

def slen : Value → Nat
  | .string s => s.size
  | _ => 0
theorem slen_l (l : List UInt8) : slen (.string ⟨l.toArray⟩) = l.length := by show l.toArray.size = _; simp
set_option maxHeartbeats 1000000 in
set_option maxRecDepth 100000 in
theorem trim_any (l : List UInt8) (w : World) (hl : l.length ≤ 9223372036854775807) :
    Calls Tryz.prog 72 #[.string ⟨l.toArray⟩] w fun e w' => e = .returned (.string ⟨(tls l).toArray⟩) ∧ w' = w := by
  have HBL := hid blank_any
  have HSZ := hid (fun t : List UInt8 => (show (⟨t.toArray⟩ : ByteArray).size = t.length by show t.toArray.size = _; simp))
  rw [← rtm_tls]
  go_enter Tryz.func72, Tryz.ntmps72
  go_wp2
  go_loopw [0] (fun x wr => ∃ t : List UInt8, x = .string ⟨t.toArray⟩ ∧ t.length ≤ l.length ∧ Hid (t.dropWhile blk = l.dropWhile blk) ∧ wr = w) (fun x _ => slen x)
  case atStart => exact ⟨l, rfl, by omega, rfl, rfl⟩
  case round =>
    obtain ⟨t, rfl, ht, HE, hw⟩ := hrel
    subst hw
    by_cases hex : ∃ b r, t = b :: r ∧ blk b = true
    · obtain ⟨b, r, rfl, hb⟩ := hex
      have t0 : (0 : Int) < ((b :: r).length : Int) := by simp
      have t1 : (1 : Int) ≤ ((b :: r).length : Int) := by simp; omega
      have hsz0 : 0 < (⟨(b :: r).toArray⟩ : ByteArray).size := by rw [HSZ.out]; simp
      have hq0 : (⟨(b :: r).toArray⟩ : ByteArray)[0]'hsz0 = b := rfl
      have HD := hid (show r.dropWhile blk = l.dropWhile blk by rw [← HE.out, List.dropWhile_cons, if_pos hb])
      have hr : r.length + 1 ≤ l.length := by simpa using ht
      have HXD := hid (show (⟨(b :: r).toArray⟩ : ByteArray).extract 1 (b :: r).length = ⟨r.toArray⟩ from ext_drop (b :: r) 1)
      have hszr := HSZ.out (b :: r)
      go_wp2_with (go_at_call 103; refine (HBL.out b _).mono ?_; rintro e w2 ⟨rfl, hw⟩; obtain rfl := hw.symm; rw [hb])
      rw [show (⟨(b :: r).toArray⟩ : ByteArray).extract 1 (r.length + 1) = ⟨r.toArray⟩ from HXD.out, slen_l, slen_l]
      exact ⟨⟨r, rfl, by omega, HD, trivial⟩, by simp⟩
    · obtain ⟨w0, hw0⟩ : ∃ w0, w0 = wr := ⟨_, rfl⟩
      cases t with
      | nil =>
        have HV := hid (show rtr [] = rtm l by unfold rtm; rw [← HE.out]; rfl)
        clear hex
        go_wp2
        go_loopw [0] (fun x wr => ∃ t : List UInt8, x = .string ⟨t.toArray⟩ ∧ t.length ≤ l.length ∧ Hid (rtr t = rtm l) ∧ wr = w0) (fun x _ => slen x)
        case atStart => exact ⟨_, rfl, ht, HV, hw0.symm⟩
        case round =>
          obtain ⟨t, rfl, ht, HE2, hw⟩ := hrel
          subst hw
          rcases List.eq_nil_or_concat t with rfl | ⟨q, b, rfl⟩
          · have HR := hid (show rtm l = [] from HE2.out.symm)
            go_wp2
            go_ret
            exact ⟨by rw [HR.out]; rfl, rfl⟩
          · rw [List.concat_eq_append] at ht HE2 ⊢
            have hq1 : q.length + 1 ≤ l.length := by simpa using ht
            have hzz := HSZ.out (q ++ [b])
            have hzl : (q ++ [b]).length = q.length + 1 := by simp
            have hszk : q.length < (⟨(q ++ [b]).toArray⟩ : ByteArray).size := by rw [hzz, hzl]; omega
            have hqk : (⟨(q ++ [b]).toArray⟩ : ByteArray)[q.length]'hszk = b := by
              show (q ++ [b])[q.length]'(by simp) = b
              simp
            have t0 : (0 : Int) < (q.length : Int) + 1 := by omega
            have t2 : (0 : Int) ≤ (q.length : Int) := by omega
            have t3 : (q.length : Int) < (q.length : Int) + 1 := by omega
            have t4 : IntKind.i64.wrap ((q.length : Int) + 1 - 1) = (q.length : Int) := by rw [IntKind.wrap_i64]; omega
            have HXD := hid (show (⟨(q ++ [b]).toArray⟩ : ByteArray).extract 0 q.length = ⟨q.toArray⟩ by rw [ext_take]; simp)
            by_cases hb : blk b = true
            · have HV2 := hid (show rtr q = rtm l by rw [← HE2.out, rtr_snoc, if_pos hb])
              go_wp2_with (go_at_call 103; refine (HBL.out b _).mono ?_; rintro e w2 ⟨rfl, hw⟩; obtain rfl := hw.symm; rw [hb])
              rw [HXD.out, slen_l, slen_l]
              exact ⟨⟨q, rfl, by omega, HV2, hw0.symm⟩, by simp⟩
            · have hb' : blk b = false := by simpa using hb
              have HR := hid (show rtm l = q ++ [b] by rw [← HE2.out, rtr_snoc, if_neg hb])
              go_wp2_with (go_at_call 103; refine (HBL.out b _).mono ?_; rintro e w2 ⟨rfl, hw⟩; obtain rfl := hw.symm; rw [hb'])
              go_ret
              exact ⟨by rw [HR.out]; rfl, rfl⟩
      | cons b r =>
        have hb : blk b = false := by
          cases h5 : blk b with
          | false => rfl
          | true => exact absurd ⟨b, r, rfl, h5⟩ hex
        have HV := hid (show rtr (b :: r) = rtm l by unfold rtm; rw [← HE.out, List.dropWhile_cons, if_neg (by rw [hb]; decide)])
        have t0 : (0 : Int) < ((b :: r).length : Int) := by simp
        have hsz0 : 0 < (⟨(b :: r).toArray⟩ : ByteArray).size := by rw [HSZ.out]; simp
        have hq0 : (⟨(b :: r).toArray⟩ : ByteArray)[0]'hsz0 = b := rfl
        clear hex
        go_wp2_with (go_at_call 103; refine (HBL.out b _).mono ?_; rintro e w2 ⟨rfl, hw⟩; obtain rfl := hw.symm; rw [hb])
        go_loopw [0] (fun x wr => ∃ t : List UInt8, x = .string ⟨t.toArray⟩ ∧ t.length ≤ l.length ∧ Hid (rtr t = rtm l) ∧ wr = w0) (fun x _ => slen x)
        case atStart => exact ⟨_, rfl, ht, HV, hw0.symm⟩
        case round =>
          obtain ⟨t, rfl, ht, HE2, hw⟩ := hrel
          subst hw
          rcases List.eq_nil_or_concat t with rfl | ⟨q, b, rfl⟩
          · have HR := hid (show rtm l = [] from HE2.out.symm)
            go_wp2
            go_ret
            exact ⟨by rw [HR.out]; rfl, rfl⟩
          · rw [List.concat_eq_append] at ht HE2 ⊢
            have hq1 : q.length + 1 ≤ l.length := by simpa using ht
            have hzz := HSZ.out (q ++ [b])
            have hzl : (q ++ [b]).length = q.length + 1 := by simp
            have hszk : q.length < (⟨(q ++ [b]).toArray⟩ : ByteArray).size := by rw [hzz, hzl]; omega
            have hqk : (⟨(q ++ [b]).toArray⟩ : ByteArray)[q.length]'hszk = b := by
              show (q ++ [b])[q.length]'(by simp) = b
              simp
            have t0 : (0 : Int) < (q.length : Int) + 1 := by omega
            have t2 : (0 : Int) ≤ (q.length : Int) := by omega
            have t3 : (q.length : Int) < (q.length : Int) + 1 := by omega
            have t4 : IntKind.i64.wrap ((q.length : Int) + 1 - 1) = (q.length : Int) := by rw [IntKind.wrap_i64]; omega
            have HXD := hid (show (⟨(q ++ [b]).toArray⟩ : ByteArray).extract 0 q.length = ⟨q.toArray⟩ by rw [ext_take]; simp)
            by_cases hb : blk b = true
            · have HV2 := hid (show rtr q = rtm l by rw [← HE2.out, rtr_snoc, if_pos hb])
              go_wp2_with (go_at_call 103; refine (HBL.out b _).mono ?_; rintro e w2 ⟨rfl, hw⟩; obtain rfl := hw.symm; rw [hb])
              rw [HXD.out, slen_l, slen_l]
              exact ⟨⟨q, rfl, by omega, HV2, hw0.symm⟩, by simp⟩
            · have hb' : blk b = false := by simpa using hb
              have HR := hid (show rtm l = q ++ [b] by rw [← HE2.out, rtr_snoc, if_neg hb])
              go_wp2_with (go_at_call 103; refine (HBL.out b _).mono ?_; rintro e w2 ⟨rfl, hw⟩; obtain rfl := hw.symm; rw [hb'])
              go_ret
              exact ⟨by rw [HR.out]; rfl, rfl⟩
end Go.Proofs.YtohhokjlgihbgaaGreatDoor
