/-
  Are two texts the same?
-/
import Derived.Test.YtnndifkilcommaaDoorMacPlain
import Derived.Test.YtnndifkilcommaaDoorShaArr
namespace Go.Proofs.YtnndifkilcommaaDoor.Mac
open Go.RowKit Sha

theorem byteAt_str (a : ByteArray) (k : Nat) (h : k < a.size) : byteAt (bl a) k = a[k].toNat := by
  unfold byteAt
  rw [List.getD_eq_getElem?_getD, List.getElem?_eq_getElem (by simpa using h)]
  rfl
def SameAt (a b : ByteArray) (w : World) (x i : Value) (wr : World) : Prop := ∃ k : Nat, k ≤ a.size ∧ i = .int .i64 k ∧ x = .int .u8 (diff (bl a) (bl b) k) ∧ Below w.heap.size w wr
theorem toList_bl (a : ByteArray) : a.toList = bl a := Lib.toList_data a
set_option maxHeartbeats 400000 in
theorem same_any (a b : ByteArray) (w : World) (ha : a.size ≤ 1000000) :
    Calls Tryd.prog 11 #[.string a, .string b] w fun e w' => e = .returned (.bool (a.toList == b.toList)) ∧ Below w.heap.size w w' := by
  have hla : (bl a).length = a.size := by show a.data.toList.length = _; rw [← Lib.size_eq]
  have hlb : (bl b).length = b.size := by show b.data.toList.length = _; rw [← Lib.size_eq]
  by_cases he : a.size = b.size
  · have HB := Lib.hid (same_beq (bl a) (bl b) (by rw [hla, hlb, he]))
    rw [hla] at HB
    clear hla hlb
    have he2 : ((a.size : Int) == (b.size : Int)) = true := by simp [he]
    have hne : ((a.size : Int) != (b.size : Int)) = false := by simp [he]
    go_enter Tryd.func11, Tryd.ntmps11
    go_wp2
    go_loopw [5, 6, 14] (fun x _ i wr => SameAt a b w x i wr) (fun _ _ i _ => a.size - (intOf i).toNat)
    case atStart => exact ⟨0, Nat.zero_le _, rfl, rfl, Below.refl _ _⟩
    case round =>
      obtain ⟨k, hk, rfl, rfl, hb⟩ := hrel
      by_cases hlt : k < a.size
      · have hlt' : k < b.size := by omega
        have HX : Hid (bits .or .u8 (diff (bl a) (bl b) k : Int) (bits .xor .u8 (a[k].toNat : Int) (b[k].toNat : Int)) = (diff (bl a) (bl b) (k + 1) : Int)) := by
          show _ = _
          rw [← byteAt_str a k hlt, ← byteAt_str b k hlt', u8_xor_nat _ _ (byteAt_lt8 _ _) (byteAt_lt8 _ _), u8_or_nat _ _ (diff_lt _ _ _) (xor_lt8 _ _ _)]
          rfl
        have HB2 := Lib.hid hb
        have hd := diff_lt (bl a) (bl b) k
        clear hb he2 hne
        go_wp2
        go_quiet (fail)
        go_wp2
        go_roundw
        case rel => exact ⟨k + 1, by omega, by go_num, by rw [HX.out], below_drewN HB2.out _⟩
        case measure => simp [intOf]; omega
      · obtain rfl : k = a.size := by omega
        have HB2 := Lib.hid hb
        clear hb
        go_wp2
        go_ret
        exact ⟨by rw [toList_bl, toList_bl, ← HB.out, he]; rfl, HB2.out⟩
  · have hne : ((a.size : Int) != (b.size : Int)) = true := by simp; omega
    have HE : Hid ((a.toList == b.toList) = false) := by
      show _ = _
      rw [toList_bl, toList_bl, Bool.eq_false_iff]
      intro h
      have := congrArg List.length (beq_iff_eq.1 h)
      rw [hla, hlb] at this
      exact he this
    clear hla hlb he
    go_enter Tryd.func11, Tryd.ntmps11
    go_wp2
    go_ret
    exact ⟨by rw [HE.out]; rfl, Below.refl _ _⟩
end Go.Proofs.YtnndifkilcommaaDoor.Mac
