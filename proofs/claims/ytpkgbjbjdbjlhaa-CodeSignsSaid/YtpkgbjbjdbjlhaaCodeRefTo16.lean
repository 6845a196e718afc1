/-
  The document's signs of bytes, two a byte.
-/
import Derived.Test.YtpkgbjbjdbjlhaaCodeRefTo
namespace Go.Proofs.Ytpkgbjbjdbjlhaa.Code
open Go.RowKit

def To16At (l : List UInt8) (w : World) (o i : Value) (wr : World) : Prop :=
  ∃ j : Nat, j ≤ l.length ∧ i = .int .i64 j ∧ o = .string (ba (encP 4 d16 l (2 * j))) ∧ Below w.heap.size w wr
theorem below_drewN {B : Nat} {w w' : World} (h : Below B w w') (n : Nat) : Below B w (w'.drewN n) :=
  ⟨h.os, h.tape, h.output, h.size, h.block⟩
set_option maxRecDepth 100000 in
set_option maxHeartbeats 1000000 in
theorem refTo16_any (s : ByteArray) (w : World) (hs : s.size ≤ 5000) :
    Calls Try.prog 14 #[.string s] w fun e w' => e = .returned (.string (ba (enc 4 d16 (bl s)))) ∧ Below w.heap.size w w' := by
  have hlen := bl_len s
  have HI : Hid (To16At (bl s) w (.string ⟨#[]⟩) (.int .i64 0) w) := ⟨0, by omega, rfl, rfl, Below.refl _ _⟩
  have HL := Lib.hid hlen
  clear hlen
  go_enter Try.func14, Try.ntmps14
  go_wp2
  go_loopw [3, 5] (fun o i wr => To16At (bl s) w o i wr) (fun _ i _ => s.size - (intOf i).toNat)
  case atStart => exact HI.out
  case round =>
    clear HI
    obtain ⟨j, hj, rfl, rfl, hb⟩ := hrel
    rw [HL.out] at hj
    have HB := Lib.hid hb
    clear hb
    have hos : (ba (encP 4 d16 (bl s) (2 * j))).size ≤ 10000 := by rw [ba_size, encP_len]; omega
    by_cases hlt : j < s.size
    · have h8 : s[j].toNat < 256 := s[j].toNat_lt
      obtain ⟨h, hh⟩ : ∃ h, s[j].toNat / 16 = h := ⟨_, rfl⟩
      obtain ⟨k, hk⟩ : ∃ k, s[j].toNat % 16 = k := ⟨_, rfl⟩
      have HN := Lib.hid (enc16_next (bl s) j h k (by rw [byteAt_str s j hlt]; exact hh) (by rw [byteAt_str s j hlt]; exact hk))
      have h16 : h < 16 := by omega
      have k16 : k < 16 := by omega
      have ih : (s[j].toNat : Int) / 16 = (h : Int) := by omega
      have ik : (s[j].toNat : Int) % 16 = (k : Int) := by omega
      have ch := six_cut h h16
      have ck := six_cut k k16
      have zh : (ba [digOf d16 h]).size = 1 := rfl
      have zk : (ba [digOf d16 k]).size = 1 := rfl
      generalize ba [digOf d16 h] = x at ch zh HN
      generalize ba [digOf d16 k] = y at ck zk HN
      generalize ba (encP 4 d16 (bl s) (2 * j)) = o at HN hos ⊢
      unfold sixteen at ch ck
      clear hh hk
      go_wp2
      go_quiet (fail)
      go_wp2
      go_roundw
      case rel => exact ⟨j + 1, by rw [HL.out]; omega, by go_num, by rw [HN.out], below_drewN HB.out _⟩
      case measure => simp [intOf]; omega
    · obtain rfl : j = s.size := by omega
      have HD := Lib.hid (enc16_done (bl s))
      rw [HL.out] at HD
      go_wp2
      go_ret
      exact ⟨by rw [← HD.out]; rfl, HB.out⟩
end Go.Proofs.Ytpkgbjbjdbjlhaa.Code
