/-
  What a message is padded with.
-/
import Derived.Test.YtnndifkilcommaaDoorShaWalkD
import Derived.Test.YtnndifkilcommaaDoorShaShelf
namespace Go.Proofs.YtnndifkilcommaaDoor.Sha
open Go.RowKit

theorem rep_list : ∀ c : Nat, Lib.repeatL [0] c = List.replicate c 0
  | 0 => rfl
  | c + 1 => by show [0] ++ Lib.repeatL [0] c = _; rw [rep_list c]; rfl
theorem rep_any (c : Int) (w : World) (h0 : 0 ≤ c) (h1 : c ≤ 1000) : Calls Tryd.prog 35 #[.string ⟨#[0]⟩, .int .i64 c] w fun e w' => e = .returned (.string (ba (List.replicate c.toNat 0))) ∧ Below w.heap.size w w' := by
  obtain ⟨k, rfl⟩ := Int.eq_ofNat_of_zero_le h0
  refine (Tryd.strings_Repeat ⟨#[0]⟩ k w (by omega) (by show 1 * k ≤ _; omega)).mono ?_
  rintro e w' ⟨rfl, hb⟩
  refine ⟨?_, hb⟩
  show Ending.returned (.string ⟨(Lib.repeatL [0] k).toArray⟩) = _
  rw [rep_list]; rfl
theorem ba_append (l m : List UInt8) : ba l ++ ba m = ba (l ++ m) := by
  apply ByteArray.ext
  rw [ByteArray.data_append]
  simp
theorem ba_size (l : List UInt8) : (ba l).size = l.length := by
  show l.toArray.size = _
  simp
theorem lenBytes_length (n : Nat) : (lenBytes n).length = 8 := rfl
theorem pad_eq (n : Nat) (z : Nat) (h : (119 - n % 64) % 64 = z) : (⟨#[128]⟩ : ByteArray) ++ ba (List.replicate z 0) ++ ba (lenBytes (8 * n)) = ba (padOf n) := by
  subst h
  show ba [128] ++ _ ++ _ = _
  rw [ba_append, ba_append]
  rfl
theorem lengthBytes_int (x : Int) (w : World) (h0 : 0 ≤ x) (h1 : x < 18446744073709551616) : Calls Tryd.prog 36 #[.int .u64 x] w fun e w' => e = .returned (.string (ba (lenBytes x.toNat))) ∧ Below w.heap.size w w' := by
  obtain ⟨k, rfl⟩ := Int.eq_ofNat_of_zero_le h0
  exact lengthBytes_any k w (by omega)
set_option maxRecDepth 100000 in
set_option maxHeartbeats 400000 in
theorem padding_any (n : Nat) (w : World) (hn : n ≤ 1000000000) : Calls Tryd.prog 28 #[.int .u64 n] w fun e w' => e = .returned (.string (ba (padOf n))) ∧ Below w.heap.size w w' := by
  obtain ⟨z, hz⟩ : ∃ z, (119 - n % 64) % 64 = z := ⟨_, rfl⟩
  have HZ := Lib.hid hz
  have HP := Lib.hid (pad_eq n z hz)
  have hz2 : z ≤ 63 := by omega
  have hs1 := ba_size (List.replicate z 0)
  have hs2 := ba_size (lenBytes (8 * n))
  have hs3 := lenBytes_length (8 * n)
  have ez : ((128 - ((n : Int) % 64 + 1 + 8)) % 64).toNat = z := by omega
  have en : (8 * (n : Int)).toNat = 8 * n := by omega
  have EZ := Lib.hid ez
  have EN := Lib.hid en
  clear ez en hz
  go_enter Tryd.func28, Tryd.ntmps28
  go_wp2_with (first | (go_at_call 35; refine (rep_any _ _ (by omega) (by omega)).mono ?_; rintro e w1 ⟨rfl, hb1⟩; rw [EZ.out]) | (go_at_call 36; refine (lengthBytes_int _ _ (by omega) (by omega)).mono ?_; rintro e w2 ⟨rfl, hb2⟩; rw [EN.out]))
  go_ret
  exact ⟨by rw [HP.out]; rfl, hb1.trans (hb2.mono hb1.size)⟩
end Go.Proofs.YtnndifkilcommaaDoor.Sha
