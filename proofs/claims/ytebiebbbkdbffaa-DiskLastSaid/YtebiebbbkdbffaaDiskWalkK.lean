/-
  Walks of zeros, New (the program's).
-/
import Derived.Test.YtebiebbbkdbffaaDiskWalkJ
namespace Go.Proofs.Ytebiebbbkdbffaa.Disk
open Go Go.RowKit

def zs (z : Nat) : ByteArray := ⟨(List.replicate z 0).toArray⟩
theorem zs_size (z : Nat) : (zs z).size = z := by
  show (List.replicate z (0 : UInt8)).toArray.size = z
  simp
theorem repeat_zero : ∀ z : Nat, Lib.repeatL [(0 : UInt8)] z = List.replicate z 0
  | 0 => rfl
  | z + 1 => by
    show [0] ++ Lib.repeatL [0] z = _
    rw [repeat_zero z]
    rfl
theorem zeros_any (w : World) (n z : Nat) (h1 : 1 ≤ n) (h2 : n ≤ 100000) (h3 : z ≤ 100000) :
    Calls Try.prog 18 #[.int .i64 n, .int .i64 z] w fun e w' => ∃ b, e = .returned (.slice (some ⟨b, 0, none⟩) n n) ∧ Lies w' b (strs (List.replicate n (zs z))) strT ∧ w.heap.size ≤ b ∧ Below w.heap.size w w' := by
  have HR := Lib.hid (Try.strings_Repeat ⟨#[0]⟩ z w (by omega) (by show 1 * z ≤ _; omega))
  rw [show (⟨(Lib.repeatL (⟨#[0]⟩ : ByteArray).data.toList z).toArray⟩ : ByteArray) = zs z from by unfold zs; rw [← repeat_zero]] at HR
  go_enter Try.func18, Try.ntmps18
  go_wp2_with fail
  refine HR.out.mono ?_
  rintro e w1 ⟨rfl, hb1⟩
  have hs := hb1.size
  have HP := Lib.hid (repeat_any (w1.alloc (.cells #[.string (zs z)] strT)) w1.heap.size n (zs z) ((Lies.new w1 _ _).cell 0) h1 h2)
  have HB := Lib.hid (hb1.alloc hs (.cells #[.string (zs z)] strT))
  have HS := Lib.hid hs
  clear hb1 hs
  go_wp2_with fail
  refine HP.out.mono ?_
  rintro e w2 ⟨rfl, hL, hb2⟩
  have HL := Lib.hid (And.intro hL (HB.out.trans (hb2.mono HB.out.size)))
  have HZ : Hid (w.heap.size ≤ (w1.alloc (.cells #[.string (zs z)] strT)).heap.size) := HB.out.size
  clear hL hb2
  generalize (w1.alloc (.cells #[.string (zs z)] strT)).heap.size = b at HL HZ ⊢
  go_wp2_with fail
  go_ret
  exact ⟨b, rfl, HL.out.1, HZ.out, HL.out.2⟩
def newS (n z : Nat) : St := ⟨z, List.replicate n (zs z), [], 0, false, false, 0⟩
theorem newS_ok {n z : Nat} (h2 : n ≤ 4096) (h3 : 16 ≤ z) (h4 : z ≤ 256) : Ok (newS n z) := by
  refine ⟨⟨rfl, fun x hx => ?_, fun w hw => by cases hw⟩, ?_, h3, h4, by show 0 ≤ _; omega, Nat.le_refl _, by show 0 ≤ _; omega⟩
  · obtain ⟨_, rfl⟩ := List.mem_replicate.1 hx
    exact zs_size z
  · show (List.replicate n (zs z)).length ≤ 4096
    rw [List.length_replicate]
    exact h2
set_option maxHeartbeats 1000000 in
theorem new_any (w : World) (n z : Nat) (h1 : 4 ≤ n) (h2 : n ≤ 4096) (h3 : 16 ≤ z) (h4 : z ≤ 256) :
    Calls Try.prog 6 #[.int .i64 n, .int .i64 z] w fun e w' => ∃ d, e = .returned (.tuple #[ptr d.pb, .int .i64 0]) ∧ Is w' d (newS n z) ∧ d.B = w.heap.size ∧ Below w.heap.size w w' := by
  have HZ := Lib.hid (fun W => zeros_any W n z (by omega) (by omega) (by omega))
  go_enter Try.func6, Try.ntmps6
  go_wp2_with fail
  refine (HZ.out w).mono ?_
  rintro e w1 ⟨b1, rfl, hL1, hs1, hb1⟩
  have H1 := Lib.hid (And.intro hL1 (And.intro hs1 hb1))
  clear hL1 hs1 hb1
  go_wp2_with fail
  refine (HZ.out w1).mono ?_
  rintro e w2 ⟨b2, rfl, hL2, hs2, hb2⟩
  have H2 := Lib.hid (And.intro hL2 (And.intro hs2 hb2))
  clear hL2 hs2 hb2
  go_wp2_with fail
  go_ret2
  have hl1 := H1.out.1.lt
  have hl2 := H2.out.1.lt
  have hle := H1.out.2.2.size
  have hle2 := H2.out.2.2.size
  have hs1 := H1.out.2.1
  have hs2 := H2.out.2.1
  refine ⟨⟨w.heap.size, w2.heap.size, b1, b2, .slice none 0 0⟩, rfl, ⟨newS_ok h2 h3 h4, 0, rfl, by omega, by omega, ⟨?_, ?_, ?_, nil_owns _ _, ?_, fun k hk => by simp [Value.ownBlock] at hk, ?_⟩⟩, rfl, ?_⟩
  · have e : cellsD ⟨w.heap.size, w2.heap.size, b1, b2, .slice none 0 0⟩ (raw (newS n z) 0) = #[.int .i64 z, .slice (some ⟨b1, 0, none⟩) n n, .slice (some ⟨b2, 0, none⟩) n n, .slice none 0 0, .int .i64 0, .bool false, .bool false, .int .i64 0] := by
      unfold cellsD raw newS con
      simp [landL_nil]
    rw [e]
    exact Lies.new _ _ _
  · exact (H1.out.1.same (H2.out.2.2.block _ hl1)).same (Below.heap_alloc _ _ _ (by omega))
  · exact H2.out.1.same (Below.heap_alloc _ _ _ hl2)
  · refine ⟨?_, ?_, ?_⟩
    · show w2.heap.size ≠ b1
      omega
    · show w2.heap.size ≠ b2
      omega
    · show b1 ≠ b2
      omega
  · refine ⟨?_, ?_, ?_⟩
    · show w.heap.size ≤ w2.heap.size
      omega
    · show w.heap.size ≤ b1
      omega
    · show w.heap.size ≤ b2
      omega
  · exact (H1.out.2.2.trans (H2.out.2.2.mono hle)).alloc (by omega) _
theorem new_bad (w : World) (n z : Int) (h : n < 4 ∨ 4096 < n ∨ z < 16 ∨ 256 < z) :
    Calls Try.prog 6 #[.int .i64 n, .int .i64 z] w fun e w' => e = .returned (.tuple #[.pointer none, .int .i64 1]) ∧ w = w' := by
  rcases (show n < 4 ∨ (4 ≤ n ∧ 4096 < n) ∨ (4 ≤ n ∧ n ≤ 4096 ∧ z < 16) ∨ (4 ≤ n ∧ n ≤ 4096 ∧ 16 ≤ z ∧ 256 < z) by omega) with h | ⟨h1, h⟩ | ⟨h1, h2, h⟩ | ⟨h1, h2, h3, h⟩
  all_goals
    go_enter Try.func6, Try.ntmps6
    go_wp2_with fail
    go_ret2
    exact ⟨rfl, rfl⟩
end Go.Proofs.Ytebiebbbkdbffaa.Disk
