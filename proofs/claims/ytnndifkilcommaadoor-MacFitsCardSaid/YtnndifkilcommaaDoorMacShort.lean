/-
  The first bytes of a sum, and whether a text is these.
-/
import Derived.Test.YtnndifkilcommaaDoorMacSum
namespace Go.Proofs.YtnndifkilcommaaDoor.Mac
open Go.RowKit Sha

set_option maxHeartbeats 400000 in
theorem short_bad (key s : ByteArray) (n : Int) (w : World) (hn : n < 1 ∨ 32 < n) :
    Calls Tryd.prog 8 #[.string key, .string s, .int .i64 n] w fun e w' => e = .returned (.tuple #[.string ⟨#[]⟩, .int .i64 1]) ∧ Below w.heap.size w w' := by
  by_cases h1 : n < 1
  · clear hn
    go_enter Tryd.func8, Tryd.ntmps8
    go_wp2
    go_ret2
    exact ⟨rfl, Below.refl _ _⟩
  · have h2 : 32 < n := by omega
    have d1 : decide (n < 1) = false := by simp; omega
    have d2 : decide (32 < n) = true := by simp; omega
    clear hn
    go_enter Tryd.func8, Tryd.ntmps8
    go_wp2
    go_ret2
    exact ⟨rfl, Below.refl _ _⟩
set_option maxHeartbeats 400000 in
theorem short_any (key s : ByteArray) (n : Nat) (w : World) (h1 : 1 ≤ n) (h2 : n ≤ 32) (hk : key.size ≤ 100000) (hs : s.size ≤ 100000) (ht : Tab w) :
    Calls Tryd.prog 8 #[.string key, .string s, .int .i64 n] w fun e w' => e = .returned (.tuple #[.string ((ba (hmac (bl key) (bl s))).extract 0 n), .int .i64 0]) ∧ Below w.heap.size w w' := by
  have HC := Lib.hid (macSum_any key s w hk hs ht)
  have hz : (ba (hmac (bl key) (bl s))).size = 32 := (ba_size _).trans (hmac_len _ _)
  have d1 : decide ((n : Int) < 1) = false := by simp; omega
  have d2 : decide (32 < (n : Int)) = false := by simp; omega
  clear ht
  generalize ba (hmac (bl key) (bl s)) = H at HC hz ⊢
  go_enter Tryd.func8, Tryd.ntmps8
  go_wp2_with fail
  refine HC.out.mono ?_
  rintro e w1 ⟨rfl, hb1⟩
  have HB := Lib.hid hb1
  clear hb1
  go_wp2
  go_ret2
  exact ⟨rfl, HB.out⟩
set_option maxHeartbeats 400000 in
theorem fits_out (key s t : ByteArray) (w : World) (ht : t.size < 1 ∨ 32 < t.size) :
    Calls Tryd.prog 10 #[.string key, .string s, .string t] w fun e w' => e = .returned (.bool false) ∧ Below w.heap.size w w' := by
  go_enter Tryd.func10, Tryd.ntmps10
  go_wp2_with fail
  refine (short_bad key s _ _ (by omega)).mono ?_
  rintro e w1 ⟨rfl, hb1⟩
  have HB := Lib.hid hb1
  clear hb1
  go_wp2
  go_ret
  exact ⟨rfl, HB.out⟩
set_option maxHeartbeats 400000 in
theorem fits_any (key s t : ByteArray) (w : World) (h1 : 1 ≤ t.size) (h2 : t.size ≤ 32) (hk : key.size ≤ 100000) (hs : s.size ≤ 100000) (hT : Tab w) :
    Calls Tryd.prog 10 #[.string key, .string s, .string t] w fun e w' => e = .returned (.bool (((ba (hmac (bl key) (bl s))).extract 0 t.size).toList == t.toList)) ∧ Below w.heap.size w w' := by
  have HC := Lib.hid (short_any key s t.size w h1 h2 hk hs hT)
  have hz : ((ba (hmac (bl key) (bl s))).extract 0 t.size).size ≤ 1000 := by
    have := (ba_size (hmac (bl key) (bl s))).trans (hmac_len _ _)
    rw [ByteArray.size_extract]; omega
  clear hT
  generalize (ba (hmac (bl key) (bl s))).extract 0 t.size = X at HC hz ⊢
  go_enter Tryd.func10, Tryd.ntmps10
  go_wp2_with fail
  refine HC.out.mono ?_
  rintro e w1 ⟨rfl, hb1⟩
  have HB := Lib.hid hb1
  clear hb1
  go_wp2_with fail
  refine (same_any X t _ (by omega)).mono ?_
  rintro e w2 ⟨rfl, hb2⟩
  have HB := Lib.hid (HB.out.trans (hb2.mono HB.out.size))
  clear hb2
  go_wp2
  go_ret
  exact ⟨rfl, HB.out⟩
end Go.Proofs.YtnndifkilcommaaDoor.Mac
