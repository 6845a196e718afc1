/-
  The small tests of bytes and digits at this program, and the document's.
-/
import Derived.Test.YtobnckbpgckgjaaDoorQpPlain
import Derived.Test.YtobnckbpgckgjaaDoorProg
import Derived.WalkKit
import Derived.WalkSpells
import Derived.WalkLawsBesides
import Derived.WalkSmall
import Derived.ShutString
import Derived.RegionTactic
import Derived.Lib.Walk
import Derived.Lib.Strings
import Derived.Lib.Hide
import Derived.Lib.Bytealg
import Derived.Below
import Derived.Laws.BitsAllLaws
import Derived.Laws.BytesArg
import Derived.Laws.Externs
import Derived.Deep.QuietTactic
import Derived.BigQuiet
namespace Go.Proofs.YtobnckbpgckgjaaDoor.Qp
open Go Go.RowKit
open Go.Proofs.YtobnckbpgckgjaaDoor.Head

theorem bl_extract (s : ByteArray) (a b : Nat) : bl (s.extract a b) = ((bl s).drop a).take (b - a) := Lib.extract_data s a b
theorem bl_from (s : ByteArray) (a : Nat) : bl (s.extract a s.size) = (bl s).drop a := by
  rw [bl_extract, List.take_of_length_le]
  rw [List.length_drop, bl_len]
  omega
theorem drop_cons (s : ByteArray) (k : Nat) (h : k < s.size) : (bl s).drop k = s[k] :: (bl s).drop (k + 1) := by
  rw [List.drop_eq_getElem_cons (by rw [bl_len]; exact h)]; rfl
theorem drop_end (s : ByteArray) (p : Nat) (h : ¬ p < s.size) : (bl s).drop p = [] := List.drop_eq_nil_of_le (by rw [bl_len]; omega)
theorem ret_bool {a b : Bool} (h : a = b) : Ending.returned (.bool a) = .returned (.bool b) := by rw [h]
theorem ret_str {a b : ByteArray} (h : a = b) : Ending.returned (.string a) = .returned (.string b) := by rw [h]

/-! Bytes that stand for themselves. -/
theorem bk_int (c : UInt8) : bk c = (((c.toNat : Int) == 32) || ((c.toNat : Int) == 9)) := by
  unfold bk bkN
  rw [Bool.eq_iff_iff]
  simp only [Bool.or_eq_true, beq_iff_eq]
  omega
theorem its_int (c : UInt8) : its c = (decide ((33 : Int) ≤ c.toNat) && (decide ((c.toNat : Int) ≤ 126) && ((c.toNat : Int) != 61))) := by
  unfold its itsN
  rw [Bool.eq_iff_iff]
  simp only [Bool.and_eq_true, decide_eq_true_eq, bne_iff_ne, Bool.not_eq_true', beq_eq_false_iff_ne]
  omega
set_option maxRecDepth 100000 in
set_option maxHeartbeats 1000000 in
theorem self_any (c : UInt8) (b : Bool) (w : World) :
    Calls Tryd.prog 29 #[.int .u8 c.toNat, .bool b] w fun e w' => e = .returned (.bool (selfB c b)) ∧ w = w' := by
  have hb := bk_int c
  have hi := its_int c
  have HS : Hid (selfB c b = if bk c then !b else its c) := Lib.hid rfl
  generalize selfB c b = q at *
  generalize its c = r at *
  generalize bk c = p at *
  cases h1 : ((c.toNat : Int) == 32) <;> cases h2 : ((c.toNat : Int) == 9)
  · rw [h1, h2] at hb
    subst hb
    by_cases h3 : (33 : Int) ≤ c.toNat
    · by_cases h4 : (c.toNat : Int) ≤ 126
      · cases h5 : ((c.toNat : Int) != 61)
        all_goals
          rw [decide_eq_true h3, decide_eq_true h4, h5] at hi
          subst hi
          go_enter Tryd.func29, Tryd.ntmps29
          go_wp2
          go_ret
          exact ⟨ret_bool (by rw [HS.out]; exact h5), rfl⟩
      · rw [decide_eq_true h3, decide_eq_false h4] at hi
        subst hi
        go_enter Tryd.func29, Tryd.ntmps29
        go_wp2
        go_ret
        exact ⟨ret_bool (by rw [HS.out]; rfl), rfl⟩
    · rw [decide_eq_false h3] at hi
      subst hi
      go_enter Tryd.func29, Tryd.ntmps29
      go_wp2
      go_ret
      exact ⟨ret_bool (by rw [HS.out]; rfl), rfl⟩
  all_goals
    rw [h1, h2] at hb
    subst hb
    clear hi
    go_enter Tryd.func29, Tryd.ntmps29
    go_wp2
    go_ret
    exact ⟨ret_bool (by rw [HS.out]; rfl), rfl⟩
set_option maxRecDepth 100000 in
set_option maxHeartbeats 1000000 in
theorem ritself_any (c : UInt8) (w : World) :
    Calls Tryd.prog 25 #[.int .u8 c.toNat] w fun e w' => e = .returned (.bool (its c)) ∧ w = w' := by
  have hi := its_int c
  generalize its c = r at *
  by_cases h3 : (33 : Int) ≤ c.toNat
  · by_cases h4 : (c.toNat : Int) ≤ 126
    · cases h5 : ((c.toNat : Int) != 61)
      all_goals
        rw [decide_eq_true h3, decide_eq_true h4, h5] at hi
        subst hi
        go_enter Tryd.func25, Tryd.ntmps25
        go_wp2
        go_ret
        exact ⟨rfl, rfl⟩
    · rw [decide_eq_true h3, decide_eq_false h4] at hi
      subst hi
      go_enter Tryd.func25, Tryd.ntmps25
      go_wp2
      go_ret
      exact ⟨rfl, rfl⟩
  · rw [decide_eq_false h3] at hi
    subst hi
    go_enter Tryd.func25, Tryd.ntmps25
    go_wp2
    go_ret
    exact ⟨rfl, rfl⟩
set_option maxRecDepth 100000 in
set_option maxHeartbeats 400000 in
theorem rblank_any (c : UInt8) (w : World) :
    Calls Tryd.prog 24 #[.int .u8 c.toNat] w fun e w' => e = .returned (.bool (bk c)) ∧ w = w' := by
  have e := bk_int c
  generalize bk c = q at *
  cases h1 : ((c.toNat : Int) == 32) <;> cases h2 : ((c.toNat : Int) == 9)
  all_goals
    rw [h1, h2] at e
    subst e
    go_enter Tryd.func24, Tryd.ntmps24
    go_wp2
    go_ret
    exact ⟨rfl, rfl⟩

/-! Digits. -/
def dgOk (n : Nat) : Bool := decide (dgN n < 16)
theorem dgN_le (n : Nat) : dgN n ≤ 16 := by
  unfold dgN
  split
  · omega
  · split
    · omega
    · split <;> omega
/-- What the program's digit answers. -/
def dgV (n : Nat) : Nat := if dgOk n then dgN n else 0
theorem ret_dig {a b : Int} {x y : Bool} (h1 : a = b) (h2 : x = y) : Ending.returned (.tuple #[.int .u8 a, .bool x]) = .returned (.tuple #[.int .u8 b, .bool y]) := by rw [h1, h2]
set_option maxRecDepth 100000 in
set_option maxHeartbeats 1000000 in
theorem digit_any (c : UInt8) (w : World) :
    Calls Tryd.prog 26 #[.int .u8 c.toNat] w fun e w' => e = .returned (.tuple #[.int .u8 (dgV c.toNat), .bool (dgOk c.toNat)]) ∧ w = w' := by
  have h8 := c.toNat_lt
  by_cases a1 : 48 ≤ c.toNat ∧ c.toNat ≤ 57
  · have HV : Hid (dgV c.toNat = c.toNat - 48 ∧ dgOk c.toNat = true) := Lib.hid (by
      have : dgN c.toNat = c.toNat - 48 := by unfold dgN; rw [if_pos a1]
      unfold dgV dgOk
      rw [this, decide_eq_true (by omega), if_pos rfl]
      exact ⟨rfl, rfl⟩)
    have d1 : (48 : Int) ≤ c.toNat := by omega
    have d2 : (c.toNat : Int) ≤ 57 := by omega
    have e1 : (c.toNat : Int) - 48 = ((c.toNat - 48 : Nat) : Int) := by omega
    go_enter Tryd.func26, Tryd.ntmps26
    go_wp2
    go_ret2
    exact ⟨ret_dig (by rw [HV.out.1]) HV.out.2.symm, rfl⟩
  · by_cases a2 : 65 ≤ c.toNat ∧ c.toNat ≤ 70
    · have HV : Hid (dgV c.toNat = c.toNat - 55 ∧ dgOk c.toNat = true) := Lib.hid (by
        have : dgN c.toNat = c.toNat - 55 := by unfold dgN; rw [if_neg a1, if_pos a2]
        unfold dgV dgOk
        rw [this, decide_eq_true (by omega), if_pos rfl]
        exact ⟨rfl, rfl⟩)
      have d0 : ¬ (c.toNat : Int) ≤ 57 := by omega
      have d00 : (48 : Int) ≤ c.toNat := by omega
      have d1 : (65 : Int) ≤ c.toNat := by omega
      have d2 : (c.toNat : Int) ≤ 70 := by omega
      clear a1 a2
      go_enter Tryd.func26, Tryd.ntmps26
      go_wp2
      go_ret2
      exact ⟨ret_dig (by rw [HV.out.1]; omega) HV.out.2.symm, rfl⟩
    · by_cases a3 : 97 ≤ c.toNat ∧ c.toNat ≤ 102
      · have HV : Hid (dgV c.toNat = c.toNat - 87 ∧ dgOk c.toNat = true) := Lib.hid (by
          have : dgN c.toNat = c.toNat - 87 := by unfold dgN; rw [if_neg a1, if_neg a2, if_pos a3]
          unfold dgV dgOk
          rw [this, decide_eq_true (by omega), if_pos rfl]
          exact ⟨rfl, rfl⟩)
        have d0 : ¬ (c.toNat : Int) ≤ 57 := by omega
        have d00 : (48 : Int) ≤ c.toNat := by omega
        have d01 : (65 : Int) ≤ c.toNat := by omega
        have d02 : ¬ (c.toNat : Int) ≤ 70 := by omega
        have d1 : (97 : Int) ≤ c.toNat := by omega
        have d2 : (c.toNat : Int) ≤ 102 := by omega
        clear a1 a2 a3
        go_enter Tryd.func26, Tryd.ntmps26
        go_wp2
        go_ret2
        exact ⟨ret_dig (by rw [HV.out.1]; omega) HV.out.2.symm, rfl⟩
      · have HV : Hid (dgV c.toNat = 0 ∧ dgOk c.toNat = false) := Lib.hid (by
          have : dgN c.toNat = 16 := by unfold dgN; rw [if_neg a1, if_neg a2, if_neg a3]
          unfold dgV dgOk
          rw [this]
          exact ⟨rfl, rfl⟩)
        have HX := Lib.hid (And.intro a1 (And.intro a2 a3))
        clear a1 a2 a3
        by_cases b1 : (48 : Int) ≤ c.toNat <;> by_cases b2 : (c.toNat : Int) ≤ 57 <;> by_cases b3 : (65 : Int) ≤ c.toNat <;> by_cases b4 : (c.toNat : Int) ≤ 70 <;> by_cases b5 : (97 : Int) ≤ c.toNat <;> by_cases b6 : (c.toNat : Int) ≤ 102
        all_goals first
          | (exfalso; have := HX.out; omega)
          | (go_enter Tryd.func26, Tryd.ntmps26
             go_wp2
             go_ret2
             exact ⟨ret_dig (by rw [HV.out.1]; rfl) HV.out.2.symm, rfl⟩)
end Go.Proofs.YtobnckbpgckgjaaDoor.Qp
