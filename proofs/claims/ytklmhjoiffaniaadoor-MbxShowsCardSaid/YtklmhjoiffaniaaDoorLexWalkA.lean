/-
  Walks: which bytes stand in atoms; folds; the parts of quoted texts and comments; the size of an atom.
-/
import Derived.Test.YtklmhjoiffaniaaDoorLexBase
namespace Go.Proofs.YtklmhjoiffaniaaDoor.Lex
open Go.RowKit

theorem am_eq (c : Int) (h0 : 0 ≤ c) : amN c.toNat = ((decide (97 ≤ c) && decide (c ≤ 122)) || ((decide (65 ≤ c) && decide (c ≤ 90)) || ((decide (48 ≤ c) && decide (c ≤ 57)) || (decide (127 < c) || marks.contains c.toNat)))) := by
  unfold amN
  have e1 : decide (97 ≤ c.toNat) = decide (97 ≤ c) := decide_eq_decide.2 (by omega)
  have e2 : decide (c.toNat ≤ 122) = decide (c ≤ 122) := decide_eq_decide.2 (by omega)
  have e3 : decide (65 ≤ c.toNat) = decide (65 ≤ c) := decide_eq_decide.2 (by omega)
  have e4 : decide (c.toNat ≤ 90) = decide (c ≤ 90) := decide_eq_decide.2 (by omega)
  have e5 : decide (48 ≤ c.toNat) = decide (48 ≤ c) := decide_eq_decide.2 (by omega)
  have e6 : decide (c.toNat ≤ 57) = decide (c ≤ 57) := decide_eq_decide.2 (by omega)
  have e7 : decide (127 < c.toNat) = decide (127 < c) := decide_eq_decide.2 (by omega)
  rw [e1, e2, e3, e4, e5, e6, e7]
theorem am_way (c : Int) : ∃ a0 a1 b0 b1 c0 c1 d0 : Bool, decide (97 ≤ c) = a0 ∧ decide (c ≤ 122) = a1 ∧ decide (65 ≤ c) = b0 ∧ decide (c ≤ 90) = b1 ∧ decide (48 ≤ c) = c0 ∧ decide (c ≤ 57) = c1 ∧ decide (127 < c) = d0 :=
  ⟨_, _, _, _, _, _, _, rfl, rfl, rfl, rfl, rfl, rfl, rfl⟩
set_option maxRecDepth 100000 in
set_option maxHeartbeats 1000000 in
theorem atom_any (c : Int) (w : World) (h0 : 0 ≤ c) (h1 : c < 256) :
    Calls Tryd.prog 42 #[.int .u8 c] w fun e w' => e = .returned (.bool (amN c.toNat)) ∧ w = w' := by
  have HX := Lib.hid (fun W => index_any markB c W)
  have e := Lib.hid (mark_index c.toNat (by omega))
  have ea := Lib.hid (am_eq c h0)
  generalize Lib.indexByte markB.data.toList c.toNat.toUInt8 = v at *
  generalize marks.contains c.toNat = m at *
  by_cases k0 : 97 ≤ c <;> by_cases k1 : c ≤ 122 <;> by_cases k2 : 65 ≤ c <;> by_cases k3 : c ≤ 90 <;> by_cases k4 : 48 ≤ c <;> by_cases k5 : c ≤ 57 <;> by_cases k6 : 127 < c
  all_goals first | (exfalso; omega) | skip
  all_goals
    simp only [k0, k1, k2, k3, k4, k5, k6, decide_true, decide_false, Bool.and_true, Bool.and_false, Bool.true_or, Bool.false_or] at ea
    go_enter Tryd.func42, Tryd.ntmps42
    go_wp2_with fail
  all_goals first
    | (go_ret; exact ⟨ret_bool ea.out.symm, rfl⟩)
    | (refine (HX.out _).mono ?_
       rintro e' w1 ⟨rfl, rfl⟩
       go_wp2
       go_ret
       exact ⟨ret_bool (e.out.trans ea.out.symm), rfl⟩)
set_option maxRecDepth 100000 in
set_option maxHeartbeats 400000 in
theorem prefixL_any (s p : ByteArray) (w : World) (b : Bool) (hb : ((bl s).take p.size == bl p) = b) :
    Calls Tryd.prog 77 #[.string s, .string p] w fun e w' => e = .returned (.bool b) ∧ w = w' := by
  by_cases h : p.size ≤ s.size
  · have h' : (p.size : Int) ≤ (s.size : Int) := by omega
    have e : ((s.extract 0 p.size).toList == p.toList) = b := by
      rw [Lib.toList_data, Lib.toList_data, ← hb, show (s.extract 0 p.size).data.toList = bl (s.extract 0 p.size) from rfl, bl_extract]
      simp
    have he := Lib.hid e
    clear e hb
    go_enter Tryd.func77, Tryd.ntmps77
    go_wp2
    go_ret
    exact ⟨ret_bool he.out, rfl⟩
  · have h' : ¬ (p.size : Int) ≤ (s.size : Int) := by omega
    have e : Hid (b = false) := by
      refine Lib.hid ?_
      rw [← hb, beq_eq_false_iff_ne]
      intro hp
      have := congrArg List.length hp
      rw [List.length_take, bl_len, bl_len] at this
      omega
    clear hb
    go_enter Tryd.func77, Tryd.ntmps77
    go_wp2
    go_ret
    exact ⟨ret_bool e.out.symm, rfl⟩
set_option maxRecDepth 100000 in
set_option maxHeartbeats 400000 in
theorem prefix_any (s p : ByteArray) (w : World) (b : Bool) (hb : ((bl s).take p.size == bl p) = b) :
    Calls Tryd.prog 61 #[.string s, .string p] w fun e w' => e = .returned (.bool b) ∧ w = w' := by
  have HP := Lib.hid (fun W => prefixL_any s p W b hb)
  clear hb
  go_enter Tryd.func61, Tryd.ntmps61
  go_wp2_with fail
  refine (HP.out _).mono ?_
  rintro e w' ⟨rfl, rfl⟩
  go_wp2
  go_ret
  exact ⟨rfl, rfl⟩
theorem fold_short {l : List UInt8} (h : l.length ≤ 2) : fold l = false := by
  match l, h with
  | [], _ => rfl
  | [_], _ => rfl
  | [_, _], _ => rfl
  | _ :: _ :: _ :: _, h => simp at h
theorem fold_long (s : ByteArray) (h : 2 < s.size) : fold (bl s) = (((bl s).take 2 == [13, 10]) && bkN s[2].toNat) := by
  have e0 := drop_cons s 0 (by omega)
  have e1 := drop_cons s 1 (by omega)
  have e2 := drop_cons s 2 h
  rw [List.drop_zero] at e0
  rw [show 0 + 1 = 1 from rfl, e1, show 1 + 1 = 2 from rfl, e2] at e0
  rw [e0]
  have ht : ∀ a b : UInt8, ([a, b] == [13, 10]) = (a.toNat == 13 && b.toNat == 10) := by
    intro a b
    rw [Bool.eq_iff_iff]
    simp only [beq_iff_eq, Bool.and_eq_true, List.cons.injEq, and_true]
    constructor
    · rintro ⟨rfl, rfl⟩; exact ⟨rfl, rfl⟩
    · rintro ⟨h1, h2⟩; exact ⟨UInt8.toNat.inj h1, UInt8.toNat.inj h2⟩
  show (s[0].toNat == 13 && (s[1].toNat == 10 && bk s[2])) = ([s[0], s[1]] == [13, 10] && bkN s[2].toNat)
  rw [ht, Bool.and_assoc]
  rfl
def crlf : ByteArray := ⟨#[13, 10]⟩
set_option maxRecDepth 100000 in
set_option maxHeartbeats 1000000 in
theorem isFold_any (s : ByteArray) (w : World) (_hs : s.size ≤ 1000000000) :
    Calls Tryd.prog 38 #[.string s] w fun e w' => e = .returned (.bool (fold (bl s))) ∧ w = w' := by
  by_cases h : 2 < s.size
  · have h' : decide ((2 : Int) < (s.size : Int)) = true := decide_eq_true (by omega)
    have hc : ∃ c : UInt8, c = s[2] := ⟨_, rfl⟩
    have h8 : s[2].toNat < 256 := s[2].toNat_lt
    have e := Lib.hid (fold_long s h)
    have HB := Lib.hid (fun W => blank_any (s[2].toNat : Int) W (by omega) (by omega))
    cases ht : (bl s).take 2 == [13, 10]
    · have HP := Lib.hid (fun W => prefix_any s crlf W false ht)
      rw [ht] at e
      clear ht
      go_enter Tryd.func38, Tryd.ntmps38
      go_wp2_with fail
      refine (HP.out _).mono ?_
      rintro e' w1 ⟨rfl, rfl⟩
      go_wp2
      go_ret
      exact ⟨ret_bool e.out.symm, rfl⟩
    · have HP := Lib.hid (fun W => prefix_any s crlf W true ht)
      rw [ht] at e
      clear ht
      go_enter Tryd.func38, Tryd.ntmps38
      go_wp2_with fail
      refine (HP.out _).mono ?_
      rintro e' w1 ⟨rfl, rfl⟩
      go_wp2_with fail
      refine (HB.out _).mono ?_
      rintro e' w1 ⟨rfl, rfl⟩
      go_wp2
      go_ret
      exact ⟨ret_bool e.out.symm, rfl⟩
  · have h' : decide ((2 : Int) < (s.size : Int)) = false := decide_eq_false (by omega)
    have e := Lib.hid (fold_short (l := bl s) (by rw [bl_len]; omega))
    go_enter Tryd.func38, Tryd.ntmps38
    go_wp2
    go_ret
    exact ⟨ret_bool e.out.symm, rfl⟩
end Go.Proofs.YtklmhjoiffaniaaDoor.Lex
