/-
  The small tests of bytes and lines at this program; strings.Cut at a colon and at a line end, strings.Trim; the document's small tests.
-/
import Derived.Test.YtpklmlhioklpoaaDoorHeadPlain
import Derived.Test.YtpklmlhioklpoaaDoorHeadShelf
import Derived.Test.YtpklmlhioklpoaaDoorLexBuild
namespace Go.Proofs.YtpklmlhioklpoaaDoor.Head
open Go Go.RowKit

theorem bl_extract (s : ByteArray) (a b : Nat) : bl (s.extract a b) = ((bl s).drop a).take (b - a) := Lib.extract_data s a b
theorem bl_from (s : ByteArray) (a : Nat) : bl (s.extract a s.size) = (bl s).drop a := by
  rw [bl_extract, List.take_of_length_le]
  rw [List.length_drop, bl_len]
  omega
theorem drop_cons (s : ByteArray) (k : Nat) (h : k < s.size) : (bl s).drop k = s[k] :: (bl s).drop (k + 1) := by
  rw [List.drop_eq_getElem_cons (by rw [bl_len]; exact h)]; rfl
theorem drop_end (s : ByteArray) (p : Nat) (h : ¬ p < s.size) : (bl s).drop p = [] := List.drop_eq_nil_of_le (by rw [bl_len]; omega)
theorem ret_bool {a b : Bool} (h : a = b) : Ending.returned (.bool a) = .returned (.bool b) := by rw [h]
theorem ret_str {a b : ByteArray} (h : a = b) : Ending.returned (.string a) = .returned (.string b) := by rw [h]
theorem empty_any (s : ByteArray) : s.toList.isEmpty = (bl s).isEmpty := by rw [Lib.toList_data]
theorem below_drewN {B : Nat} {a w : World} (h : Below B a w) : ∀ n, Below B a (w.drewN n)
  | _n => ⟨h.os, h.tape, h.output, h.size, h.block⟩

/-- internal/bytealg.MaxLen holds some number. -/
def MaxAt (w : World) : Prop := ∃ m, w.cell? ⟨0, 0, none⟩ = some (.int .i64 m)
theorem cell_lt {W : World} {b o : Nat} {x : Value} (h : W.cell? ⟨b, o, none⟩ = some x) : b < W.heap.size := by
  rcases Nat.lt_or_ge b W.heap.size with h' | h'
  · exact h'
  · have : W.heap[b]? = none := Array.getElem?_eq_none h'
    simp [World.cell?, this] at h
theorem MaxAt.below {w w' : World} (h : MaxAt w) (hb : Below w.heap.size w w') : MaxAt w' := by
  obtain ⟨m, hm⟩ := h
  exact ⟨m, by rw [hb.cell (p := ⟨0, 0, none⟩) (cell_lt hm)]; exact hm⟩

/-! Cut at a colon; at a line end. -/
theorem first_colon : ∀ l : List UInt8, (l.contains 58 = false ∧ Lib.index l [58] = -1 ∧ pre l = l ∧ post l = []) ∨ ∃ a b, l = a ++ 58 :: b ∧ (∀ x ∈ a, x ≠ 58) ∧ Lib.index l [58] = (a.length : Int)
  | [] => .inl ⟨rfl, rfl, rfl, rfl⟩
  | x :: t => by
    by_cases hx : x = 58
    · subst hx
      exact .inr ⟨[], t, rfl, by simp, by simp [Lib.index, List.isPrefixOf]⟩
    · have hp : ([58] : List UInt8).isPrefixOf (x :: t) = false := by simp [List.isPrefixOf, Ne.symm hx]
      have hb : (x != 58) = true := by rw [bne_iff_ne]; exact hx
      have hi : Lib.index (x :: t) [58] = if Lib.index t [58] == -1 then -1 else Lib.index t [58] + 1 := by rw [Lib.index, hp]; simp
      rcases first_colon t with ⟨h0, h1, h2, h3⟩ | ⟨a, b, h1, h2, h3⟩
      · refine .inl ⟨?_, by rw [hi, h1]; rfl, ?_, ?_⟩
        · rw [List.contains_cons, h0, Bool.or_false, beq_eq_false_iff_ne]; exact Ne.symm hx
        · unfold pre at *; rw [List.takeWhile_cons, if_pos hb, h2]
        · unfold post at *; rw [List.dropWhile_cons, if_pos hb, h3]
      · refine .inr ⟨x :: a, b, by rw [h1]; rfl, ?_, ?_⟩
        · intro y hy
          rcases List.mem_cons.1 hy with rfl | hy
          · exact hx
          · exact h2 y hy
        · rw [hi, h3]
          have : ((a.length : Int) == -1) = false := by rw [beq_eq_false_iff_ne]; omega
          rw [this]
          simp
theorem cut_colon (l : List UInt8) : Lib.cut l [58] = (pre l, post l, l.contains 58) := by
  unfold Lib.cut
  rcases first_colon l with ⟨h0, h1, h2, h3⟩ | ⟨a, b, h1, h2, h3⟩
  · rw [h1, if_neg (by omega), h0, h2, h3]
  · rw [h3, if_pos (by omega), h1, (pre_run a b h2).1, (pre_run a b h2).2]
    simp
theorem crlf_pre (l : List UInt8) : ([13, 10] : List UInt8).isPrefixOf l = crlf l := by
  match l with
  | [] => rfl
  | [c] => simp [List.isPrefixOf, crlf]
  | c :: d :: t =>
    simp only [List.isPrefixOf, crlf, Bool.and_true]
    rw [Bool.eq_iff_iff]
    simp only [Bool.and_eq_true, beq_iff_eq]
    exact ⟨fun h => ⟨h.1.symm, h.2.symm⟩, fun h => ⟨h.1.symm, h.2.symm⟩⟩
theorem index_crlf : ∀ l : List UInt8, Lib.index l [13, 10] = match cut2 l with | none => -1 | some (t, _) => (t.length : Int)
  | [] => rfl
  | c :: t => by
    rw [Lib.index, crlf_pre]
    cases hc : crlf (c :: t)
    · rw [cut2_cons hc, index_crlf t, if_neg (by decide)]
      cases h2 : cut2 t with
      | none => rfl
      | some p =>
        obtain ⟨a, r⟩ := p
        have : ((a.length : Int) == -1) = false := by rw [beq_eq_false_iff_ne]; omega
        simp [this]
    · rw [if_pos rfl, cut2, if_pos hc]
      rfl
theorem cut_none {l : List UInt8} (h : cut2 l = none) : Lib.cut l [13, 10] = (l, [], false) := by
  unfold Lib.cut
  rw [index_crlf, h]
  rfl
theorem cut_some {l t r : List UInt8} (h : cut2 l = some (t, r)) : Lib.cut l [13, 10] = (t, r, true) := by
  unfold Lib.cut
  rw [index_crlf, h]
  have e := cut2_some h
  simp only
  rw [if_pos (by omega), e]
  simp
abbrev colS : ByteArray := ⟨#[58]⟩
abbrev endS : ByteArray := ⟨#[13, 10]⟩
theorem cutC_any (s : ByteArray) (w : World) (hs : s.size ≤ 1000000000) (hm : MaxAt w) :
    Calls Tryd.prog 28 #[.string s, .string colS] w fun e w' => e = .returned (.tuple #[.string (ba (pre (bl s))), .string (ba (post (bl s))), .bool ((bl s).contains 58)]) ∧ Below w.heap.size w w' := by
  obtain ⟨m, hm⟩ := hm
  refine (Tryd.strings_Cut s colS m w (by omega) hm).mono ?_
  rintro e w' ⟨rfl, n, rfl⟩
  rw [show (colS.data.toList) = [58] from rfl, cut_colon]
  exact ⟨rfl, below_drewN (Below.refl _ _) n⟩
theorem cutN_any (s : ByteArray) (w : World) (hs : s.size ≤ 1000000000) (hm : MaxAt w) (h : cut2 (bl s) = none) :
    Calls Tryd.prog 28 #[.string s, .string endS] w fun e w' => e = .returned (.tuple #[.string s, .string ⟨#[]⟩, .bool false]) ∧ Below w.heap.size w w' := by
  obtain ⟨m, hm⟩ := hm
  refine (Tryd.strings_Cut s endS m w (by omega) hm).mono ?_
  rintro e w' ⟨rfl, n, rfl⟩
  rw [show (endS.data.toList) = [13, 10] from rfl, cut_none h]
  refine ⟨?_, below_drewN (Below.refl _ _) n⟩
  show Ending.returned (Value.tuple #[Value.string (ba (bl s)), .string ⟨#[]⟩, .bool false]) = _
  rw [ba_bl]
theorem cutS_any (s : ByteArray) (t r : List UInt8) (w : World) (hs : s.size ≤ 1000000000) (hm : MaxAt w) (h : cut2 (bl s) = some (t, r)) :
    Calls Tryd.prog 28 #[.string s, .string endS] w fun e w' => e = .returned (.tuple #[.string (ba t), .string (ba r), .bool true]) ∧ Below w.heap.size w w' := by
  obtain ⟨m, hm⟩ := hm
  refine (Tryd.strings_Cut s endS m w (by omega) hm).mono ?_
  rintro e w' ⟨rfl, n, rfl⟩
  rw [show (endS.data.toList) = [13, 10] from rfl, cut_some h]
  exact ⟨rfl, below_drewN (Below.refl _ _) n⟩

/-! Trim. -/
abbrev bkS : ByteArray := ⟨#[32, 9]⟩
theorem bk_set (c : UInt8) : ([32, 9] : List UInt8).contains c = bk c := by
  unfold bk bkN
  rw [Bool.eq_iff_iff]
  simp only [List.contains_cons, List.contains_nil, Bool.or_false, Bool.or_eq_true, beq_iff_eq]
  constructor
  · rintro (rfl | rfl)
    · exact .inl rfl
    · exact .inr rfl
  · rintro (h | h)
    · exact .inl (UInt8.toNat_inj.1 h)
    · exact .inr (UInt8.toNat_inj.1 h)
theorem trim_set (l : List UInt8) : Lib.trimS l [32, 9] = trimL l := by
  unfold Lib.trimS Lib.trimLeftS Lib.trimRightS trimL trimR
  have : (fun x : UInt8 => ([32, 9] : List UInt8).contains x) = bk := funext bk_set
  rw [this]
set_option maxRecDepth 100000 in
set_option maxHeartbeats 400000 in
theorem trim_any (s : ByteArray) (w : World) (hs : s.size ≤ 1000000000) :
    Calls Tryd.prog 44 #[.string s] w fun e w' => e = .returned (.string (ba (trimL (bl s)))) ∧ Below w.heap.size w w' := by
  have HT := Lib.hid (fun W => Tryd.strings_Trim_laid s bkS W (by omega) (by decide) (ascii_of_all (by decide)))
  have HE := Lib.hid (trim_set (bl s))
  go_enter Tryd.func44, Tryd.ntmps44
  go_wp2_with fail
  refine (HT.out _).mono ?_
  rintro e w1 ⟨rfl, hb⟩
  have HB := Lib.hid hb
  clear hb
  go_wp2_with fail
  go_ret
  exact ⟨by rw [← HE.out]; rfl, HB.out⟩

/-! The program's small tests. -/
set_option maxRecDepth 100000 in
set_option maxHeartbeats 400000 in
theorem blank_any (c : UInt8) (w : World) :
    Calls Tryd.prog 31 #[.int .u8 c.toNat] w fun e w' => e = .returned (.bool (bk c)) ∧ w = w' := by
  have e : Hid (bk c = (((c.toNat : Int) == 32) || ((c.toNat : Int) == 9))) := Lib.hid (by
    unfold bk bkN
    rw [Bool.eq_iff_iff]
    simp only [Bool.or_eq_true, beq_iff_eq]
    omega)
  generalize bk c = q at *
  cases h1 : ((c.toNat : Int) == 32) <;> cases h2 : ((c.toNat : Int) == 9)
  all_goals
    rw [h1, h2] at e
    go_enter Tryd.func31, Tryd.ntmps31
    go_wp2
    go_ret
    exact ⟨by rw [e.out]; rfl, rfl⟩
theorem all_step {p : UInt8 → Bool} (s : ByteArray) (k : Nat) (h : k < s.size) : ((bl s).drop k).all p = (p s[k] && ((bl s).drop (k + 1)).all p) := by
  rw [drop_cons s k h, List.all_cons]
set_option maxRecDepth 100000 in
set_option maxHeartbeats 1000000 in
theorem text_any (s : ByteArray) (w : World) (hs : s.size ≤ 1000000000) :
    Calls Tryd.prog 43 #[.string s] w fun e w' => e = .returned (.bool (textB (bl s))) ∧ w = w' := by
  go_enter Tryd.func43, Tryd.ntmps43
  go_wp2_with fail
  go_loopw [6] (fun i wr => ∃ k : Nat, k ≤ s.size ∧ i = .int .i64 k ∧ Hid (textB (bl s) = ((bl s).drop k).all tx) ∧ w = wr) (fun i _ => s.size - (intOf i).toNat)
  case atStart => exact ⟨0, Nat.zero_le _, rfl, Lib.hid rfl, rfl⟩
  case round =>
    obtain ⟨k, hk, rfl, hE, rfl⟩ := hrel
    by_cases hlt : k < s.size
    · have hst := all_step (p := tx) s k hlt
      have h8 := s[k].toNat_lt
      have htx : tx s[k] = !((decide (s[k].toNat < 32) && !(s[k].toNat == 9)) || s[k].toNat == 127) := rfl
      by_cases c1 : s[k].toNat < 32
      · by_cases c2 : s[k].toNat = 9
        · have d1 : ((s[k].toNat : Int) < 32) := by omega
          have d2 : ((s[k].toNat : Int) != 9) = false := by rw [c2]; rfl
          have d3 : ((s[k].toNat : Int) == 127) = false := by rw [c2]; rfl
          have HN : Hid (textB (bl s) = ((bl s).drop (k + 1)).all tx) := Lib.hid (by rw [hE.out, hst, htx, c2]; simp)
          clear hst htx
          go_wp2_with fail
          go_roundw
          case rel => exact ⟨k + 1, by omega, by simp, HN, trivial⟩
          case measure => simp [intOf]; omega
        · have d1 : ((s[k].toNat : Int) < 32) := by omega
          have d2 : ((s[k].toNat : Int) != 9) = true := by rw [bne_iff_ne]; omega
          have HN : Hid (textB (bl s) = false) := Lib.hid (by rw [hE.out, hst, htx]; simp [c1, c2])
          clear hst htx
          go_wp2_with fail
          go_ret
          rw [HN.out]
          exact ⟨rfl, rfl⟩
      · have d1 : ¬ ((s[k].toNat : Int) < 32) := by omega
        by_cases c2 : s[k].toNat = 127
        · have d3 : ((s[k].toNat : Int) == 127) = true := by rw [c2]; rfl
          have HN : Hid (textB (bl s) = false) := Lib.hid (by rw [hE.out, hst, htx, c2]; simp)
          clear hst htx
          go_wp2_with fail
          go_ret
          rw [HN.out]
          exact ⟨rfl, rfl⟩
        · have d3 : ((s[k].toNat : Int) == 127) = false := by rw [beq_eq_false_iff_ne]; omega
          have HN : Hid (textB (bl s) = ((bl s).drop (k + 1)).all tx) := Lib.hid (by rw [hE.out, hst, htx]; simp [c1, c2])
          clear hst htx
          go_wp2_with fail
          go_roundw
          case rel => exact ⟨k + 1, by omega, by simp, HN, trivial⟩
          case measure => simp [intOf]; omega
    · have HN : Hid (textB (bl s) = true) := Lib.hid (by rw [hE.out, drop_end s k hlt]; rfl)
      go_wp2_with fail
      go_ret
      rw [HN.out]
      exact ⟨rfl, rfl⟩
end Go.Proofs.YtpklmlhioklpoaaDoor.Head
