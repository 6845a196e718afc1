/-
  Walks: the parts of quoted texts and comments; the size of an atom; IsAtom; the document's tests of bytes.
-/
import Derived.Test.YtklmhjoiffaniaaDoorLexWalkA
import Derived.WalkMore
import Derived.OwnWalk
namespace Go.Proofs.YtklmhjoiffaniaaDoor.Lex
open Go.RowKit

theorem str_part (s : ByteArray) (a b : Nat) : s.extract a b = ba (((bl s).drop a).take (b - a)) := by rw [← bl_extract, ba_bl]
theorem tup3 {a b : ByteArray} {m n x y : Int} (h : a = b) (h2 : m = n) (h3 : x = y) : Ending.returned (.tuple #[.string a, .int .i64 m, .int .i64 x]) = .returned (.tuple #[.string b, .int .i64 n, .int .i64 y]) := by rw [h, h2, h3]
set_option maxRecDepth 100000 in
set_option maxHeartbeats 2000000 in
theorem inner_any (s : ByteArray) (w : World) (h0 : 0 < s.size) (hs : s.size ≤ 1000000000) :
    Calls Tryd.prog 62 #[.string s] w fun e w' => e = .returned (.tuple #[.string (ba (innerL (bl s)).1), .int .i64 (innerL (bl s)).2.1, .int .i64 (innerL (bl s)).2.2]) ∧ w = w' := by
  have HF := Lib.hid (fun W => isFold_any s W hs)
  cases hf : fold (bl s)
  · rw [hf] at HF
    have e0 := drop_cons s 0 h0
    rw [List.drop_zero] at e0
    by_cases h92 : ((s[0].toNat : Int) == 92) = true
    · have h92' : ((s[0].toNat : Int) != 92) = false := by simpa using h92
      by_cases h1 : 1 < s.size
      · have e1 := drop_cons s 1 h1
        have hn1 : ((s.size : Int) == 1) = false := by simp; omega
        have h8 : s[1].toNat < 256 := s[1].toNat_lt
        have HT := Lib.hid (fun W => text_any (s[1].toNat : Int) W (by omega) (by omega))
        have e : innerL (bl s) = if tx s[1] = true then ([s[1]], 2, 0) else ([], 0, 3) := by
          unfold innerL
          rw [hf, if_neg (by decide), e0, e1]
          show (if s[0].toNat = 92 then _ else _) = _
          rw [if_pos (by have := beq_iff_eq.1 h92; omega)]
        cases ht : tx s[1]
        · rw [ht, if_neg (by decide)] at e
          have HE := Lib.hid e
          rw [show txN (s[1].toNat : Int).toNat = false from ht] at HT
          clear e e0 e1 ht hf
          go_enter Tryd.func62, Tryd.ntmps62
          go_wp2_with fail
          refine (HF.out _).mono ?_
          rintro e' w1 ⟨rfl, rfl⟩
          go_wp2_with fail
          refine (HT.out _).mono ?_
          rintro e' w1 ⟨rfl, rfl⟩
          go_wp2
          go_ret3
          rw [HE.out]
          exact ⟨rfl, rfl⟩
        · rw [ht, if_pos rfl] at e
          have HE := Lib.hid e
          rw [show txN (s[1].toNat : Int).toNat = true from ht] at HT
          have HP := Lib.hid (show s.extract 1 2 = ba [s[1]] by rw [str_part, e1]; rfl)
          clear e e0 e1 ht hf
          go_enter Tryd.func62, Tryd.ntmps62
          go_wp2_with fail
          refine (HF.out _).mono ?_
          rintro e' w1 ⟨rfl, rfl⟩
          go_wp2_with fail
          refine (HT.out _).mono ?_
          rintro e' w1 ⟨rfl, rfl⟩
          go_wp2
          go_ret3
          rw [HE.out, HP.out]
          exact ⟨rfl, rfl⟩
      · have hn1 : ((s.size : Int) == 1) = true := by simp; omega
        have e1 := drop_end s 1 h1
        have e : innerL (bl s) = ([], 0, 9) := by
          unfold innerL
          rw [hf, if_neg (by decide), e0, e1]
          show (if s[0].toNat = 92 then _ else _) = _
          rw [if_pos (by have := beq_iff_eq.1 h92; omega)]
        have HE := Lib.hid e
        clear e e0 e1 hf
        go_enter Tryd.func62, Tryd.ntmps62
        go_wp2_with fail
        refine (HF.out _).mono ?_
        rintro e' w1 ⟨rfl, rfl⟩
        go_wp2
        go_ret3
        rw [HE.out]
        exact ⟨rfl, rfl⟩
    · have h92f : ((s[0].toNat : Int) == 92) = false := by simpa using h92
      have h92' : ((s[0].toNat : Int) != 92) = true := by simpa using h92
      have h8 : s[0].toNat < 256 := s[0].toNat_lt
      have HT := Lib.hid (fun W => text_any (s[0].toNat : Int) W (by omega) (by omega))
      have e : innerL (bl s) = if tx s[0] = true then ([s[0]], 1, 0) else ([], 0, 3) := by
        unfold innerL
        rw [hf, if_neg (by decide), e0]
        cases (bl s).drop (0 + 1) with
        | nil =>
          show (if s[0].toNat = 92 then _ else _) = _
          rw [if_neg (by have := beq_eq_false_iff_ne.1 h92f; omega)]
        | cons c t =>
          show (if s[0].toNat = 92 then _ else _) = _
          rw [if_neg (by have := beq_eq_false_iff_ne.1 h92f; omega)]
      clear h92
      cases ht : tx s[0]
      · rw [ht, if_neg (by decide)] at e
        have HE := Lib.hid e
        rw [show txN (s[0].toNat : Int).toNat = false from ht] at HT
        clear e e0 ht hf
        go_enter Tryd.func62, Tryd.ntmps62
        go_wp2_with fail
        refine (HF.out _).mono ?_
        rintro e' w1 ⟨rfl, rfl⟩
        go_wp2_with fail
        refine (HT.out _).mono ?_
        rintro e' w1 ⟨rfl, rfl⟩
        go_wp2
        go_ret3
        rw [HE.out]
        exact ⟨rfl, rfl⟩
      · rw [ht, if_pos rfl] at e
        have HE := Lib.hid e
        rw [show txN (s[0].toNat : Int).toNat = true from ht] at HT
        have HP := Lib.hid (show s.extract 0 1 = ba [s[0]] by rw [str_part, List.drop_zero, e0]; rfl)
        clear e e0 ht hf
        go_enter Tryd.func62, Tryd.ntmps62
        go_wp2_with fail
        refine (HF.out _).mono ?_
        rintro e' w1 ⟨rfl, rfl⟩
        go_wp2_with fail
        refine (HT.out _).mono ?_
        rintro e' w1 ⟨rfl, rfl⟩
        go_wp2
        go_ret3
        rw [HE.out, HP.out]
        exact ⟨rfl, rfl⟩
  · rw [hf] at HF
    have HE := Lib.hid (inner_fold hf)
    clear hf
    go_enter Tryd.func62, Tryd.ntmps62
    go_wp2_with fail
    refine (HF.out _).mono ?_
    rintro e' w1 ⟨rfl, rfl⟩
    go_wp2
    go_ret3
    rw [HE.out]
    exact ⟨rfl, rfl⟩

/-- How many bytes an atom takes. -/
def atomN (l : List UInt8) : Nat := (l.takeWhile am).length
theorem atomN_le (l : List UInt8) : atomN l ≤ l.length := List.Sublist.length_le (List.takeWhile_sublist am)
theorem atomN_take (l : List UInt8) : l.take (atomN l) = l.takeWhile am := by
  have := List.takeWhile_append_dropWhile (p := am) (l := l)
  unfold atomN
  generalize List.takeWhile am l = x at *
  rw [← this, List.take_left' rfl]
theorem atomN_drop (l : List UInt8) : l.drop (atomN l) = l.dropWhile am := by
  have := List.takeWhile_append_dropWhile (p := am) (l := l)
  unfold atomN
  generalize List.takeWhile am l = x at *
  generalize List.dropWhile am l = y at *
  rw [← this, List.drop_left' rfl]
theorem atomN_all (l : List UInt8) : ∀ c ∈ l.take (atomN l), am c = true := by
  rw [atomN_take]
  have := List.all_takeWhile (p := am) (l := l)
  exact List.all_eq_true.1 this
theorem atomN_end (l : List UInt8) : ∀ c t, l.drop (atomN l) = c :: t → am c = false := by
  intro c t h
  rw [atomN_drop] at h
  have := List.head?_dropWhile_not (p := am) (l := l)
  rw [h] at this
  simpa using this
theorem atomN_stop {l : List UInt8} {k : Nat} {c : UInt8} {t : List UInt8} (h : ∀ d ∈ l.take k, am d = true) (hk : l.drop k = c :: t) (hc : am c = false) : atomN l = k := by
  have e : l = l.take k ++ c :: t := by rw [← hk, List.take_append_drop]
  have hl : k < l.length := by
    rcases Nat.lt_or_ge k l.length with h1 | h1
    · exact h1
    · rw [List.drop_eq_nil_of_le h1] at hk; cases hk
  have : l.takeWhile am = l.take k := by
    conv => lhs; rw [e]
    rw [List.takeWhile_append_of_pos h, List.takeWhile_cons_of_neg (by rw [hc]; decide), List.append_nil]
  unfold atomN
  rw [this, List.length_take]
  omega
theorem atomN_full {l : List UInt8} (h : ∀ d ∈ l, am d = true) : atomN l = l.length := by
  have := List.takeWhile_append_of_pos (l₂ := []) h
  rw [List.append_nil, List.takeWhile_nil, List.append_nil] at this
  unfold atomN
  rw [this]
theorem atom_all (l : List UInt8) : (atomN l = l.length) ↔ ∀ d ∈ l, am d = true := by
  constructor
  · intro h
    have := atomN_all l
    rw [h, List.take_length] at this
    exact this
  · exact atomN_full
theorem take_all {l : List UInt8} {k : Nat} {c : UInt8} {t : List UInt8} {p : UInt8 → Bool} (h : ∀ d ∈ l.take k, p d = true) (hk : l.drop k = c :: t) (hc : p c = true) : ∀ d ∈ l.take (k + 1), p d = true := by
  intro d hd
  have hl : k < l.length := by
    rcases Nat.lt_or_ge k l.length with h1 | h1
    · exact h1
    · rw [List.drop_eq_nil_of_le h1] at hk; cases hk
  rw [List.take_succ_eq_append_getElem hl] at hd
  rw [List.drop_eq_getElem_cons hl] at hk
  obtain ⟨e, _⟩ := List.cons.inj hk
  rcases List.mem_append.1 hd with h1 | h1
  · exact h d h1
  · rw [List.mem_singleton.1 h1, e]; exact hc
set_option maxRecDepth 100000 in
set_option maxHeartbeats 1000000 in
theorem atomSize_any (s : ByteArray) (w : World) (hs : s.size ≤ 1000000000) :
    Calls Tryd.prog 43 #[.string s] w fun e w' => e = .returned (.int .i64 (atomN (bl s))) ∧ w = w' := by
  go_enter Tryd.func43, Tryd.ntmps43
  go_wp2_with fail
  go_step3
  go_wp2_with fail
  go_step3
  go_wp2_with fail
  go_loopw [3] (fun i wr => ∃ k : Nat, k ≤ s.size ∧ i = .int .i64 k ∧ Hid (∀ d ∈ (bl s).take k, am d = true) ∧ wr = w) (fun i _ => s.size - (intOf i).toNat)
  case atStart => exact ⟨0, Nat.zero_le _, rfl, Lib.hid (by simp), rfl⟩
  case round =>
    obtain ⟨k, hk, rfl, hall, rfl⟩ := hrel
    by_cases hlt : k < s.size
    · have h8 : s[k].toNat < 256 := s[k].toNat_lt
      have HA := Lib.hid (fun W => atom_any (s[k].toNat : Int) W (by omega) (by omega))
      have hd := drop_cons s k hlt
      cases ha : am s[k]
      · rw [show amN (s[k].toNat : Int).toNat = false from ha] at HA
        have HE := Lib.hid (atomN_stop hall.out hd ha)
        clear ha hd
        go_wp2_with fail
        refine (HA.out _).mono ?_
        rintro e' w1 ⟨rfl, rfl⟩
        go_wp2
        rw [Exit.noGoto_ret]
        go_ret
        rw [HE.out]
        exact ⟨rfl, rfl⟩
      · rw [show amN (s[k].toNat : Int).toNat = true from ha] at HA
        have HN := Lib.hid (take_all hall.out hd ha)
        clear ha hd
        go_wp2_with fail
        refine (HA.out _).mono ?_
        rintro e' w1 ⟨rfl, rfl⟩
        go_wp2
        go_roundw
        case rel => exact ⟨k + 1, by omega, by simp, HN, trivial⟩
        case measure => simp [intOf]; omega
    · have HE : Hid (atomN (bl s) = k) := Lib.hid (by
        have h1 : (bl s).take k = bl s := List.take_of_length_le (by rw [bl_len]; omega)
        have h2 := hall.out
        rw [h1] at h2
        rw [atomN_full h2, bl_len]
        omega)
      go_wp2
      rw [Exit.noGoto_ret]
      go_ret
      rw [HE.out]
      exact ⟨rfl, rfl⟩
set_option maxRecDepth 100000 in
set_option maxHeartbeats 1000000 in
theorem isAtom_any (s : ByteArray) (w : World) (hs : s.size ≤ 1000000000) :
    Calls Tryd.prog 31 #[.string s] w fun e w' => e = .returned (.bool (atomB (bl s))) ∧ w = w' := by
  have HA := Lib.hid (fun W => atomSize_any s W hs)
  by_cases h0 : s.size = 0
  · have hq : s.toList.isEmpty = true := by
      rw [Lib.toList_data, List.isEmpty_iff]
      exact List.length_eq_zero_iff.1 (by rw [bl_len]; exact h0)
    have HE : Hid (atomB (bl s) = false) := Lib.hid (by
      have : bl s = [] := List.length_eq_zero_iff.1 (by rw [bl_len]; exact h0)
      rw [this]; rfl)
    go_enter Tryd.func31, Tryd.ntmps31
    go_wp2
    go_ret
    rw [HE.out]
    exact ⟨rfl, rfl⟩
  · have hq : s.toList.isEmpty = false := by
      rw [Lib.toList_data, List.isEmpty_eq_false_iff]
      intro e
      exact h0 (by rw [← bl_len, show bl s = [] from e]; rfl)
    have hne : bl s ≠ [] := by intro e; exact h0 (by rw [← bl_len, e]; rfl)
    have hle := atomN_le (bl s)
    rw [bl_len] at hle
    cases hb : atomB (bl s)
    · have hE : atomN (bl s) ≠ s.size := by
        intro e
        have h1 : ∀ d ∈ bl s, am d = true := (atom_all (bl s)).1 (by rw [e, bl_len])
        rw [atomB_iff.2 ⟨hne, h1⟩] at hb
        cases hb
      have he : ((atomN (bl s) : Int) == (s.size : Int)) = false := by
        rw [beq_eq_false_iff_ne]; omega
      clear hb
      generalize atomN (bl s) = n at *
      go_enter Tryd.func31, Tryd.ntmps31
      go_wp2_with fail
      refine (HA.out _).mono ?_
      rintro e' w1 ⟨rfl, rfl⟩
      go_wp2
      go_ret
      exact ⟨rfl, rfl⟩
    · have hE : atomN (bl s) = s.size := by
        rw [← bl_len]
        exact (atom_all (bl s)).2 (atomB_iff.1 hb).2
      rw [hE] at HA
      clear hb hE hle
      go_enter Tryd.func31, Tryd.ntmps31
      go_wp2_with fail
      refine (HA.out _).mono ?_
      rintro e' w1 ⟨rfl, rfl⟩
      go_wp2
      go_ret
      exact ⟨rfl, rfl⟩
end Go.Proofs.YtklmhjoiffaniaaDoor.Lex
