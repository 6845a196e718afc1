/-
  Walks of the document's tests of bytes: Text, among, atomic; its IsAtom, Quote, Word.
-/
import Derived.Test.YtklmhjoiffaniaaDoorLexSame
namespace Go.Proofs.YtklmhjoiffaniaaDoor.Lex
open Go Go.RowKit

set_option maxRecDepth 100000 in
set_option maxHeartbeats 400000 in
theorem refText_any (c : Int) (w : World) (_h0 : 0 ≤ c) (_h1 : c < 256) :
    Calls Tryd.prog 46 #[.int .u8 c] w fun e w' => e = .returned (.bool (txN c.toNat)) ∧ w = w' := by
  have e : Hid (txN c.toNat = ((c == 9) || (decide (32 ≤ c) && decide (c ≤ 126)) || decide (127 < c))) := Lib.hid (by
    unfold txN
    rw [Bool.eq_iff_iff]
    simp only [Bool.or_eq_true, Bool.and_eq_true, beq_iff_eq, decide_eq_true_eq, Bool.not_eq_true', beq_eq_false_iff_ne]
    omega)
  cases h1 : (c == 9) <;> cases h2 : decide (32 ≤ c) <;> cases h3 : decide (c ≤ 126) <;> cases h4 : decide (127 < c)
  all_goals
    rw [h1, h2, h3, h4] at e
    go_enter Tryd.func46, Tryd.ntmps46
    go_wp2
    go_ret
    exact ⟨by rw [e.out]; rfl, rfl⟩
theorem among_stop {l : List UInt8} {k : Nat} {d : UInt8} {n : Nat} (hk : l[k]? = some d) (h : d.toNat = n) : (l.map UInt8.toNat).contains n = true := by
  rw [List.contains_iff_mem]
  exact List.mem_map.2 ⟨d, List.mem_of_getElem? hk, h⟩
set_option maxRecDepth 100000 in
set_option maxHeartbeats 1000000 in
theorem among_any (c : Nat) (s : ByteArray) (w : World) (_hc : c < 256) (hs : s.size ≤ 1000) :
    Calls Tryd.prog 48 #[.int .u8 c, .string s] w fun e w' => e = .returned (.bool (((bl s).map UInt8.toNat).contains c)) ∧ w = w' := by
  go_enter Tryd.func48, Tryd.ntmps48
  go_wp2_with fail
  go_loopw [5] (fun i wr => ∃ k : Nat, k ≤ s.size ∧ i = .int .i64 k ∧ Hid (∀ d ∈ (bl s).take k, d.toNat ≠ c) ∧ wr = w) (fun i _ => s.size - (intOf i).toNat)
  case atStart => exact ⟨0, Nat.zero_le _, rfl, Lib.hid (by simp), rfl⟩
  case round =>
    obtain ⟨k, hk, rfl, hall, rfl⟩ := hrel
    by_cases hlt : k < s.size
    · have h8 : s[k].toNat < 256 := s[k].toNat_lt
      have hd := drop_cons s k hlt
      by_cases he : s[k].toNat = c
      · have t1 : ((s[k].toNat : Int) == (c : Int)) = true := by rw [he]; exact beq_self_eq_true _
        have HE := Lib.hid (among_stop (l := bl s) (k := k) (d := s[k]) (n := c) (by
          rw [List.getElem?_eq_getElem (by rw [bl_len]; exact hlt)]; rfl) he)
        clear hd
        go_wp2_with fail
        go_ret
        rw [HE.out]
        exact ⟨rfl, rfl⟩
      · have t1 : ((s[k].toNat : Int) == (c : Int)) = false := by rw [beq_eq_false_iff_ne]; omega
        have HN := Lib.hid (show ∀ d ∈ (bl s).take (k + 1), d.toNat ≠ c from fun d hdm => by
          have := take_all (p := fun d => !(d.toNat == c)) (fun d h => by simpa using hall.out d h) hd (by simpa using he) d hdm
          simpa using this)
        clear hd he
        go_wp2_with fail
        go_roundw
        case rel => exact ⟨k + 1, by omega, by simp, HN, trivial⟩
        case measure => simp [intOf]; omega
    · have HE : Hid (((bl s).map UInt8.toNat).contains c = false) := Lib.hid (by
        have h := hall.out
        rw [List.take_of_length_le (by rw [bl_len]; omega)] at h
        rw [← Bool.not_eq_true, List.contains_iff_mem]
        intro hm
        obtain ⟨d, hd, rfl⟩ := List.mem_map.1 hm
        exact h d hd rfl)
      go_wp2_with fail
      go_ret
      rw [HE.out]
      exact ⟨rfl, rfl⟩
def nonB : ByteArray := ⟨#[40, 41, 60, 62, 91, 93, 58, 59, 64, 44, 46, 92, 34]⟩
theorem non_atom (n : Nat) (hn : n < 256) : (decide (127 < n) || (decide (32 < n) && decide (n < 127) && !((bl nonB).map UInt8.toNat).contains n)) = amN n := by
  have := all256 (p := fun n => (decide (127 < n) || (decide (32 < n) && decide (n < 127) && !((bl nonB).map UInt8.toNat).contains n)) == amN n) (by decide +kernel) n hn
  exact beq_iff_eq.1 this
theorem spec_list (n : Nat) : ((bl specB).map UInt8.toNat).contains n = spN n := rfl
set_option maxRecDepth 100000 in
set_option maxHeartbeats 1000000 in
theorem refAtomic_any (c : Nat) (w : World) (hc : c < 256) :
    Calls Tryd.prog 47 #[.int .u8 c] w fun e w' => e = .returned (.bool (amN c)) ∧ w = w' := by
  have HA := Lib.hid (fun W => among_any c nonB W hc (by decide))
  have HE := Lib.hid (non_atom c hc)
  generalize ((bl nonB).map UInt8.toNat).contains c = m at *
  by_cases h1 : 127 < c
  · have t1 : decide ((127 : Int) < (c : Int)) = true := decide_eq_true (by omega)
    have t1' : decide (127 < c) = true := decide_eq_true (by omega)
    have HX : Hid (amN c = true) := Lib.hid (by rw [← HE.out, t1']; rfl)
    clear t1'
    go_enter Tryd.func47, Tryd.ntmps47
    go_wp2_with fail
    go_ret
    exact ⟨ret_bool HX.out.symm, rfl⟩
  · have t1 : decide ((127 : Int) < (c : Int)) = false := decide_eq_false (by omega)
    have t1' : decide (127 < c) = false := decide_eq_false (by omega)
    by_cases h2 : 32 < c
    · have t2 : decide ((32 : Int) < (c : Int)) = true := decide_eq_true (by omega)
      have t2' : decide (32 < c) = true := decide_eq_true (by omega)
      by_cases h3 : c < 127
      · have t3 : decide ((c : Int) < 127) = true := decide_eq_true (by omega)
        have t3' : decide (c < 127) = true := decide_eq_true (by omega)
        have HX : Hid (amN c = !m) := Lib.hid (by rw [← HE.out, t1', t2', t3']; simp)
        clear t1' t2' t3'
        go_enter Tryd.func47, Tryd.ntmps47
        go_wp2_with fail
        refine (HA.out _).mono ?_
        rintro e' w1 ⟨rfl, rfl⟩
        go_wp2_with fail
        go_ret
        exact ⟨ret_bool HX.out.symm, rfl⟩
      · have t3 : decide ((c : Int) < 127) = false := decide_eq_false (by omega)
        have t3' : decide (c < 127) = false := decide_eq_false (by omega)
        have HX : Hid (amN c = false) := Lib.hid (by rw [← HE.out, t1', t2', t3']; simp)
        clear t1' t2' t3'
        go_enter Tryd.func47, Tryd.ntmps47
        go_wp2_with fail
        go_ret
        exact ⟨ret_bool HX.out.symm, rfl⟩
    · have t2 : decide ((32 : Int) < (c : Int)) = false := decide_eq_false (by omega)
      have t2' : decide (32 < c) = false := decide_eq_false (by omega)
      have HX : Hid (amN c = false) := Lib.hid (by rw [← HE.out, t1', t2']; simp)
      clear t1' t2'
      go_enter Tryd.func47, Tryd.ntmps47
      go_wp2_with fail
      go_ret
      exact ⟨ret_bool HX.out.symm, rfl⟩
set_option maxRecDepth 100000 in
set_option maxHeartbeats 1000000 in
theorem refIsAtom_any (s : ByteArray) (w : World) (hs : s.size ≤ 1000000000) :
    Calls Tryd.prog 34 #[.string s] w fun e w' => e = .returned (.bool (atomB (bl s))) ∧ w = w' := by
  by_cases h0 : s.size = 0
  · have hq : s.toList.isEmpty = true := by
      rw [Lib.toList_data, List.isEmpty_iff]
      exact List.length_eq_zero_iff.1 (by rw [bl_len]; exact h0)
    have HE : Hid (atomB (bl s) = false) := Lib.hid (by
      have : bl s = [] := List.length_eq_zero_iff.1 (by rw [bl_len]; exact h0)
      rw [this]; rfl)
    go_enter Tryd.func34, Tryd.ntmps34
    go_wp2_with fail
    go_ret
    rw [HE.out]
    exact ⟨rfl, rfl⟩
  · have hq : s.toList.isEmpty = false := by
      rw [Lib.toList_data, List.isEmpty_eq_false_iff]
      intro e
      exact h0 (by rw [← bl_len, show bl s = [] from e]; rfl)
    have HNE : Hid (bl s ≠ []) := Lib.hid (by intro e; exact h0 (by rw [← bl_len, e]; rfl))
    go_enter Tryd.func34, Tryd.ntmps34
    go_wp2_with fail
    go_loopw [3] (fun i wr => ∃ k : Nat, k ≤ s.size ∧ i = .int .i64 k ∧ Hid (∀ d ∈ (bl s).take k, am d = true) ∧ wr = w) (fun i _ => s.size - (intOf i).toNat)
    case atStart => exact ⟨0, Nat.zero_le _, rfl, Lib.hid (by simp), rfl⟩
    case round =>
      obtain ⟨k, hk, rfl, hall, rfl⟩ := hrel
      by_cases hlt : k < s.size
      · have h8 : s[k].toNat < 256 := s[k].toNat_lt
        have HA := Lib.hid (fun W => refAtomic_any s[k].toNat W h8)
        have hd := drop_cons s k hlt
        cases ha : am s[k]
        · rw [show amN s[k].toNat = false from ha] at HA
          have HE : Hid (atomB (bl s) = false) := Lib.hid (by
            rw [← Bool.not_eq_true, atomB_iff]
            rintro ⟨_, h⟩
            have := h s[k] (by
              have : s[k] ∈ (bl s).drop k := by rw [hd]; simp
              exact List.mem_of_mem_drop this)
            rw [ha] at this
            cases this)
          clear ha hd
          go_wp2_with fail
          refine (HA.out _).mono ?_
          rintro e' w1 ⟨rfl, rfl⟩
          go_wp2_with fail
          go_ret
          rw [HE.out]
          exact ⟨rfl, rfl⟩
        · rw [show amN s[k].toNat = true from ha] at HA
          have HN := Lib.hid (take_all hall.out hd ha)
          clear ha hd
          go_wp2_with fail
          refine (HA.out _).mono ?_
          rintro e' w1 ⟨rfl, rfl⟩
          go_wp2_with fail
          go_roundw
          case rel => exact ⟨k + 1, by omega, by simp, HN, trivial⟩
          case measure => simp [intOf]; omega
      · have HE : Hid (atomB (bl s) = true) := Lib.hid (by
          have h := hall.out
          rw [List.take_of_length_le (by rw [bl_len]; omega)] at h
          exact atomB_iff.2 ⟨HNE.out, h⟩)
        go_wp2_with fail
        go_ret
        rw [HE.out]
        exact ⟨rfl, rfl⟩
theorem ba_app (a b : List UInt8) : ba a ++ ba b = ba (a ++ b) := by
  apply ByteArray.ext
  rw [ByteArray.data_append]
  simp
theorem one_str (s : ByteArray) (k : Nat) (h : k < s.size) : s.extract k (k + 1) = ba [s[k]] := by
  rw [str_part, drop_cons s k h, show k + 1 - k = 1 by omega]
  rfl
def RQAt (l : List UInt8) (k : Nat) (acc : List UInt8) : Prop := acc ++ body (l.drop k) = body l
theorem RQAt.next {l : List UInt8} {k : Nat} {acc : List UInt8} {c : UInt8} {t q : List UInt8} (h : RQAt l k acc) (hd : l.drop k = c :: t) (hq : qbyte c = q) (ht : l.drop (k + 1) = t) : RQAt l (k + 1) (acc ++ q) := by
  unfold RQAt at *
  rw [ht, ← h, hd]
  show acc ++ q ++ body t = acc ++ (qbyte c ++ body t)
  rw [hq]
  simp
theorem bs_one (c : UInt8) : (⟨#[92]⟩ : ByteArray) ++ ba [c] = ba [92, c] := by
  rw [show (⟨#[92]⟩ : ByteArray) = ba [92] from rfl, ba_app]
  rfl
theorem qm_both (l : List UInt8) : (⟨#[34]⟩ : ByteArray) ++ ba (body l) ++ ⟨#[34]⟩ = ba (quoteL l) := by
  rw [show (⟨#[34]⟩ : ByteArray) = ba [34] from rfl, ba_app, ba_app]
  simp [quoteL]
set_option maxRecDepth 100000 in
set_option maxHeartbeats 2000000 in
theorem refQuote_any (s : ByteArray) (w : World) (hs : s.size ≤ 1000000) :
    Calls Tryd.prog 35 #[.string s] w fun e w' => e = .returned (.string (ba (quoteL (bl s)))) ∧ w = w' := by
  go_enter Tryd.func35, Tryd.ntmps35
  go_wp2_with fail
  go_loopw [3, 4] (fun o i wr => ∃ (k : Nat) (acc : List UInt8), k ≤ s.size ∧ i = .int .i64 k ∧ o = .string (ba acc) ∧ acc.length ≤ 2 * k ∧ Hid (RQAt (bl s) k acc) ∧ wr = w) (fun _ i _ => s.size - (intOf i).toNat)
  case atStart => exact ⟨0, [], by omega, rfl, rfl, by simp, Lib.hid (by unfold RQAt; rfl), rfl⟩
  case round =>
    obtain ⟨k, acc, hk, rfl, rfl, hal, hI, rfl⟩ := hrel
    by_cases hlt : k < s.size
    · have hdc := drop_cons s k hlt
      have h8 : s[k].toNat < 256 := s[k].toNat_lt
      have HT := Lib.hid (fun W => refText_any (s[k].toNat : Int) W (by omega) (by omega))
      have hnx := fun q hq => hI.out.next (q := q) hdc hq rfl
      have hx1 := one_str s k hlt
      have hsz : (ba acc).size = acc.length := ba_size acc
      have hz1 : (ba [s[k]]).size = 1 := rfl
      have hz2 : (ba [92, s[k]]).size = 2 := rfl
      cases ht : tx s[k]
      · rw [show txN (s[k].toNat : Int).toNat = false from ht] at HT
        have t34 : ((s[k].toNat : Int) == 34) = false := by
          rw [beq_eq_false_iff_ne]
          intro h
          have : s[k] = 34 := UInt8.toNat.inj (by show s[k].toNat = 34; omega)
          rw [this] at ht
          cases ht
        have t92 : ((s[k].toNat : Int) == 92) = false := by
          rw [beq_eq_false_iff_ne]
          intro h
          have : s[k] = 92 := UInt8.toNat.inj (by show s[k].toNat = 92; omega)
          rw [this] at ht
          cases ht
        have hq : qbyte s[k] = [32] := by
          have h1 := beq_eq_false_iff_ne.1 t34
          have h2 := beq_eq_false_iff_ne.1 t92
          unfold qbyte; rw [if_neg (by omega), ht, if_neg (by decide)]
        have HE := Lib.hid (hnx _ hq)
        have HJ := Lib.hid (show ba acc ++ ⟨#[32]⟩ = ba (acc ++ [32]) from ba_app acc [32])
        clear hnx hdc hq ht hI hz2
        generalize ba acc = o at *
        generalize s.extract k (k + 1) = x at *
        go_wp2_with fail
        refine (HT.out _).mono ?_
        rintro e' w1 ⟨rfl, rfl⟩
        go_wp2_with fail
        go_roundw
        case rel => exact ⟨k + 1, _, by omega, by simp, by rw [HJ.out], by rw [List.length_append]; simp; omega, HE, trivial⟩
        case measure => simp [intOf]; omega
      · rw [show txN (s[k].toNat : Int).toNat = true from ht] at HT
        by_cases h2 : s[k].toNat = 34 ∨ s[k].toNat = 92
        · have hq : qbyte s[k] = [92, s[k]] := by unfold qbyte; rw [if_pos h2]
          have HE := Lib.hid (hnx _ hq)
          have HJ := Lib.hid (show ba acc ++ ba [92, s[k]] = ba (acc ++ [92, s[k]]) from ba_app acc _)
          have hy := bs_one s[k]
          clear hnx hdc hq ht hI
          generalize ba acc = o at *
          generalize ba [92, s[k]] = y at *
          generalize ba [s[k]] = x at *
          rcases h2 with h2 | h2
          · have t34 : ((s[k].toNat : Int) == 34) = true := by rw [h2]; rfl
            have H2 := Lib.hid h2
            clear h2
            go_wp2_with fail
            refine (HT.out _).mono ?_
            rintro e' w1 ⟨rfl, rfl⟩
            go_wp2_with fail
            go_roundw
            case rel => exact ⟨k + 1, _, by omega, by simp, by rw [HJ.out], by rw [List.length_append]; simp; omega, HE, trivial⟩
            case measure => simp [intOf]; omega
          · have t34 : ((s[k].toNat : Int) == 34) = false := by rw [beq_eq_false_iff_ne]; omega
            have t92 : ((s[k].toNat : Int) == 92) = true := by rw [h2]; rfl
            have H2 := Lib.hid h2
            clear h2
            go_wp2_with fail
            refine (HT.out _).mono ?_
            rintro e' w1 ⟨rfl, rfl⟩
            go_wp2_with fail
            go_roundw
            case rel => exact ⟨k + 1, _, by omega, by simp, by rw [HJ.out], by rw [List.length_append]; simp; omega, HE, trivial⟩
            case measure => simp [intOf]; omega
        · have hq : qbyte s[k] = [s[k]] := by unfold qbyte; rw [if_neg h2, ht, if_pos rfl]
          have HE := Lib.hid (hnx _ hq)
          have HJ := Lib.hid (show ba acc ++ ba [s[k]] = ba (acc ++ [s[k]]) from ba_app acc _)
          have t34 : ((s[k].toNat : Int) == 34) = false := by rw [beq_eq_false_iff_ne]; omega
          have t92 : ((s[k].toNat : Int) == 92) = false := by rw [beq_eq_false_iff_ne]; omega
          clear hnx hdc hq ht hI hz2
          generalize ba acc = o at *
          generalize ba [s[k]] = x at *
          go_wp2_with fail
          refine (HT.out _).mono ?_
          rintro e' w1 ⟨rfl, rfl⟩
          go_wp2_with fail
          go_roundw
          case rel => exact ⟨k + 1, _, by omega, by simp, by rw [HJ.out], by rw [List.length_append]; simp; omega, HE, trivial⟩
          case measure => simp [intOf]; omega
    · have hX : acc = body (bl s) := by
        have h := hI.out
        unfold RQAt at h
        rw [drop_end s k hlt, show body [] = [] from rfl, List.append_nil] at h
        exact h
      have HX := Lib.hid (show (⟨#[34]⟩ : ByteArray) ++ ba acc ++ ⟨#[34]⟩ = ba (quoteL (bl s)) by rw [hX]; exact qm_both _)
      have hsz : (ba acc).size = acc.length := ba_size acc
      clear hI hX
      generalize ba acc = o at *
      go_wp2_with fail
      go_ret
      rw [← HX.out]
      exact ⟨rfl, rfl⟩
end Go.Proofs.YtklmhjoiffaniaaDoor.Lex
