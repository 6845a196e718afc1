/-
  Walks of the document lex.
-/
import Derived.Test.YtegbkfloiiilfaaGreatDoorMgLexB
import Derived.Deep.CutRange
import Derived.Outline

/-
  Walks of the document's tests of bytes: Text, among, atomic; its IsAtom, Quote, Word.
-/
namespace Go.Proofs.YtegbkfloiiilfaaGreatDoor.Lex
open Go Go.RowKit

set_option maxRecDepth 100000 in
set_option maxHeartbeats 400000 in
theorem refText_any (c : Int) (w : World) (_h0 : 0 ≤ c) (_h1 : c < 256) :
    Calls Tryz.prog 103 #[.int .u8 c] w fun e w' => e = .returned (.bool (txN c.toNat)) ∧ w = w' := by
  have e : Hid (txN c.toNat = ((c == 9) || (decide (32 ≤ c) && decide (c ≤ 126)) || decide (127 < c))) := Lib.hid (by
    unfold txN
    rw [Bool.eq_iff_iff]
    simp only [Bool.or_eq_true, Bool.and_eq_true, beq_iff_eq, decide_eq_true_eq, Bool.not_eq_true', beq_eq_false_iff_ne]
    omega)
  cases h1 : (c == 9) <;> cases h2 : decide (32 ≤ c) <;> cases h3 : decide (c ≤ 126) <;> cases h4 : decide (127 < c)
  all_goals
    rw [h1, h2, h3, h4] at e
    go_enter Tryz.func103, Tryz.ntmps103
    go_wp2
    go_ret
    exact ⟨by rw [e.out]; rfl, rfl⟩
theorem among_stop {l : List UInt8} {k : Nat} {d : UInt8} {n : Nat} (hk : l[k]? = some d) (h : d.toNat = n) : (l.map UInt8.toNat).contains n = true := by
  rw [List.contains_iff_mem]
  exact List.mem_map.2 ⟨d, List.mem_of_getElem? hk, h⟩
set_option maxRecDepth 100000 in
set_option maxHeartbeats 1000000 in
theorem among_any (c : Nat) (s : ByteArray) (w : World) (_hc : c < 256) (hs : s.size ≤ 1000) :
    Calls Tryz.prog 105 #[.int .u8 c, .string s] w fun e w' => e = .returned (.bool (((bl s).map UInt8.toNat).contains c)) ∧ w = w' := by
  go_enter Tryz.func105, Tryz.ntmps105
  go_wp2_with fail
  go_loopw [5] (fun i wr => ∃ k : Nat, k ≤ s.size ∧ i = .int .i64 k ∧ Hid (∀ d ∈ (bl s).take k, d.toNat ≠ c) ∧ wr = w) (fun i _ => s.size - (intOf i).toNat)
  case atStart => exact ⟨0, Nat.zero_le _, rfl, Lib.hid (by simp), rfl⟩
  case round =>
    obtain ⟨k, hk, rfl, hall, rfl⟩ := hrel
    by_cases hlt : k < s.size
    · have h8 : s[k].toNat < 256 := s[k].toNat_lt
      have hd := drop_cons s k hlt
      by_cases he : s[k].toNat = c
      · have t1 : ((s[k].toNat : Int) == (c : Int)) = true := by rw [he]; exact beq_self_eq_true _
        have HE := Lib.hid (among_stop (l := bl s) (k := k) (d := s[k]) (n := c) (by
          rw [List.getElem?_eq_getElem (by rw [bl_len]; exact hlt)]; rfl) he)
        clear hd
        go_wp2_with fail
        go_ret
        rw [HE.out]
        exact ⟨rfl, rfl⟩
      · have t1 : ((s[k].toNat : Int) == (c : Int)) = false := by rw [beq_eq_false_iff_ne]; omega
        have HN := Lib.hid (show ∀ d ∈ (bl s).take (k + 1), d.toNat ≠ c from fun d hdm => by
          have := take_all (p := fun d => !(d.toNat == c)) (fun d h => by simpa using hall.out d h) hd (by simpa using he) d hdm
          simpa using this)
        clear hd he
        go_wp2_with fail
        go_roundw
        case rel => exact ⟨k + 1, by omega, by simp, HN, trivial⟩
        case measure => simp [intOf]; omega
    · have HE : Hid (((bl s).map UInt8.toNat).contains c = false) := Lib.hid (by
        have h := hall.out
        rw [List.take_of_length_le (by rw [bl_len]; omega)] at h
        rw [← Bool.not_eq_true, List.contains_iff_mem]
        intro hm
        obtain ⟨d, hd, rfl⟩ := List.mem_map.1 hm
        exact h d hd rfl)
      go_wp2_with fail
      go_ret
      rw [HE.out]
      exact ⟨rfl, rfl⟩
def nonB : ByteArray := ⟨#[40, 41, 60, 62, 91, 93, 58, 59, 64, 44, 46, 92, 34]⟩
theorem non_atom (n : Nat) (hn : n < 256) : (decide (127 < n) || (decide (32 < n) && decide (n < 127) && !((bl nonB).map UInt8.toNat).contains n)) = amN n := by
  have := all256 (p := fun n => (decide (127 < n) || (decide (32 < n) && decide (n < 127) && !((bl nonB).map UInt8.toNat).contains n)) == amN n) (by decide +kernel) n hn
  exact beq_iff_eq.1 this
theorem spec_list (n : Nat) : ((bl specB).map UInt8.toNat).contains n = spN n := rfl
set_option maxRecDepth 100000 in
set_option maxHeartbeats 1000000 in
theorem refAtomic_any (c : Nat) (w : World) (hc : c < 256) :
    Calls Tryz.prog 104 #[.int .u8 c] w fun e w' => e = .returned (.bool (amN c)) ∧ w = w' := by
  have HA := Lib.hid (fun W => among_any c nonB W hc (by decide))
  have HE := Lib.hid (non_atom c hc)
  generalize ((bl nonB).map UInt8.toNat).contains c = m at *
  by_cases h1 : 127 < c
  · have t1 : decide ((127 : Int) < (c : Int)) = true := decide_eq_true (by omega)
    have t1' : decide (127 < c) = true := decide_eq_true (by omega)
    have HX : Hid (amN c = true) := Lib.hid (by rw [← HE.out, t1']; rfl)
    clear t1'
    go_enter Tryz.func104, Tryz.ntmps104
    go_wp2_with fail
    go_ret
    exact ⟨ret_bool HX.out.symm, rfl⟩
  · have t1 : decide ((127 : Int) < (c : Int)) = false := decide_eq_false (by omega)
    have t1' : decide (127 < c) = false := decide_eq_false (by omega)
    by_cases h2 : 32 < c
    · have t2 : decide ((32 : Int) < (c : Int)) = true := decide_eq_true (by omega)
      have t2' : decide (32 < c) = true := decide_eq_true (by omega)
      by_cases h3 : c < 127
      · have t3 : decide ((c : Int) < 127) = true := decide_eq_true (by omega)
        have t3' : decide (c < 127) = true := decide_eq_true (by omega)
        have HX : Hid (amN c = !m) := Lib.hid (by rw [← HE.out, t1', t2', t3']; simp)
        clear t1' t2' t3'
        go_enter Tryz.func104, Tryz.ntmps104
        go_wp2_with fail
        refine (HA.out _).mono ?_
        rintro e' w1 ⟨rfl, rfl⟩
        go_wp2_with fail
        go_ret
        exact ⟨ret_bool HX.out.symm, rfl⟩
      · have t3 : decide ((c : Int) < 127) = false := decide_eq_false (by omega)
        have t3' : decide (c < 127) = false := decide_eq_false (by omega)
        have HX : Hid (amN c = false) := Lib.hid (by rw [← HE.out, t1', t2', t3']; simp)
        clear t1' t2' t3'
        go_enter Tryz.func104, Tryz.ntmps104
        go_wp2_with fail
        go_ret
        exact ⟨ret_bool HX.out.symm, rfl⟩
    · have t2 : decide ((32 : Int) < (c : Int)) = false := decide_eq_false (by omega)
      have t2' : decide (32 < c) = false := decide_eq_false (by omega)
      have HX : Hid (amN c = false) := Lib.hid (by rw [← HE.out, t1', t2']; simp)
      clear t1' t2'
      go_enter Tryz.func104, Tryz.ntmps104
      go_wp2_with fail
      go_ret
      exact ⟨ret_bool HX.out.symm, rfl⟩
set_option maxRecDepth 100000 in
set_option maxHeartbeats 1000000 in
theorem refIsAtom_any (s : ByteArray) (w : World) (hs : s.size ≤ 1000000000) :
    Calls Tryz.prog 164 #[.string s] w fun e w' => e = .returned (.bool (atomB (bl s))) ∧ w = w' := by
  by_cases h0 : s.size = 0
  · have hq : s.toList.isEmpty = true := by
      rw [Lib.toList_data, List.isEmpty_iff]
      exact List.length_eq_zero_iff.1 (by rw [bl_len]; exact h0)
    have HE : Hid (atomB (bl s) = false) := Lib.hid (by
      have : bl s = [] := List.length_eq_zero_iff.1 (by rw [bl_len]; exact h0)
      rw [this]; rfl)
    go_enter Tryz.func164, Tryz.ntmps164
    go_wp2_with fail
    go_ret
    rw [HE.out]
    exact ⟨rfl, rfl⟩
  · have hq : s.toList.isEmpty = false := by
      rw [Lib.toList_data, List.isEmpty_eq_false_iff]
      intro e
      exact h0 (by rw [← bl_len, show bl s = [] from e]; rfl)
    have HNE : Hid (bl s ≠ []) := Lib.hid (by intro e; exact h0 (by rw [← bl_len, e]; rfl))
    go_enter Tryz.func164, Tryz.ntmps164
    go_wp2_with fail
    go_loopw [3] (fun i wr => ∃ k : Nat, k ≤ s.size ∧ i = .int .i64 k ∧ Hid (∀ d ∈ (bl s).take k, am d = true) ∧ wr = w) (fun i _ => s.size - (intOf i).toNat)
    case atStart => exact ⟨0, Nat.zero_le _, rfl, Lib.hid (by simp), rfl⟩
    case round =>
      obtain ⟨k, hk, rfl, hall, rfl⟩ := hrel
      by_cases hlt : k < s.size
      · have h8 : s[k].toNat < 256 := s[k].toNat_lt
        have HA := Lib.hid (fun W => refAtomic_any s[k].toNat W h8)
        have hd := drop_cons s k hlt
        cases ha : am s[k]
        · rw [show amN s[k].toNat = false from ha] at HA
          have HE : Hid (atomB (bl s) = false) := Lib.hid (by
            rw [← Bool.not_eq_true, atomB_iff]
            rintro ⟨_, h⟩
            have := h s[k] (by
              have : s[k] ∈ (bl s).drop k := by rw [hd]; simp
              exact List.mem_of_mem_drop this)
            rw [ha] at this
            cases this)
          clear ha hd
          go_wp2_with fail
          refine (HA.out _).mono ?_
          rintro e' w1 ⟨rfl, rfl⟩
          go_wp2_with fail
          go_ret
          rw [HE.out]
          exact ⟨rfl, rfl⟩
        · rw [show amN s[k].toNat = true from ha] at HA
          have HN := Lib.hid (take_all hall.out hd ha)
          clear ha hd
          go_wp2_with fail
          refine (HA.out _).mono ?_
          rintro e' w1 ⟨rfl, rfl⟩
          go_wp2_with fail
          go_roundw
          case rel => exact ⟨k + 1, by omega, by simp, HN, trivial⟩
          case measure => simp [intOf]; omega
      · have HE : Hid (atomB (bl s) = true) := Lib.hid (by
          have h := hall.out
          rw [List.take_of_length_le (by rw [bl_len]; omega)] at h
          exact atomB_iff.2 ⟨HNE.out, h⟩)
        go_wp2_with fail
        go_ret
        rw [HE.out]
        exact ⟨rfl, rfl⟩
theorem ba_app (a b : List UInt8) : ba a ++ ba b = ba (a ++ b) := by
  apply ByteArray.ext
  rw [ByteArray.data_append]
  simp
theorem one_str (s : ByteArray) (k : Nat) (h : k < s.size) : s.extract k (k + 1) = ba [s[k]] := by
  rw [str_part, drop_cons s k h, show k + 1 - k = 1 by omega]
  rfl
def RQAt (l : List UInt8) (k : Nat) (acc : List UInt8) : Prop := acc ++ body (l.drop k) = body l
theorem RQAt.next {l : List UInt8} {k : Nat} {acc : List UInt8} {c : UInt8} {t q : List UInt8} (h : RQAt l k acc) (hd : l.drop k = c :: t) (hq : qbyte c = q) (ht : l.drop (k + 1) = t) : RQAt l (k + 1) (acc ++ q) := by
  unfold RQAt at *
  rw [ht, ← h, hd]
  show acc ++ q ++ body t = acc ++ (qbyte c ++ body t)
  rw [hq]
  simp
theorem bs_one (c : UInt8) : (⟨#[92]⟩ : ByteArray) ++ ba [c] = ba [92, c] := by
  rw [show (⟨#[92]⟩ : ByteArray) = ba [92] from rfl, ba_app]
  rfl
theorem qm_both (l : List UInt8) : (⟨#[34]⟩ : ByteArray) ++ ba (body l) ++ ⟨#[34]⟩ = ba (quoteL l) := by
  rw [show (⟨#[34]⟩ : ByteArray) = ba [34] from rfl, ba_app, ba_app]
  simp [quoteL]
set_option maxRecDepth 100000 in
set_option maxHeartbeats 2000000 in
theorem refQuote_any (s : ByteArray) (w : World) (hs : s.size ≤ 1000000) :
    Calls Tryz.prog 154 #[.string s] w fun e w' => e = .returned (.string (ba (quoteL (bl s)))) ∧ w = w' := by
  go_enter Tryz.func154, Tryz.ntmps154
  go_wp2_with fail
  go_loopw [3, 4] (fun o i wr => ∃ (k : Nat) (acc : List UInt8), k ≤ s.size ∧ i = .int .i64 k ∧ o = .string (ba acc) ∧ acc.length ≤ 2 * k ∧ Hid (RQAt (bl s) k acc) ∧ wr = w) (fun _ i _ => s.size - (intOf i).toNat)
  case atStart => exact ⟨0, [], by omega, rfl, rfl, by simp, Lib.hid (by unfold RQAt; rfl), rfl⟩
  case round =>
    obtain ⟨k, acc, hk, rfl, rfl, hal, hI, rfl⟩ := hrel
    by_cases hlt : k < s.size
    · have hdc := drop_cons s k hlt
      have h8 : s[k].toNat < 256 := s[k].toNat_lt
      have HT := Lib.hid (fun W => refText_any (s[k].toNat : Int) W (by omega) (by omega))
      have hnx := fun q hq => hI.out.next (q := q) hdc hq rfl
      have hx1 := one_str s k hlt
      have hsz : (ba acc).size = acc.length := ba_size acc
      have hz1 : (ba [s[k]]).size = 1 := rfl
      have hz2 : (ba [92, s[k]]).size = 2 := rfl
      cases ht : tx s[k]
      · rw [show txN (s[k].toNat : Int).toNat = false from ht] at HT
        have t34 : ((s[k].toNat : Int) == 34) = false := by
          rw [beq_eq_false_iff_ne]
          intro h
          have : s[k] = 34 := UInt8.toNat.inj (by show s[k].toNat = 34; omega)
          rw [this] at ht
          cases ht
        have t92 : ((s[k].toNat : Int) == 92) = false := by
          rw [beq_eq_false_iff_ne]
          intro h
          have : s[k] = 92 := UInt8.toNat.inj (by show s[k].toNat = 92; omega)
          rw [this] at ht
          cases ht
        have hq : qbyte s[k] = [32] := by
          have h1 := beq_eq_false_iff_ne.1 t34
          have h2 := beq_eq_false_iff_ne.1 t92
          unfold qbyte; rw [if_neg (by omega), ht, if_neg (by decide)]
        have HE := Lib.hid (hnx _ hq)
        have HJ := Lib.hid (show ba acc ++ ⟨#[32]⟩ = ba (acc ++ [32]) from ba_app acc [32])
        clear hnx hdc hq ht hI hz2
        generalize ba acc = o at *
        generalize s.extract k (k + 1) = x at *
        go_wp2_with fail
        refine (HT.out _).mono ?_
        rintro e' w1 ⟨rfl, rfl⟩
        go_wp2_with fail
        go_roundw
        case rel => exact ⟨k + 1, _, by omega, by simp, by rw [HJ.out], by rw [List.length_append]; simp; omega, HE, trivial⟩
        case measure => simp [intOf]; omega
      · rw [show txN (s[k].toNat : Int).toNat = true from ht] at HT
        by_cases h2 : s[k].toNat = 34 ∨ s[k].toNat = 92
        · have hq : qbyte s[k] = [92, s[k]] := by unfold qbyte; rw [if_pos h2]
          have HE := Lib.hid (hnx _ hq)
          have HJ := Lib.hid (show ba acc ++ ba [92, s[k]] = ba (acc ++ [92, s[k]]) from ba_app acc _)
          have hy := bs_one s[k]
          clear hnx hdc hq ht hI
          generalize ba acc = o at *
          generalize ba [92, s[k]] = y at *
          generalize ba [s[k]] = x at *
          rcases h2 with h2 | h2
          · have t34 : ((s[k].toNat : Int) == 34) = true := by rw [h2]; rfl
            have H2 := Lib.hid h2
            clear h2
            go_wp2_with fail
            refine (HT.out _).mono ?_
            rintro e' w1 ⟨rfl, rfl⟩
            go_wp2_with fail
            go_roundw
            case rel => exact ⟨k + 1, _, by omega, by simp, by rw [HJ.out], by rw [List.length_append]; simp; omega, HE, trivial⟩
            case measure => simp [intOf]; omega
          · have t34 : ((s[k].toNat : Int) == 34) = false := by rw [beq_eq_false_iff_ne]; omega
            have t92 : ((s[k].toNat : Int) == 92) = true := by rw [h2]; rfl
            have H2 := Lib.hid h2
            clear h2
            go_wp2_with fail
            refine (HT.out _).mono ?_
            rintro e' w1 ⟨rfl, rfl⟩
            go_wp2_with fail
            go_roundw
            case rel => exact ⟨k + 1, _, by omega, by simp, by rw [HJ.out], by rw [List.length_append]; simp; omega, HE, trivial⟩
            case measure => simp [intOf]; omega
        · have hq : qbyte s[k] = [s[k]] := by unfold qbyte; rw [if_neg h2, ht, if_pos rfl]
          have HE := Lib.hid (hnx _ hq)
          have HJ := Lib.hid (show ba acc ++ ba [s[k]] = ba (acc ++ [s[k]]) from ba_app acc _)
          have t34 : ((s[k].toNat : Int) == 34) = false := by rw [beq_eq_false_iff_ne]; omega
          have t92 : ((s[k].toNat : Int) == 92) = false := by rw [beq_eq_false_iff_ne]; omega
          clear hnx hdc hq ht hI hz2
          generalize ba acc = o at *
          generalize ba [s[k]] = x at *
          go_wp2_with fail
          refine (HT.out _).mono ?_
          rintro e' w1 ⟨rfl, rfl⟩
          go_wp2_with fail
          go_roundw
          case rel => exact ⟨k + 1, _, by omega, by simp, by rw [HJ.out], by rw [List.length_append]; simp; omega, HE, trivial⟩
          case measure => simp [intOf]; omega
    · have hX : acc = body (bl s) := by
        have h := hI.out
        unfold RQAt at h
        rw [drop_end s k hlt, show body [] = [] from rfl, List.append_nil] at h
        exact h
      have HX := Lib.hid (show (⟨#[34]⟩ : ByteArray) ++ ba acc ++ ⟨#[34]⟩ = ba (quoteL (bl s)) by rw [hX]; exact qm_both _)
      have hsz : (ba acc).size = acc.length := ba_size acc
      clear hI hX
      generalize ba acc = o at *
      go_wp2_with fail
      go_ret
      rw [← HX.out]
      exact ⟨rfl, rfl⟩
end Go.Proofs.YtegbkfloiiilfaaGreatDoor.Lex

/-
  Walk of the document's Scan.
-/
namespace Go.Proofs.YtegbkfloiiilfaaGreatDoor.Lex
open Go Go.RowKit

def whereOf : Md → Int
  | .z => 0 | .a _ => 1 | .q _ => 2 | .qb _ => 2 | .c _ => 3 | .cb _ => 3
def deepOf : Md → Int
  | .c d => d | .cb d => d | _ => 0
def behindOf : Md → Bool
  | .qb _ => true | .cb _ => true | _ => false
def DeepOk : Md → Prop
  | .c d => 1 ≤ d ∧ d ≤ 16 | .cb d => 1 ≤ d ∧ d ≤ 16 | _ => True
/-- The four variables that tell where the scan stands. -/
structure IsM (q : Md) (o : ByteArray) (p d : Int) (b : Bool) : Prop where
  o : o = ba q.word
  p : p = whereOf q
  d : d = deepOf q
  b : b = behindOf q
  ok : DeepOk q
def RI (l : List UInt8) (k : Nat) (q : Md) (out : List Tk) : Prop := sc false q out (l.drop k) = scan l
theorem fold_at (s : ByteArray) (k : Nat) (h : k + 2 < s.size) : fold ((bl s).drop k) = (s[k].toNat == 13 && (s[k + 1].toNat == 10 && bkN s[k + 2].toNat)) := by
  rw [drop_cons s k (by omega), drop_cons s (k + 1) (by omega), drop_cons s (k + 1 + 1) (by omega)]
  rfl
theorem fold_off (s : ByteArray) (k : Nat) (h : ¬ k + 2 < s.size) : fold ((bl s).drop k) = false := fold_short (by rw [List.length_drop, bl_len]; omega)
theorem sc_foldq (w : List UInt8) (out : List Tk) (l : List UInt8) (h : fold l = true) : sc false (.q w) out l = sc false (.q w) out (l.drop 2) := by
  obtain ⟨c, d, e, t, rfl, h1, h2, h3⟩ := fold_cons h
  rw [sc_q, if_pos h, sc_true]
  rfl
theorem sc_foldc (d : Nat) (out : List Tk) (l : List UInt8) (h : fold l = true) : sc false (.c d) out l = sc false (.c d) out (l.drop 2) := by
  obtain ⟨c, d, e, t, rfl, h1, h2, h3⟩ := fold_cons h
  rw [sc_c, if_pos h, sc_true]
  rfl
theorem ri_fold {s : ByteArray} {k : Nat} {q q' : Md} {out out' : List Tk} (hI : RI (bl s) k q out) (h : sc false q out ((bl s).drop k) = sc false q' out' (((bl s).drop k).drop 2)) : RI (bl s) (k + 2) q' out' := by
  unfold RI at *
  rw [← hI, h, List.drop_drop]
/-- The ways to a fold, and past one, at a carriage return. -/
theorem fold_ways (s : ByteArray) (k : Nat) (hk : k < s.size) (h13 : s[k].toNat = 13) :
    (∃ h : k + 2 < s.size, s[k + 1].toNat = 10 ∧ s[k + 2].toNat = 32 ∧ fold ((bl s).drop k) = true) ∨
    (∃ h : k + 2 < s.size, s[k + 1].toNat = 10 ∧ s[k + 2].toNat = 9 ∧ fold ((bl s).drop k) = true) ∨
    (¬ k + 2 < s.size ∧ fold ((bl s).drop k) = false) ∨
    (∃ h : k + 2 < s.size, s[k + 1].toNat ≠ 10 ∧ fold ((bl s).drop k) = false) ∨
    (∃ h : k + 2 < s.size, s[k + 1].toNat = 10 ∧ s[k + 2].toNat ≠ 32 ∧ s[k + 2].toNat ≠ 9 ∧ fold ((bl s).drop k) = false) := by
  by_cases h : k + 2 < s.size
  · have hf := fold_at s k h
    by_cases h10 : s[k + 1].toNat = 10
    · by_cases h32 : s[k + 2].toNat = 32
      · exact .inl ⟨h, h10, h32, by rw [hf, h13, h10, h32]; rfl⟩
      · by_cases h9 : s[k + 2].toNat = 9
        · exact .inr (.inl ⟨h, h10, h9, by rw [hf, h13, h10, h9]; rfl⟩)
        · refine .inr (.inr (.inr (.inr ⟨h, h10, h32, h9, ?_⟩)))
          rw [hf]
          unfold bkN
          simp [h32, h9]
    · refine .inr (.inr (.inr (.inl ⟨h, h10, ?_⟩)))
      rw [hf]
      simp [h10]
  · exact .inr (.inr (.inl ⟨h, fold_off s k h⟩))
theorem TokAt.add {w W : World} {n c : Nat} {a : Option Addr} {toks : List Tk} (h : TokAt rfT w W (.slice a n c) toks) (hn : toks.length = n) (y : Tk) (hl : n ≤ 100000000) :
    ∃ a' c' w', (Builtin.append_ #[rfsT, rfsT] rfsT #[.slice a n c, .slice (some ⟨W.heap.size, 0, none⟩) 1 1]).run Tryz.prog (W.alloc (boxT rfT y)) = .ok (.slice a' (n + 1) c') w' ∧
      Hid (TokAt rfT w w' (.slice a' (n + 1) c') (toks ++ [y])) := by
  have ho := h.1
  rw [hn] at ho
  obtain ⟨a', c', w', hr, hh⟩ := append_oneF n hn W w.heap.size (.slice a n c) y ho hl h.2.size
  refine ⟨a', c', w', hr, Lib.hid ⟨?_, h.2.trans hh.out.2⟩⟩
  rw [List.length_append, hn]
  exact hh.out.1
theorem ba_empty : (⟨#[]⟩ : ByteArray) = ba [] := rfl
def bOf (q : Md) (bm : Bool) : Bool := match q with | .a _ => !bm | _ => false
theorem bOf_true {q : Md} {bm : Bool} (h : true = bOf q bm) : ∃ w0, q = .a w0 ∧ bm = false := by
  cases q with
  | a w0 => exact ⟨w0, rfl, by cases bm; rfl; cases h⟩
  | z => cases h
  | q w => cases h
  | qb w => cases h
  | c d => cases h
  | cb d => cases h
theorem bOf_false {q : Md} {bm : Bool} (h : false = bOf q bm) (w0 : List UInt8) (e : q = .a w0) : bm = true := by
  subst e
  cases bm
  · cases h
  · rfl
/-- Behind the flush of an atom that has ended: where the scan stands, what there is. -/
structure Mid (l : List UInt8) (w wx : World) (k : Nat) (bm : Bool) (q : Md) (out : List Tk) (o : ByteArray) (p d : Int) (ov : Value) : Prop where
  ri : RI l k q out
  tok : TokAt rfT w wx ov out
  is_ : IsM q o p d false
  atm : ∀ w0, q = .a w0 → bm = true
  word : q.word.length ≤ k
  len : out.length ≤ 2 * k + 1
theorem Mid.on {l : List UInt8} {w wx w' : World} {k : Nat} {bm : Bool} {q : Md} {out : List Tk} {o : ByteArray} {p d : Int} {ov : Value} (h : Mid l w wx k bm q out o p d ov) (hb : Below wx.heap.size wx w') : Mid l w w' k bm q out o p d ov :=
  ⟨h.ri, h.tok.on hb, h.is_, h.atm, h.word, h.len⟩
theorem Mid.folds {s : ByteArray} {w wx : World} {k : Nat} {bm : Bool} {q : Md} {out : List Tk} {o : ByteArray} {p d : Int} {ov : Value} (h : Mid (bl s) w wx k bm q out o p d ov) (hf : fold ((bl s).drop k) = true) (hlt : k < s.size) (hbm : am s[k] = bm) : RI (bl s) (k + 2) q out := by
  refine ri_fold h.ri ?_
  cases q with
  | z => exact sc_fold out _ hf
  | a w0 =>
    obtain ⟨c, d, e, t, h1, h2, _, _⟩ := fold_cons hf
    rw [drop_cons s k hlt] at h1
    obtain ⟨rfl, _⟩ := List.cons.inj h1
    have := h.atm w0 rfl
    rw [← hbm] at this
    exact absurd this (am_ne (.inr (.inr h2)))
  | q w0 => exact sc_foldq w0 out _ hf
  | c n => exact sc_foldc n out _ hf
  | qb w0 => cases h.is_.b
  | cb n => cases h.is_.b
set_option maxRecDepth 100000 in
set_option maxHeartbeats 80000000 in
theorem refScan_any (s : ByteArray) (w : World) (hs : s.size ≤ 1000000) :
    Calls Tryz.prog 79 #[.string s] w (ScanPost (bl s) w) := by
  have HI : Hid (RI (bl s) 0 .z []) := Lib.hid rfl
  have HS := Lib.hid (TokAt.start rfT w)
  go_enter Tryz.func79, Tryz.ntmps79
  go_wp2_with fail
  go_loopw [4, 5, 6, 7, 8, 9] (fun ov wv pv dv bv i wr => ∃ (k : Nat) (q : Md) (out : List Tk) (o : ByteArray) (p d : Int) (bh : Bool), k ≤ s.size ∧ i = .int .i64 k ∧ wv = .string o ∧ pv = .int .i64 p ∧ dv = .int .i64 d ∧ bv = .bool bh ∧ Hid (IsM q o p d bh) ∧ q.word.length ≤ k ∧ out.length ≤ 2 * k ∧ Hid (RI (bl s) k q out) ∧ Hid (TokAt rfT w wr ov out)) (fun _ _ _ _ _ i _ => s.size - (intOf i).toNat)
  case atStart => exact ⟨0, .z, [], ⟨#[]⟩, 0, 0, false, by omega, rfl, rfl, rfl, rfl, rfl, Lib.hid ⟨rfl, rfl, rfl, rfl, trivial⟩, by simp [Md.word], by simp, HI, HS⟩
  case round =>
    clear HI HS
    obtain ⟨k, q, out, o, p, d, bh, hk, rfl, rfl, rfl, rfl, rfl, hM, hwl, htl, hI, hT⟩ := hrel
    obtain ⟨ta, tc, rfl⟩ := owns_slice hT.out.1
    obtain ⟨n, hn⟩ : ∃ n, out.length = n := ⟨_, rfl⟩
    rw [hn] at htl hT ⊢
    have HN := Lib.hid hn
    clear hn
    by_cases hlt : k < s.size
    · have hdc := drop_cons s k hlt
      have h8 : s[k].toNat < 256 := s[k].toNat_lt
      have hx1 := one_str s k hlt
      have HT := Lib.hid (fun W => refText_any (s[k].toNat : Int) W (by omega) (by omega))
      have HA := Lib.hid (fun W => refAtomic_any s[k].toNat W h8)
      have HSP := Lib.hid (fun W => among_any s[k].toNat specB W h8 (by decide))
      rw [spec_list] at HSP
      have hsc : sc false q out (s[k] :: (bl s).drop (k + 1)) = scan (bl s) := by rw [← hdc]; exact hI.out
      have hz1 : (ba [s[k]]).size = 1 := rfl
      obtain ⟨bm, hbm⟩ : ∃ b, am s[k] = b := ⟨_, rfl⟩
      obtain ⟨bs, hbs⟩ : ∃ b, sp s[k] = b := ⟨_, rfl⟩
      obtain ⟨bt, hbt⟩ : ∃ b, tx s[k] = b := ⟨_, rfl⟩
      rw [show txN (s[k].toNat : Int).toNat = bt from hbt] at HT
      rw [show amN s[k].toNat = bm from hbm] at HA
      rw [show spN s[k].toNat = bs from hbs] at HSP
      have hfne : s[k].toNat ≠ 13 → fold ((bl s).drop k) = false := fun h => by rw [hdc]; exact fold_ne h
      have HFN := Lib.hid hfne
      clear hfne
      cases hbh : behindOf q
      · obtain rfl : bh = false := hM.out.b.trans hbh
        obtain ⟨B, hB⟩ : ∃ B : Bool, B = bOf q bm := ⟨_, rfl⟩
        have HBB := Lib.hid hB
        clear hB
        go_upto_region 16 with (fail)
        go_cut [39] from 33 to 39 (fun bv wx => bv = .bool B ∧ wx = wr)
        case first =>
          cases q with
          | z =>
            obtain rfl : p = 0 := hM.out.p
            go_wp2_with fail
            go_meet
            exact ⟨by rw [HBB.out]; rfl, rfl⟩
          | a w0 =>
            obtain rfl : p = 1 := hM.out.p
            go_wp2_with fail
            refine (HA.out _).mono ?_
            rintro e' w2 ⟨rfl, rfl⟩
            go_wp2_with fail
            go_meet
            exact ⟨by rw [HBB.out]; rfl, rfl⟩
          | q w0 =>
            obtain rfl : p = 2 := hM.out.p
            go_wp2_with fail
            go_meet
            exact ⟨by rw [HBB.out]; rfl, rfl⟩
          | qb w0 => cases hbh
          | c n0 =>
            obtain rfl : p = 3 := hM.out.p
            go_wp2_with fail
            go_meet
            exact ⟨by rw [HBB.out]; rfl, rfl⟩
          | cb n0 => cases hbh
        case rest =>
          obtain ⟨rfl, rfl⟩ := hcut
          go_upto_if 39 with (fail)
          go_cut [4, 5, 6] from 33 to 44 (fun ov wv pv wx => ∃ (q1 : Md) (out1 : List Tk) (o1 : ByteArray) (p1 : Int), wv = .string o1 ∧ pv = .int .i64 p1 ∧ Hid (Mid (bl s) w wx k bm q1 out1 o1 p1 d ov))
          case first =>
            cases B
            · go_wp2_with fail
              go_meet
              exact ⟨q, out, o, p, rfl, rfl, Lib.hid ⟨hI.out, hT.out, hM.out, fun w0 e => bOf_false HBB.out w0 e, hwl, by have := HN.out; omega⟩⟩
            · obtain ⟨w0, hq, hbf⟩ := bOf_true HBB.out
              obtain ⟨a', c', w4, hr, hh⟩ := TokAt.add hT.out HN.out ⟨1, o⟩ (by omega)
              have HR := Lib.hid hr
              have HMD : Hid (Mid (bl s) w w4 k bm .z (out ++ [⟨1, o⟩]) ⟨#[]⟩ 0 d (.slice a' (n + 1) c')) := Lib.hid (by
                subst hq
                refine ⟨?_, hh.out, ⟨rfl, rfl, hM.out.d, rfl, trivial⟩, fun w0 e => by (cases e), by simp [Md.word], ?_⟩
                · show sc false .z (out ++ [⟨1, o⟩]) ((bl s).drop k) = _
                  have h := hI.out
                  unfold RI at h
                  rw [← h, hM.out.o]
                  refine (sc_flush w0 out _ ?_).symm
                  intro c t e
                  rw [drop_cons s k hlt] at e
                  obtain ⟨rfl, _⟩ := List.cons.inj e
                  rw [hbm]
                  exact hbf
                · rw [List.length_append, HN.out]
                  simp only [List.length_singleton]
                  omega)
              clear hr hh
              go_wp2_with (at_builtin; refine Lib.wpList_append_run _ rfl _ _ _ _ rfl _ _ rfl rfl _ _ HR.out ?_)
              go_meet
              exact ⟨.z, _, _, _, rfl, rfl, HMD⟩
          case rest =>
            obtain ⟨q1, out1, o1, p1, rfl, rfl, hMD⟩ := hcut
            obtain ⟨fb, hfb⟩ : ∃ b : Bool, b = fold ((bl s).drop k) := ⟨_, rfl⟩
            have HFB := Lib.hid hfb
            clear hfb
            go_upto_region 20 with (fail)
            go_cut [74] from 45 to 74 (fun bv wx => bv = .bool fb ∧ wx = wc)
            case first =>
              clear hsc hx1 hbm hbs hbt hz1 hdc
              by_cases h13 : s[k].toNat = 13
              · have t13 : ((s[k].toNat : Int) == 13) = true := by rw [h13]; rfl
                rcases fold_ways s k hlt h13 with ⟨h2, h10, h32, hf⟩ | ⟨h2, h10, h9, hf⟩ | ⟨h2, hf⟩ | ⟨h2, h10, hf⟩ | ⟨h2, h10, h32, h9, hf⟩
                · have u10 : ((s[k + 1].toNat : Int) == 10) = true := by rw [h10]; rfl
                  have u32 : ((s[k + 2].toNat : Int) == 32) = true := by rw [h32]; rfl
                  have ul : decide ((k : Int) + 2 < (s.size : Int)) = true := decide_eq_true (by omega)
                  clear h10 h32 h13
                  go_wp2_with fail
                  go_meet
                  exact ⟨by rw [HFB.out, hf], rfl⟩
                · have u10 : ((s[k + 1].toNat : Int) == 10) = true := by rw [h10]; rfl
                  have u32 : ((s[k + 2].toNat : Int) == 32) = false := by rw [h9]; rfl
                  have u9 : ((s[k + 2].toNat : Int) == 9) = true := by rw [h9]; rfl
                  have ul : decide ((k : Int) + 2 < (s.size : Int)) = true := decide_eq_true (by omega)
                  clear h10 h9 h13
                  go_wp2_with fail
                  go_meet
                  exact ⟨by rw [HFB.out, hf], rfl⟩
                · have ul : decide ((k : Int) + 2 < (s.size : Int)) = false := decide_eq_false (by omega)
                  clear h13
                  go_wp2_with fail
                  go_meet
                  exact ⟨by rw [HFB.out, hf], rfl⟩
                · have u10 : ((s[k + 1].toNat : Int) == 10) = false := by rw [beq_eq_false_iff_ne]; omega
                  have ul : decide ((k : Int) + 2 < (s.size : Int)) = true := decide_eq_true (by omega)
                  clear h10 h13
                  go_wp2_with fail
                  go_meet
                  exact ⟨by rw [HFB.out, hf], rfl⟩
                · have u10 : ((s[k + 1].toNat : Int) == 10) = true := by rw [h10]; rfl
                  have u32 : ((s[k + 2].toNat : Int) == 32) = false := by rw [beq_eq_false_iff_ne]; omega
                  have u9 : ((s[k + 2].toNat : Int) == 9) = false := by rw [beq_eq_false_iff_ne]; omega
                  have ul : decide ((k : Int) + 2 < (s.size : Int)) = true := decide_eq_true (by omega)
                  clear h10 h32 h9 h13
                  go_wp2_with fail
                  go_meet
                  exact ⟨by rw [HFB.out, hf], rfl⟩
              · have t13 : ((s[k].toNat : Int) == 13) = false := by rw [beq_eq_false_iff_ne]; omega
                have hf := HFN.out h13
                go_wp2_with fail
                go_meet
                exact ⟨by rw [HFB.out, hf], rfl⟩
            case rest =>
              obtain ⟨rfl, rfl⟩ := hcut
              cases fb
              · have hff : fold (s[k] :: (bl s).drop (k + 1)) = false := by rw [← hdc]; exact HFB.out.symm
                have hri : sc false q1 out1 (s[k] :: (bl s).drop (k + 1)) = scan (bl s) := by rw [← hdc]; exact hMD.out.ri
                have hl1 := hMD.out.len
                have hw1 := hMD.out.word
                obtain ⟨oa, oc, hov⟩ := owns_slice hMD.out.tok.1
                obtain ⟨n1, hn1⟩ : ∃ n1, out1.length = n1 := ⟨_, rfl⟩
                rw [hn1] at hov hl1
                subst hov
                have HN1 := Lib.hid hn1
                clear hn1 hT HBB HFB hM hI hsc
                cases q1 with
                | z =>
                  obtain rfl : p1 = 0 := hMD.out.is_.p
                  obtain rfl : d = 0 := hMD.out.is_.d
                  obtain rfl : o1 = ⟨#[]⟩ := hMD.out.is_.o
                  cases bm
                  · by_cases h34 : s[k].toNat = 34
                    · have HE : Hid (RI (bl s) (k + 1) (.q []) out1) := Lib.hid ((sc_quote out1 _ _ h34).symm.trans hri)
                      have t34 : ((s[k].toNat : Int) == 34) = true := by rw [h34]; rfl
                      clear hri hff hdc hbm hbs hbt
                      clear h34
                      go_wp2_with fail
                      refine (HA.out _).mono ?_
                      rintro e' w2 ⟨rfl, rfl⟩
                      go_wp2_with fail
                      go_roundw
                      case rel => exact ⟨k + 1, .q [], out1, _, 2, 0, false, by omega, by simp, rfl, rfl, rfl, rfl, Lib.hid (⟨rfl, rfl, rfl, rfl, trivial⟩), by simp [Md.word], by have := HN1.out; omega, HE, Lib.hid (by have h := hMD.out.tok; exact h)⟩
                      case measure => simp [intOf]; omega
                    · by_cases h40 : s[k].toNat = 40
                      · have HE : Hid (RI (bl s) (k + 1) (.c 1) out1) := Lib.hid ((sc_paren out1 _ _ h40).symm.trans hri)
                        have t34 : ((s[k].toNat : Int) == 34) = false := by rw [beq_eq_false_iff_ne]; omega
                        have t40 : ((s[k].toNat : Int) == 40) = true := by rw [h40]; rfl
                        clear hri hff hdc hbm hbs hbt
                        clear h34 h40
                        go_wp2_with fail
                        refine (HA.out _).mono ?_
                        rintro e' w2 ⟨rfl, rfl⟩
                        go_wp2_with fail
                        go_roundw
                        case rel => exact ⟨k + 1, .c 1, out1, _, 3, 1, false, by omega, by simp, rfl, rfl, rfl, rfl, Lib.hid (⟨rfl, rfl, rfl, rfl, by decide, by decide⟩), by simp [Md.word], by have := HN1.out; omega, HE, Lib.hid (by have h := hMD.out.tok; exact h)⟩
                        case measure => simp [intOf]; omega
                      · cases bs
                        · by_cases h32 : s[k].toNat = 32
                          · have HE : Hid (RI (bl s) (k + 1) .z out1) := Lib.hid ((sc_blank out1 _ _ (by show bkN s[k].toNat = true; rw [h32]; rfl)).symm.trans hri)
                            have t34 : ((s[k].toNat : Int) == 34) = false := by rw [beq_eq_false_iff_ne]; omega
                            have t40 : ((s[k].toNat : Int) == 40) = false := by rw [beq_eq_false_iff_ne]; omega
                            have t32 : ((s[k].toNat : Int) != 32) = false := by rw [h32]; rfl
                            clear hri hff hdc hbm hbs hbt
                            clear h34 h40 h32
                            go_wp2_with fail
                            refine (HA.out _).mono ?_
                            rintro e' w2 ⟨rfl, rfl⟩
                            go_wp2_with fail
                            refine (HSP.out _).mono ?_
                            rintro e' w2 ⟨rfl, rfl⟩
                            go_wp2_with fail
                            go_roundw
                            case rel => exact ⟨k + 1, .z, out1, _, 0, 0, false, by omega, by simp, rfl, rfl, rfl, rfl, Lib.hid (⟨rfl, rfl, rfl, rfl, trivial⟩), by simp [Md.word], by have := HN1.out; omega, HE, Lib.hid (by have h := hMD.out.tok; exact h)⟩
                            case measure => simp [intOf]; omega
                          · by_cases h9 : s[k].toNat = 9
                            · have HE : Hid (RI (bl s) (k + 1) .z out1) := Lib.hid ((sc_blank out1 _ _ (by show bkN s[k].toNat = true; rw [h9]; rfl)).symm.trans hri)
                              have t34 : ((s[k].toNat : Int) == 34) = false := by rw [beq_eq_false_iff_ne]; omega
                              have t40 : ((s[k].toNat : Int) == 40) = false := by rw [beq_eq_false_iff_ne]; omega
                              have t32 : ((s[k].toNat : Int) != 32) = true := by rw [bne_iff_ne]; omega
                              have t9 : ((s[k].toNat : Int) != 9) = false := by rw [h9]; rfl
                              clear hri hff hdc hbm hbs hbt
                              clear h34 h40 h32 h9
                              go_wp2_with fail
                              refine (HA.out _).mono ?_
                              rintro e' w2 ⟨rfl, rfl⟩
                              go_wp2_with fail
                              refine (HSP.out _).mono ?_
                              rintro e' w2 ⟨rfl, rfl⟩
                              go_wp2_with fail
                              go_roundw
                              case rel => exact ⟨k + 1, .z, out1, _, 0, 0, false, by omega, by simp, rfl, rfl, rfl, rfl, Lib.hid (⟨rfl, rfl, rfl, rfl, trivial⟩), by simp [Md.word], by have := HN1.out; omega, HE, Lib.hid (by have h := hMD.out.tok; exact h)⟩
                              case measure => simp [intOf]; omega
                            · have HE : Hid (scan (bl s) = (3, [])) := Lib.hid (hri.symm.trans (sc_bad out1 _ _ (by show bkN s[k].toNat = false; unfold bkN; simp [h32, h9]) hff h40 h34 hbs hbm))
                              have t34 : ((s[k].toNat : Int) == 34) = false := by rw [beq_eq_false_iff_ne]; omega
                              have t40 : ((s[k].toNat : Int) == 40) = false := by rw [beq_eq_false_iff_ne]; omega
                              have t32 : ((s[k].toNat : Int) != 32) = true := by rw [bne_iff_ne]; omega
                              have t9 : ((s[k].toNat : Int) != 9) = true := by rw [bne_iff_ne]; omega
                              clear hri hff hdc hbm hbs hbt
                              clear h34 h40 h32 h9
                              go_wp2_with fail
                              refine (HA.out _).mono ?_
                              rintro e' w2 ⟨rfl, rfl⟩
                              go_wp2_with fail
                              refine (HSP.out _).mono ?_
                              rintro e' w2 ⟨rfl, rfl⟩
                              go_wp2_with fail
                              go_ret2
                              exact ScanPost.of HE.out (nil_readsT _) hMD.out.tok.2
                        · have HE : Hid (RI (bl s) (k + 1) .z (out1 ++ [⟨3, ba [s[k]]⟩])) := Lib.hid ((sc_special out1 _ _ hbs).symm.trans hri)
                          have t34 : ((s[k].toNat : Int) == 34) = false := by rw [beq_eq_false_iff_ne]; omega
                          have t40 : ((s[k].toNat : Int) == 40) = false := by rw [beq_eq_false_iff_ne]; omega
                          obtain ⟨a', c', w4, hr, hh⟩ := TokAt.add hMD.out.tok HN1.out ⟨3, ba [s[k]]⟩ (by omega)
                          have HR := Lib.hid hr
                          have HAD := Lib.hid hh.out
                          clear hr hh
                          clear hri hff hdc hbm hbs hbt
                          generalize ba [s[k]] = x at *
                          go_wp2_with fail
                          refine (HA.out _).mono ?_
                          rintro e' w2 ⟨rfl, rfl⟩
                          go_wp2_with fail
                          refine (HSP.out _).mono ?_
                          rintro e' w2 ⟨rfl, rfl⟩
                          go_wp2_with (at_builtin; refine Lib.wpList_append_run _ rfl _ _ _ _ rfl _ _ rfl rfl _ _ HR.out ?_)
                          go_wp2_with fail
                          go_roundw
                          case rel => exact ⟨k + 1, .z, _, _, 0, 0, false, by omega, by simp, rfl, rfl, rfl, rfl, Lib.hid (⟨rfl, rfl, rfl, rfl, trivial⟩), by simp [Md.word], by rw [List.length_append]; have := HN1.out; simp; omega, HE, Lib.hid (by have h := HAD.out; exact h)⟩
                          case measure => simp [intOf]; omega
                  · have HE : Hid (RI (bl s) (k + 1) (.a [s[k]]) out1) := Lib.hid (by show sc false (.a [s[k]]) out1 _ = _; rw [← hri, sc_free (q := .z) trivial, if_pos hbm]; rfl)
                    have HJ := Lib.hid (show (⟨#[]⟩ : ByteArray) ++ ba [s[k]] = ba [s[k]] by rw [ba_empty, ba_app]; rfl)
                    have hsz0 : (⟨#[]⟩ : ByteArray).size = 0 := rfl
                    clear hri hff hdc hbm hbs hbt
                    obtain ⟨x, hxx⟩ : ∃ x, x = ba [s[k]] := ⟨_, rfl⟩
                    rw [← hxx] at hx1 hz1 HJ
                    have HXX := Lib.hid hxx
                    clear hxx
                    go_wp2_with fail
                    refine (HA.out _).mono ?_
                    rintro e' w2 ⟨rfl, rfl⟩
                    go_wp2_with fail
                    go_roundw
                    case rel => exact ⟨k + 1, .a [s[k]], out1, _, 1, 0, false, by omega, by simp, rfl, rfl, rfl, rfl, Lib.hid (⟨by first | exact HJ.out.trans HXX.out | exact HXX.out, rfl, rfl, rfl, trivial⟩), by simp [Md.word], by have := HN1.out; omega, HE, Lib.hid (by have h := hMD.out.tok; exact h)⟩
                    case measure => simp [intOf]; omega
                | a w0 =>
                  obtain rfl : p1 = 1 := hMD.out.is_.p
                  obtain rfl : d = 0 := hMD.out.is_.d
                  obtain rfl : bm = true := hMD.out.atm w0 rfl
                  have HO : Hid (o1 = ba w0) := Lib.hid hMD.out.is_.o
                  have hso : o1.size ≤ k := by rw [HO.out, ba_size]; exact hw1
                  have HE : Hid (RI (bl s) (k + 1) (.a (w0 ++ [s[k]])) out1) := Lib.hid (by
                    show sc false (.a (w0 ++ [s[k]])) out1 _ = _
                    rw [← hri, sc_free (q := .a w0) trivial, if_pos hbm]
                    rfl)
                  have HJ := Lib.hid (show o1 ++ ba [s[k]] = ba (w0 ++ [s[k]]) by rw [HO.out, ba_app])
                  have hwl' : (w0 ++ [s[k]]).length ≤ k + 1 := by rw [List.length_append]; have : w0.length ≤ k := hw1; simp; omega
                  clear hri hff hdc hbm hbs hbt
                  generalize ba [s[k]] = x at *
                  go_wp2_with fail
                  refine (HA.out _).mono ?_
                  rintro e' w2 ⟨rfl, rfl⟩
                  go_wp2_with fail
                  go_roundw
                  case rel => exact ⟨k + 1, .a (w0 ++ [s[k]]), out1, _, 1, 0, false, by omega, by simp, rfl, rfl, rfl, rfl, Lib.hid (⟨HJ.out, rfl, rfl, rfl, trivial⟩), hwl', by have := HN1.out; omega, HE, Lib.hid (by have h := hMD.out.tok; exact h)⟩
                  case measure => simp [intOf]; omega
                | q w0 =>
                  obtain rfl : p1 = 2 := hMD.out.is_.p
                  obtain rfl : d = 0 := hMD.out.is_.d
                  have HO : Hid (o1 = ba w0) := Lib.hid hMD.out.is_.o
                  have hso : o1.size ≤ k := by rw [HO.out, ba_size]; exact hw1
                  by_cases h92 : s[k].toNat = 92
                  · have HE : Hid (RI (bl s) (k + 1) (.qb w0) out1) := Lib.hid (by show sc false (.qb w0) out1 _ = _; rw [← hri, sc_q, hff, if_neg (by decide), if_pos h92])
                    have t92 : ((s[k].toNat : Int) == 92) = true := by rw [h92]; rfl
                    clear hri hff hdc hbm hbs hbt
                    clear h92
                    go_wp2_with fail
                    go_roundw
                    case rel => exact ⟨k + 1, .qb w0, out1, o1, 2, 0, true, by omega, by simp, rfl, rfl, rfl, rfl, Lib.hid (⟨HO.out, rfl, rfl, rfl, trivial⟩), by have : w0.length ≤ k := hw1; show w0.length ≤ _; omega, by have := HN1.out; omega, HE, Lib.hid (by have h := hMD.out.tok; exact h)⟩
                    case measure => simp [intOf]; omega
                  · cases bt
                    · have HE : Hid (scan (bl s) = (3, [])) := Lib.hid (by rw [← hri, sc_q, hff, if_neg (by decide), if_neg h92, hbt, if_pos rfl])
                      have t92 : ((s[k].toNat : Int) == 92) = false := by rw [beq_eq_false_iff_ne]; omega
                      clear hri hff hdc hbm hbs hbt
                      clear h92
                      go_wp2_with fail
                      refine (HT.out _).mono ?_
                      rintro e' w2 ⟨rfl, rfl⟩
                      go_wp2_with fail
                      go_ret2
                      exact ScanPost.of HE.out (nil_readsT _) hMD.out.tok.2
                    · by_cases h34 : s[k].toNat = 34
                      · have HE : Hid (RI (bl s) (k + 1) .z (out1 ++ [⟨2, o1⟩])) := Lib.hid (by show sc false .z (out1 ++ [⟨2, o1⟩]) _ = _; rw [← hri, HO.out, sc_close _ _ _ _ h34])
                        have t92 : ((s[k].toNat : Int) == 92) = false := by rw [beq_eq_false_iff_ne]; omega
                        have t34 : ((s[k].toNat : Int) == 34) = true := by rw [h34]; rfl
                        obtain ⟨a', c', w4, hr, hh⟩ := TokAt.add hMD.out.tok HN1.out ⟨2, o1⟩ (by omega)
                        have HR := Lib.hid hr
                        have HAD := Lib.hid hh.out
                        clear hr hh
                        clear hri hff hdc hbm hbs hbt
                        clear h92 h34
                        go_wp2_with fail
                        refine (HT.out _).mono ?_
                        rintro e' w2 ⟨rfl, rfl⟩
                        go_wp2_with (at_builtin; refine Lib.wpList_append_run _ rfl _ _ _ _ rfl _ _ rfl rfl _ _ HR.out ?_)
                        go_wp2_with fail
                        go_roundw
                        case rel => exact ⟨k + 1, .z, _, _, 0, 0, false, by omega, by simp, rfl, rfl, rfl, rfl, Lib.hid (⟨rfl, rfl, rfl, rfl, trivial⟩), by simp [Md.word], by rw [List.length_append]; have := HN1.out; simp; omega, HE, Lib.hid (by have h := HAD.out; exact h)⟩
                        case measure => simp [intOf]; omega
                      · have HE : Hid (RI (bl s) (k + 1) (.q (w0 ++ [s[k]])) out1) := Lib.hid (by show sc false (.q (w0 ++ [s[k]])) out1 _ = _; rw [← hri, sc_q, hff, if_neg (by decide), if_neg h92, hbt, if_neg (by decide), if_neg h34])
                        have t92 : ((s[k].toNat : Int) == 92) = false := by rw [beq_eq_false_iff_ne]; omega
                        have t34 : ((s[k].toNat : Int) == 34) = false := by rw [beq_eq_false_iff_ne]; omega
                        have HJ := Lib.hid (show o1 ++ ba [s[k]] = ba (w0 ++ [s[k]]) by rw [HO.out, ba_app])
                        have hwl' : (w0 ++ [s[k]]).length ≤ k + 1 := by rw [List.length_append]; have : w0.length ≤ k := hw1; simp; omega
                        clear hri hff hdc hbm hbs hbt
                        clear h92 h34
                        generalize ba [s[k]] = x at *
                        go_wp2_with fail
                        refine (HT.out _).mono ?_
                        rintro e' w2 ⟨rfl, rfl⟩
                        go_wp2_with fail
                        go_roundw
                        case rel => exact ⟨k + 1, .q (w0 ++ [s[k]]), out1, _, 2, 0, false, by omega, by simp, rfl, rfl, rfl, rfl, Lib.hid (⟨HJ.out, rfl, rfl, rfl, trivial⟩), hwl', by have := HN1.out; omega, HE, Lib.hid (by have h := hMD.out.tok; exact h)⟩
                        case measure => simp [intOf]; omega
                | qb w0 => cases hMD.out.is_.b
                | c n0 =>
                  obtain rfl : p1 = 3 := hMD.out.is_.p
                  obtain rfl : d = (n0 : Int) := hMD.out.is_.d
                  have HO : Hid (o1 = ba []) := Lib.hid hMD.out.is_.o
                  have HD : Hid (1 ≤ n0 ∧ n0 ≤ 16) := Lib.hid hMD.out.is_.ok
                  obtain ⟨hd1, hd2⟩ := HD.out
                  by_cases h92 : s[k].toNat = 92
                  · have HE : Hid (RI (bl s) (k + 1) (.cb n0) out1) := Lib.hid (by show sc false (.cb n0) out1 _ = _; rw [← hri, sc_c, hff, if_neg (by decide), if_pos h92])
                    have t92 : ((s[k].toNat : Int) == 92) = true := by rw [h92]; rfl
                    clear hri hff hdc hbm hbs hbt
                    clear h92
                    go_wp2_with fail
                    go_roundw
                    case rel => exact ⟨k + 1, .cb n0, out1, o1, 3, n0, true, by omega, by simp, rfl, rfl, rfl, rfl, Lib.hid (⟨HO.out, rfl, rfl, rfl, HD.out⟩), by simp [Md.word], by have := HN1.out; omega, HE, Lib.hid (by have h := hMD.out.tok; exact h)⟩
                    case measure => simp [intOf]; omega
                  · cases bt
                    · have HE : Hid (scan (bl s) = (3, [])) := Lib.hid (by rw [← hri, sc_c, hff, if_neg (by decide), if_neg h92, hbt, if_pos rfl])
                      have t92 : ((s[k].toNat : Int) == 92) = false := by rw [beq_eq_false_iff_ne]; omega
                      clear hri hff hdc hbm hbs hbt
                      clear h92
                      go_wp2_with fail
                      refine (HT.out _).mono ?_
                      rintro e' w2 ⟨rfl, rfl⟩
                      go_wp2_with fail
                      go_ret2
                      exact ScanPost.of HE.out (nil_readsT _) hMD.out.tok.2
                    · by_cases h40 : s[k].toNat = 40
                      · by_cases h16 : n0 = 16
                        · have HE : Hid (scan (bl s) = (1, [])) := Lib.hid (by rw [← hri, sc_open _ _ _ _ h40, if_pos h16])
                          have t92 : ((s[k].toNat : Int) == 92) = false := by rw [beq_eq_false_iff_ne]; omega
                          have t40 : ((s[k].toNat : Int) == 40) = true := by rw [h40]; rfl
                          have t41 : ((s[k].toNat : Int) == 41) = false := by rw [beq_eq_false_iff_ne]; omega
                          subst h16
                          clear hri hff hdc hbm hbs hbt
                          clear h92 h40
                          go_wp2_with fail
                          refine (HT.out _).mono ?_
                          rintro e' w2 ⟨rfl, rfl⟩
                          go_wp2_with fail
                          go_ret2
                          exact ScanPost.of HE.out (nil_readsT _) hMD.out.tok.2
                        · have HE : Hid (RI (bl s) (k + 1) (.c (n0 + 1)) out1) := Lib.hid (by show sc false (.c (n0 + 1)) out1 _ = _; rw [← hri, sc_open _ _ _ _ h40, if_neg h16])
                          have t92 : ((s[k].toNat : Int) == 92) = false := by rw [beq_eq_false_iff_ne]; omega
                          have t40 : ((s[k].toNat : Int) == 40) = true := by rw [h40]; rfl
                          have t41 : ((s[k].toNat : Int) == 41) = false := by rw [beq_eq_false_iff_ne]; omega
                          have hg : decide ((16 : Int) < (n0 : Int) + 1) = false := decide_eq_false (by omega)
                          have h0 : (((n0 : Int) + 1) == 0) = false := by rw [beq_eq_false_iff_ne]; omega
                          clear hri hff hdc hbm hbs hbt
                          clear h92 h40
                          go_wp2_with fail
                          refine (HT.out _).mono ?_
                          rintro e' w2 ⟨rfl, rfl⟩
                          go_wp2_with fail
                          go_roundw
                          case rel => exact ⟨k + 1, .c (n0 + 1), out1, o1, 3, _, false, by omega, by simp, rfl, rfl, rfl, rfl, Lib.hid (⟨HO.out, rfl, by first | rfl | exact (Int.natCast_succ n0).symm | simp [deepOf], rfl, by omega, by omega⟩), by simp [Md.word], by have := HN1.out; omega, HE, Lib.hid (by have h := hMD.out.tok; exact h)⟩
                          case measure => simp [intOf]; omega
                      · by_cases h41 : s[k].toNat = 41
                        · by_cases h1 : n0 = 1
                          · have HE : Hid (RI (bl s) (k + 1) .z out1) := Lib.hid (by show sc false .z out1 _ = _; rw [← hri, sc_shut _ _ _ _ h41, if_pos h1])
                            have t92 : ((s[k].toNat : Int) == 92) = false := by rw [beq_eq_false_iff_ne]; omega
                            have t40 : ((s[k].toNat : Int) == 40) = false := by rw [beq_eq_false_iff_ne]; omega
                            have t41 : ((s[k].toNat : Int) == 41) = true := by rw [h41]; rfl
                            subst h1
                            clear hri hff hdc hbm hbs hbt
                            clear h92 h41 h40
                            go_wp2_with fail
                            refine (HT.out _).mono ?_
                            rintro e' w2 ⟨rfl, rfl⟩
                            go_wp2_with fail
                            go_roundw
                            case rel => exact ⟨k + 1, .z, out1, o1, 0, _, false, by omega, by simp, rfl, rfl, rfl, rfl, Lib.hid (⟨HO.out, rfl, by first | rfl | simp [deepOf], rfl, trivial⟩), by simp [Md.word], by have := HN1.out; omega, HE, Lib.hid (by have h := hMD.out.tok; exact h)⟩
                            case measure => simp [intOf]; omega
                          · obtain ⟨n2, rfl⟩ : ∃ n2, n0 = n2 + 1 := ⟨n0 - 1, by omega⟩
                            have HE : Hid (RI (bl s) (k + 1) (.c n2) out1) := Lib.hid (by show sc false (.c n2) out1 _ = _; rw [← hri, sc_shut _ _ _ _ h41, if_neg h1]; rfl)
                            have t92 : ((s[k].toNat : Int) == 92) = false := by rw [beq_eq_false_iff_ne]; omega
                            have t40 : ((s[k].toNat : Int) == 40) = false := by rw [beq_eq_false_iff_ne]; omega
                            have t41 : ((s[k].toNat : Int) == 41) = true := by rw [h41]; rfl
                            have hn2 : 1 ≤ n2 ∧ n2 ≤ 16 := by omega
                            have hg : decide ((16 : Int) < (n2 : Int)) = false := decide_eq_false (by omega)
                            have h0 : ((n2 : Int) == 0) = false := by rw [beq_eq_false_iff_ne]; omega
                            have hsub : (((n2 + 1 : Nat) : Int) - 1) = (n2 : Int) := by omega
                            clear hri hff hdc hbm hbs hbt
                            clear h92 h41 h40 h1
                            go_wp2_with fail
                            refine (HT.out _).mono ?_
                            rintro e' w2 ⟨rfl, rfl⟩
                            go_wp2_with fail
                            go_roundw
                            case rel => exact ⟨k + 1, .c n2, out1, o1, 3, _, false, by omega, by simp, rfl, rfl, rfl, rfl, Lib.hid (⟨HO.out, rfl, by first | rfl | (show _ = (n2 : Int); omega), rfl, hn2.1, hn2.2⟩), by simp [Md.word], by have := HN1.out; omega, HE, Lib.hid (by have h := hMD.out.tok; exact h)⟩
                            case measure => simp [intOf]; omega
                        · have HE : Hid (RI (bl s) (k + 1) (.c n0) out1) := Lib.hid (by show sc false (.c n0) out1 _ = _; rw [← hri, sc_c, hff, if_neg (by decide), if_neg h92, hbt, if_neg (by decide), if_neg h40, if_neg h41])
                          have t92 : ((s[k].toNat : Int) == 92) = false := by rw [beq_eq_false_iff_ne]; omega
                          have t40 : ((s[k].toNat : Int) == 40) = false := by rw [beq_eq_false_iff_ne]; omega
                          have t41 : ((s[k].toNat : Int) == 41) = false := by rw [beq_eq_false_iff_ne]; omega
                          have hg : decide ((16 : Int) < (n0 : Int)) = false := decide_eq_false (by omega)
                          have h0 : ((n0 : Int) == 0) = false := by rw [beq_eq_false_iff_ne]; omega
                          clear hri hff hdc hbm hbs hbt
                          clear h92 h41 h40
                          go_wp2_with fail
                          refine (HT.out _).mono ?_
                          rintro e' w2 ⟨rfl, rfl⟩
                          go_wp2_with fail
                          go_roundw
                          case rel => exact ⟨k + 1, .c n0, out1, o1, 3, n0, false, by omega, by simp, rfl, rfl, rfl, rfl, Lib.hid (⟨HO.out, rfl, rfl, rfl, HD.out⟩), by simp [Md.word], by have := HN1.out; omega, HE, Lib.hid (by have h := hMD.out.tok; exact h)⟩
                          case measure => simp [intOf]; omega
                | cb n0 => cases hMD.out.is_.b
              · have HE := Lib.hid (hMD.out.folds HFB.out.symm hlt hbm)
                have hk2 : k + 2 ≤ s.size := by
                  rcases Nat.lt_or_ge (k + 2) s.size with h | h
                  · omega
                  · have := HFB.out
                    rw [fold_off s k (by omega)] at this
                    cases this
                clear hsc hdc hbm hbs hbt
                go_wp2_with fail
                go_roundw
                case rel => exact ⟨k + 2, q1, out1, o1, p1, d, false, by omega, int_eq (by omega), rfl, rfl, rfl, rfl, Lib.hid hMD.out.is_, by have := hMD.out.word; omega, by have := hMD.out.len; omega, HE, Lib.hid hMD.out.tok⟩
                case measure => simp [intOf]; omega
      · obtain rfl : bh = true := hM.out.b.trans hbh
        cases q with
        | z => cases hbh
        | a w0 => cases hbh
        | q w0 => cases hbh
        | c n0 => cases hbh
        | qb w0 =>
          obtain rfl : p = 2 := hM.out.p
          obtain rfl : d = 0 := hM.out.d
          have HO : Hid (o = ba w0) := Lib.hid hM.out.o
          have hso : o.size ≤ k := by rw [HO.out, ba_size]; exact hwl
          have hsc2 : (if tx s[k] = true then sc false (.q (w0 ++ [s[k]])) out ((bl s).drop (k + 1)) else (3, [])) = scan (bl s) := hsc
          cases bt
          · have HE : Hid (scan (bl s) = (3, [])) := Lib.hid (by rw [← hsc2, hbt, if_neg (by decide)])
            clear hsc hsc2 hdc hbm hbs hbt hI hM hwl
            go_wp2_with fail
            refine (HT.out _).mono ?_
            rintro e' w2 ⟨rfl, rfl⟩
            go_wp2_with fail
            go_ret2
            exact ScanPost.of HE.out (nil_readsT _) hT.out.2
          · have HE : Hid (RI (bl s) (k + 1) (.q (w0 ++ [s[k]])) out) := Lib.hid (by
              rw [hbt, if_pos rfl] at hsc2
              exact hsc2)
            have hwl' : (w0 ++ [s[k]]).length ≤ k + 1 := by rw [List.length_append]; have : w0.length ≤ k := hwl; simp; omega
            have HJ := Lib.hid (show o ++ ba [s[k]] = ba (w0 ++ [s[k]]) by rw [HO.out, ba_app])
            have hT2 := Lib.hid hT.out
            clear hsc hsc2 hdc hbm hbs hbt hI hM hwl
            generalize ba [s[k]] = x at *
            go_wp2_with fail
            refine (HT.out _).mono ?_
            rintro e' w2 ⟨rfl, rfl⟩
            go_wp2_with fail
            go_roundw
            case rel => exact ⟨k + 1, .q (w0 ++ [s[k]]), out, _, 2, 0, false, by omega, by simp, rfl, rfl, rfl, rfl, Lib.hid (⟨HJ.out, rfl, rfl, rfl, trivial⟩), hwl', by have := HN.out; omega, HE, Lib.hid (by have h := hT.out; exact h)⟩
            case measure => simp [intOf]; omega
        | cb n0 =>
          obtain rfl : p = 3 := hM.out.p
          obtain rfl : d = (n0 : Int) := hM.out.d
          have HO : Hid (o = ba []) := Lib.hid hM.out.o
          have HD : Hid (1 ≤ n0 ∧ n0 ≤ 16) := Lib.hid hM.out.ok
          have hsc2 : (if tx s[k] = true then sc false (.c n0) out ((bl s).drop (k + 1)) else (3, [])) = scan (bl s) := hsc
          cases bt
          · have HE : Hid (scan (bl s) = (3, [])) := Lib.hid (by rw [← hsc2, hbt, if_neg (by decide)])
            clear hsc hsc2 hdc hbm hbs hbt hI hM
            go_wp2_with fail
            refine (HT.out _).mono ?_
            rintro e' w2 ⟨rfl, rfl⟩
            go_wp2_with fail
            go_ret2
            exact ScanPost.of HE.out (nil_readsT _) hT.out.2
          · have HE : Hid (RI (bl s) (k + 1) (.c n0) out) := Lib.hid (by
              rw [hbt, if_pos rfl] at hsc2
              exact hsc2)
            clear hsc hsc2 hdc hbm hbs hbt hI hM
            go_wp2_with fail
            refine (HT.out _).mono ?_
            rintro e' w2 ⟨rfl, rfl⟩
            go_wp2_with fail
            go_roundw
            case rel => exact ⟨k + 1, .c n0, out, o, 3, n0, false, by omega, by simp, rfl, rfl, rfl, rfl, Lib.hid (⟨HO.out, rfl, rfl, rfl, HD.out⟩), by simp [Md.word], by have := HN.out; omega, HE, Lib.hid (by have h := hT.out; exact h)⟩
            case measure => simp [intOf]; omega
    · obtain rfl : k = s.size := by omega
      have hri : sc false q out [] = scan (bl s) := by
        have h := hI.out
        unfold RI at h
        rwa [drop_end s s.size (by omega)] at h
      rw [sc_nil] at hri
      cases q with
      | z =>
        obtain rfl : p = 0 := hM.out.p
        have HE : Hid (scan (bl s) = (0, out)) := Lib.hid hri.symm
        clear hri hI hM
        go_wp2_with fail
        go_ret2
        exact ScanPost.of HE.out (owns_readsT hT.out.1) hT.out.2
      | a w0 =>
        obtain rfl : p = 1 := hM.out.p
        have HE : Hid (scan (bl s) = (0, out ++ [⟨1, o⟩])) := Lib.hid (by rw [← hri, hM.out.o]; rfl)
        obtain ⟨a', c', w4, hr, hh⟩ := TokAt.add hT.out HN.out ⟨1, o⟩ (by omega)
        have HR := Lib.hid hr
        have HAD := Lib.hid hh.out
        clear hri hI hM hr hh
        go_wp2_with (at_builtin; refine Lib.wpList_append_run _ rfl _ _ _ _ rfl _ _ rfl rfl _ _ HR.out ?_)
        go_ret2
        refine ScanPost.of HE.out ?_ HAD.out.2
        have h := HAD.out.1
        exact owns_readsT h
      | q w0 =>
        obtain rfl : p = 2 := hM.out.p
        have HE : Hid (scan (bl s) = (9, [])) := Lib.hid hri.symm
        clear hri hI hM
        go_wp2_with fail
        go_ret2
        exact ScanPost.of HE.out (nil_readsT _) hT.out.2
      | qb w0 =>
        obtain rfl : p = 2 := hM.out.p
        have HE : Hid (scan (bl s) = (9, [])) := Lib.hid hri.symm
        clear hri hI hM
        go_wp2_with fail
        go_ret2
        exact ScanPost.of HE.out (nil_readsT _) hT.out.2
      | c n0 =>
        obtain rfl : p = 3 := hM.out.p
        have HE : Hid (scan (bl s) = (9, [])) := Lib.hid hri.symm
        clear hri hI hM
        go_wp2_with fail
        go_ret2
        exact ScanPost.of HE.out (nil_readsT _) hT.out.2
      | cb n0 =>
        obtain rfl : p = 3 := hM.out.p
        have HE : Hid (scan (bl s) = (9, [])) := Lib.hid hri.symm
        clear hri hI hM
        go_wp2_with fail
        go_ret2
        exact ScanPost.of HE.out (nil_readsT _) hT.out.2
end Go.Proofs.YtegbkfloiiilfaaGreatDoor.Lex
