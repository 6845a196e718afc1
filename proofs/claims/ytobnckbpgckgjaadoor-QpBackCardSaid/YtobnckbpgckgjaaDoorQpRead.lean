/-
  Walks: strings.HasPrefix, first, readLine.
-/
import Derived.Test.YtobnckbpgckgjaaDoorQpByte
import Derived.Test.YtobnckbpgckgjaaDoorLexBuild
namespace Go.Proofs.YtobnckbpgckgjaaDoor.Qp
open Go Go.RowKit
open Go.Proofs.YtobnckbpgckgjaaDoor.Head
open Go.Proofs.YtobnckbpgckgjaaDoor.Lex (BuiltAt wbyte wstr wend)

theorem empty_any (s : ByteArray) : s.toList.isEmpty = (bl s).isEmpty := by rw [Lib.toList_data]
def strSz : Value → Nat
  | .string s => s.size
  | _ => 0
abbrev markB : ByteArray := ⟨#[61]⟩
theorem head_mark (s : ByteArray) (h : 0 < s.size) : ((bl s).take 1 == [61]) = decide (s[0] = 61) := by
  have e0 := drop_cons s 0 h
  rw [List.drop_zero] at e0
  rw [e0]
  rw [Bool.eq_iff_iff]
  simp
set_option maxRecDepth 100000 in
set_option maxHeartbeats 400000 in
theorem prefixL_any (s : ByteArray) (w : World) (h : 0 < s.size) :
    Calls Tryd.prog 53 #[.string s, .string markB] w fun e w' => e = .returned (.bool (decide (s[0] = 61))) ∧ w = w' := by
  have h' : (1 : Int) ≤ (s.size : Int) := by omega
  have e : ((s.extract 0 1).toList == [61]) = decide (s[0] = 61) := by
    rw [Lib.toList_data, ← head_mark s h, show (s.extract 0 1).data.toList = bl (s.extract 0 1) from rfl, bl_extract]
    simp
  have he := Lib.hid e
  clear e
  generalize decide (s[0] = 61) = b at *
  go_enter Tryd.func53, Tryd.ntmps53
  go_wp2
  go_ret
  exact ⟨ret_bool he.out, rfl⟩
set_option maxRecDepth 100000 in
set_option maxHeartbeats 400000 in
theorem prefix_any (s : ByteArray) (w : World) (h : 0 < s.size) :
    Calls Tryd.prog 45 #[.string s, .string markB] w fun e w' => e = .returned (.bool (decide (s[0] = 61))) ∧ w = w' := by
  have HP := Lib.hid (fun W => prefixL_any s W h)
  generalize decide (s[0] = 61) = b at *
  go_enter Tryd.func45, Tryd.ntmps45
  go_wp2_with fail
  refine (HP.out _).mono ?_
  rintro e w' ⟨rfl, rfl⟩
  go_wp2
  go_ret
  exact ⟨rfl, rfl⟩

/-! The first byte that a line stands for. -/
def frs : List UInt8 → Option (UInt8 × Nat)
  | [] => none
  | c :: t => if selfB c false then some (c, 1) else if c = 61 then (match t with
    | a :: b :: _ => (hxL a b).map fun x => (x, 3)
    | _ => none) else none
theorem frs_cons (c : UInt8) (t : List UInt8) : frs (c :: t) = if selfB c false then some (c, 1) else if c = 61 then (match t with
    | a :: b :: _ => (hxL a b).map fun x => (x, 3)
    | _ => none) else none := rfl
theorem frs_esc (a b : UInt8) (r : List UInt8) : frs (61 :: a :: b :: r) = (hxL a b).map fun x => (x, 3) := by
  rw [frs_cons, if_neg (by decide), if_pos rfl]
theorem rdW_step {l : List UInt8} (h : l ≠ []) : rdW l = match frs l with | none => none | some p => (rdW (l.drop p.2)).map (p.1 :: ·) := by
  cases l with
  | nil => exact absurd rfl h
  | cons c t =>
    cases hs : selfB c false
    · by_cases hc : c = 61
      · subst hc
        match t with
        | [] => rfl
        | [a] => rfl
        | a :: b :: r =>
          rw [rdW_esc, frs_esc]
          cases hxL a b with
          | none => rfl
          | some x => rfl
      · rw [rdW_bad hs hc]
        unfold frs
        simp [hs, hc]
    · rw [rdW_self hs, frs_cons, if_pos hs]
      rfl
/-- What first answers. -/
def FrPost (l : List UInt8) (w : World) (e : Ending) (w' : World) : Prop :=
  (∃ x n ok, e = .returned (.tuple #[.int .u8 x, .int .i64 n, .bool ok]) ∧ (match frs l with | none => ok = false | some p => x = (p.1.toNat : Int) ∧ n = (p.2 : Int) ∧ ok = true)) ∧ w = w'
theorem FrPost.bad {l : List UInt8} {w : World} {x n : Int} {b : Bool} (h : frs l = none) (hb : b = false) : FrPost l w (.returned (.tuple #[.int .u8 x, .int .i64 n, .bool b])) w := by
  refine ⟨⟨x, n, b, rfl, ?_⟩, rfl⟩
  rw [h]
  exact hb
theorem FrPost.good {l : List UInt8} {w : World} {x n : Int} {b : Bool} {c : UInt8} {k : Nat} (h : frs l = some (c, k)) (hx : x = c.toNat) (hn : n = k) (hb : b = true) : FrPost l w (.returned (.tuple #[.int .u8 x, .int .i64 n, .bool b])) w := by
  refine ⟨⟨x, n, b, rfl, ?_⟩, rfl⟩
  rw [h]
  exact ⟨hx, hn, hb⟩
set_option maxRecDepth 100000 in
set_option maxHeartbeats 1000000 in
theorem first_any (s : ByteArray) (w : World) (h : 0 < s.size) :
    Calls Tryd.prog 37 #[.string s] w (FrPost (bl s) w) := by
  have e0 := drop_cons s 0 h
  rw [List.drop_zero] at e0
  have HS : Hid (∀ W, Calls Tryd.prog 29 #[.int .u8 s[0].toNat, .bool false] W fun e w' => e = .returned (.bool (selfB s[0] false)) ∧ W = w') := Lib.hid (fun W => self_any s[0] false W)
  have HP := Lib.hid (fun W => prefix_any s W h)
  cases hs : selfB s[0] false
  · rw [hs] at HS
    by_cases hc : s[0] = 61
    · rw [decide_eq_true hc] at HP
      by_cases h3 : s.size < 3
      · have h3' : (s.size : Int) < 3 := by omega
        have HE : Hid (frs (bl s) = none) := Lib.hid (by
          rw [e0, hc]
          have hl : ((bl s).drop (0 + 1)).length < 2 := by rw [List.length_drop, bl_len]; omega
          generalize (bl s).drop (0 + 1) = t at *
          match t, hl with
          | [], _ => rfl
          | [a], _ => rfl)
        clear e0 hs hc
        go_enter Tryd.func37, Tryd.ntmps37
        go_wp2_with fail
        refine (HS.out _).mono ?_
        rintro e w1 ⟨rfl, rfl⟩
        go_wp2_with fail
        refine (HP.out _).mono ?_
        rintro e w1 ⟨rfl, rfl⟩
        go_wp2_with fail
        go_ret3
        exact FrPost.bad HE.out rfl
      · have h3' : ¬ (s.size : Int) < 3 := by omega
        have e1 := drop_cons s 1 (by omega)
        have e2 := drop_cons s 2 (by omega)
        have hx : bl (s.extract 1 3) = [s[1], s[2]] := by rw [bl_extract, e1, e2]; rfl
        have HB := Lib.hid (fun W => byte_any (s.extract 1 3) W)
        rw [hx] at HB
        have HE : Hid (frs (bl s) = (hxL s[1] s[2]).map fun x => (x, 3)) := Lib.hid (by
          rw [e0, hc, e1, e2]
          rfl)
        have HV : Hid (byteL [s[1], s[2]] = hxL s[1] s[2]) := Lib.hid rfl
        clear e0 e1 e2 hs hc hx
        cases hq : hxL s[1] s[2] with
        | none =>
          rw [hq] at HE HV
          unfold byteN byteS at HB
          rw [HV.out] at HB
          clear hq HV
          go_enter Tryd.func37, Tryd.ntmps37
          go_wp2_with fail
          refine (HS.out _).mono ?_
          rintro e w1 ⟨rfl, rfl⟩
          go_wp2_with fail
          refine (HP.out _).mono ?_
          rintro e w1 ⟨rfl, rfl⟩
          go_wp2_with fail
          refine (HB.out _).mono ?_
          rintro e w1 ⟨rfl, rfl⟩
          go_wp2_with fail
          go_ret3
          exact FrPost.bad HE.out rfl
        | some x =>
          rw [hq] at HE HV
          unfold byteN byteS at HB
          rw [HV.out] at HB
          clear hq HV
          go_enter Tryd.func37, Tryd.ntmps37
          go_wp2_with fail
          refine (HS.out _).mono ?_
          rintro e w1 ⟨rfl, rfl⟩
          go_wp2_with fail
          refine (HP.out _).mono ?_
          rintro e w1 ⟨rfl, rfl⟩
          go_wp2_with fail
          refine (HB.out _).mono ?_
          rintro e w1 ⟨rfl, rfl⟩
          go_wp2_with fail
          go_ret3
          exact FrPost.good HE.out rfl rfl rfl
    · rw [decide_eq_false hc] at HP
      have HE : Hid (frs (bl s) = none) := Lib.hid (by
        rw [e0, frs_cons]
        simp [hs, hc])
      clear e0 hs hc
      go_enter Tryd.func37, Tryd.ntmps37
      go_wp2_with fail
      refine (HS.out _).mono ?_
      rintro e w1 ⟨rfl, rfl⟩
      go_wp2_with fail
      refine (HP.out _).mono ?_
      rintro e w1 ⟨rfl, rfl⟩
      go_wp2_with fail
      go_ret3
      exact FrPost.bad HE.out rfl
  · rw [hs] at HS
    have HE : Hid (frs (bl s) = some (s[0], 1)) := Lib.hid (by
      rw [e0, frs_cons]
      simp [hs])
    clear e0 hs
    go_enter Tryd.func37, Tryd.ntmps37
    go_wp2_with fail
    refine (HS.out _).mono ?_
    rintro e w1 ⟨rfl, rfl⟩
    go_wp2_with fail
    go_ret3
    exact FrPost.good HE.out rfl rfl rfl

/-! A line, read. -/
/-- What readLine leaves: the builder with what the line stands for, or some builder. -/
def RlPost (w : World) (acc : List UInt8) (l : List UInt8) (e : Ending) (w' : World) : Prop :=
  match rdW l with
  | some x => e = .returned (.bool true) ∧ BuiltAt w w' (acc ++ x)
  | none => e = .returned (.bool false) ∧ ∃ a, BuiltAt w w' a
theorem frs_le {l : List UInt8} {p : UInt8 × Nat} (h : frs l = some p) : 1 ≤ p.2 ∧ p.2 ≤ l.length := by
  obtain ⟨c, k⟩ := p
  cases l with
  | nil => cases h
  | cons d t =>
    rw [frs_cons] at h
    split at h
    · obtain ⟨_, rfl⟩ := Prod.mk.inj (Option.some.inj h)
      simp
    · split at h
      · split at h
        · rw [Option.map_eq_some_iff] at h
          obtain ⟨_, _, h⟩ := h
          obtain ⟨_, rfl⟩ := Prod.mk.inj h
          simp
        · cases h
      · cases h
theorem rdW_len : ∀ (n : Nat) (l x : List UInt8), l.length ≤ n → rdW l = some x → x.length ≤ l.length
  | 0, l, x, hn, h => by
    obtain rfl := List.length_eq_zero_iff.1 (Nat.le_zero.1 hn)
    obtain rfl : [] = x := Option.some.inj h
    exact Nat.le_refl _
  | n + 1, l, x, hn, h => by
    by_cases hl : l = []
    · subst hl
      obtain rfl : [] = x := Option.some.inj h
      exact Nat.le_refl _
    · rw [rdW_step hl] at h
      have hp := List.length_pos_iff.2 hl
      cases hf : frs l with
      | none => rw [hf] at h; cases h
      | some p =>
        rw [hf] at h
        simp only [Option.map_eq_some_iff] at h
        obtain ⟨z, h1, rfl⟩ := h
        have h2 := (frs_le hf).1
        have := rdW_len n (l.drop p.2) z (by rw [List.length_drop]; omega) h1
        rw [List.length_drop] at this
        rw [List.length_cons]
        omega
set_option maxRecDepth 100000 in
set_option maxHeartbeats 2000000 in
theorem readLine_any (w wr : World) (acc : List UInt8) (s : ByteArray) (h : BuiltAt w wr acc) (ha : acc.length ≤ 100000000) (hs : s.size ≤ 100000000) :
    Calls Tryd.prog 23 #[.pointer (some ⟨w.heap.size, 0, none⟩), .string s] wr (RlPost w acc (bl s)) := by
  have HI : Hid (∃ x, rdW (bl s) = (rdW (bl s)).map (x ++ ·) ∧ x.length + s.size ≤ s.size ∧ BuiltAt w wr (acc ++ x)) := Lib.hid ⟨[], by simp, by simp, by rw [List.append_nil]; exact h⟩
  have HP := Lib.hid (And.intro ha hs)
  clear h ha hs
  go_enter Tryd.func23, Tryd.ntmps23
  go_wp2_with fail
  go_loopw [1] (fun v wr => ∃ rest : ByteArray, v = .string rest ∧ rest.size ≤ s.size ∧ Hid (∃ x, rdW (bl s) = (rdW (bl rest)).map (x ++ ·) ∧ x.length + rest.size ≤ s.size ∧ BuiltAt w wr (acc ++ x))) (fun v _ => strSz v)
  case atStart => exact ⟨s, rfl, Nat.le_refl _, HI⟩
  case round =>
    clear HI
    obtain ⟨rest, rfl, hrs, hI⟩ := hrel
    have hq := empty_any rest
    by_cases h0 : 0 < rest.size
    · have hne : bl rest ≠ [] := by
        intro e
        have := bl_len rest
        rw [e] at this
        simp at this
        omega
      have he : (bl rest).isEmpty = false := by
        cases hr : bl rest with
        | nil => exact absurd hr hne
        | cons a b => rfl
      rw [he] at hq
      have hst := rdW_step hne
      have HF := Lib.hid (fun W => first_any rest W h0)
      unfold FrPost at HF
      cases hf : frs (bl rest) with
      | none =>
        rw [hf] at hst HF
        have HE : Hid (rdW (bl s) = none ∧ ∃ a, BuiltAt w wr a) := Lib.hid (by
          obtain ⟨x, h1, _, h3⟩ := hI.out
          rw [hst] at h1
          exact ⟨h1, _, h3⟩)
        clear hst hf hne he hI h0
        go_wp2_with fail
        refine (HF.out _).mono ?_
        rintro e w1 ⟨⟨x, n, ok, rfl, rfl⟩, rfl⟩
        go_wp2_with fail
        go_ret
        unfold RlPost
        rw [HE.out.1]
        exact ⟨rfl, HE.out.2⟩
      | some q =>
        obtain ⟨c, k⟩ := q
        rw [hf] at hst HF
        have hk := frs_le hf
        rw [bl_len] at hk
        have HN : Hid (∃ x, x.length ≤ s.size ∧ BuiltAt w wr (acc ++ x) ∧ ∀ W, BuiltAt w W ((acc ++ x) ++ [c]) → ∃ x, rdW (bl s) = (rdW (bl (rest.extract k rest.size))).map (x ++ ·) ∧ x.length + (rest.extract k rest.size).size ≤ s.size ∧ BuiltAt w W (acc ++ x)) := Lib.hid (by
          obtain ⟨x, h1, h2, h3⟩ := hI.out
          refine ⟨x, by omega, h3, fun W hW => ⟨x ++ [c], ?_, ?_, by rw [← List.append_assoc]; exact hW⟩⟩
          · rw [h1, hst, bl_from, Option.map_map]
            simp only
            congr 1
            funext z
            simp
          · rw [List.length_append, ByteArray.size_extract]
            simp only [List.length_cons, List.length_nil]
            omega)
        have hes : (rest.extract k rest.size).size = rest.size - k := by rw [ByteArray.size_extract]; omega
        clear hst hf hne he hI
        have hk1 : 1 ≤ k := hk.1
        have hk2 : k ≤ rest.size := hk.2
        clear hk
        go_wp2_with fail
        refine (HF.out _).mono ?_
        rintro e w1 ⟨⟨x, n, ok, rfl, rfl, rfl, rfl⟩, rfl⟩
        go_wp2_with fail
        obtain ⟨y, hy1, hy2, hy3⟩ := HN.out
        refine (wbyte w wr (acc ++ y) c hy2 (by rw [List.length_append]; have := HP.out; omega)).mono ?_
        rintro e w1 ⟨rfl, hb⟩
        have HB := Lib.hid (hy3 w1 hb)
        clear hb hy2 hy3 HN
        go_wp2_with fail
        go_roundw
        case rel => exact ⟨_, rfl, by omega, HB⟩
        case measure => simp [strSz]; omega
    · have hnil : bl rest = [] := by
        apply List.length_eq_zero_iff.1
        rw [bl_len]
        omega
      rw [hnil] at hq
      have HE : Hid (∃ x, rdW (bl s) = some x ∧ BuiltAt w wr (acc ++ x)) := Lib.hid (by
        obtain ⟨x, h1, _, h3⟩ := hI.out
        rw [hnil] at h1
        refine ⟨x, ?_, h3⟩
        rw [h1]
        show some (x ++ []) = _
        rw [List.append_nil])
      clear hnil hI h0
      rw [show ([] : List UInt8).isEmpty = true from rfl] at hq
      go_wp2_with fail
      go_ret
      obtain ⟨x, h1, h2⟩ := HE.out
      unfold RlPost
      rw [h1]
      exact ⟨rfl, h2⟩
end Go.Proofs.YtobnckbpgckgjaaDoor.Qp
