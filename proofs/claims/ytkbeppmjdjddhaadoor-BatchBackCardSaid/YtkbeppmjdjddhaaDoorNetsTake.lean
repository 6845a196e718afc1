/-
  What text begins with: nets.Take and what it calls, walked.
-/
import Derived.Test.YtkbeppmjdjddhaaDoorNetsBase
namespace Go.Proofs.YtkbeppmjdjddhaaDoor.Nets
open Go.RowKit

def cd (l : List UInt8) : Nat := min (digs l).length 10

theorem cd_end (s : ByteArray) (k : Nat) (h10 : k ≤ 10) (hk : k ≤ (digs (bl s)).length) (h : ¬ (k < s.size ∧ k ≤ 9) ∨ ∃ h : k < s.size, isD s[k] = false) : k = cd (bl s) := by
  unfold cd
  rcases h with h | ⟨h, hd⟩
  · have := digs_le (bl s)
    have e : (bl s).length = s.size := by simp
    omega
  · have := digs_stop (bl s) k hk (by simpa using h) hd
    omega

set_option maxHeartbeats 400000 in
theorem count_any (s : ByteArray) (w : World) (_hs : s.size ≤ 100000) :
    Calls Tryd.prog 54 #[.string s] w fun e w' => e = .returned (.int .i64 (cd (bl s))) ∧ w = w' := by
  go_enter Tryd.func54, Tryd.ntmps54
  go_wp2
  go_loop [3] (fun n => ∃ k : Nat, k ≤ 10 ∧ k ≤ (digs (bl s)).length ∧ n = .int .i64 k) (fun n => 10 - (intOf n).toNat)
  case atStart => exact ⟨0, by omega, Nat.zero_le _, rfl⟩
  case round =>
    obtain ⟨k, hk, hkd, rfl⟩ := hrel
    by_cases hlt : k < s.size ∧ k ≤ 9
    · obtain ⟨h1, h2⟩ := hlt
      go_wp2
      · go_round
        case rel => exact ⟨k + 1, by omega, digs_step (bl s) k hkd (by simpa using h1) (isD_of (c := s[k]) (by omega) (by omega)), by go_num⟩
        case measure => simp [intOf]; omega
      · go_ret
        exact ⟨ret_int (congrArg _ (cd_end s k hk hkd (.inr ⟨h1, isD_not (.inr (by omega))⟩))), rfl⟩
      · go_ret
        exact ⟨ret_int (congrArg _ (cd_end s k hk hkd (.inr ⟨h1, isD_not (.inl (by omega))⟩))), rfl⟩
    · by_cases h1 : k < s.size
      all_goals
        go_wp2
        go_ret
        exact ⟨ret_int (congrArg _ (cd_end s k hk hkd (.inl hlt))), rfl⟩

set_option maxHeartbeats 400000 in
theorem number_any (s : ByteArray) (w : World) (hs : s.size ≤ 9) (hd : ∀ c ∈ bl s, isD c = true) :
    Calls Tryd.prog 56 #[.string s] w fun e w' => e = .returned (.int .i64 (val (bl s))) ∧ w = w' := by
  have hv : ∀ k, k ≤ s.size → val ((bl s).take k) < 1000000000 := by
    intro k hk
    have h1 := val_lt _ ((bl s).take k) rfl (fun c hc => hd c (List.mem_of_mem_take hc))
    have h2 : ((bl s).take k).length ≤ 9 := by simp; omega
    have h3 : (10:Nat) ^ ((bl s).take k).length ≤ 10 ^ 9 := Nat.pow_le_pow_right (by decide) h2
    omega
  have hdk : ∀ k (h : k < s.size), 48 ≤ s[k].toNat ∧ s[k].toNat ≤ 57 := fun k h => isD_bounds (hd _ (List.getElem_mem (l := bl s) (by simpa using h)))
  have HV := Lib.hid hv
  have HD := Lib.hid hdk
  clear hv hdk hd
  go_enter Tryd.func56, Tryd.ntmps56
  go_wp2
  go_loop [3, 4, 7] (fun n _ i => ∃ k : Nat, k ≤ s.size ∧ i = .int .i64 k ∧ n = .int .i64 (val ((bl s).take k))) (fun _ _ i => s.size - (intOf i).toNat)
  case atStart => exact ⟨0, Nat.zero_le _, rfl, rfl⟩
  case round =>
    obtain ⟨k, hk, rfl, rfl⟩ := hrel
    have h0 := HV.out k hk
    by_cases hlt : k < s.size
    · obtain ⟨h1, h2⟩ := HD.out k hlt
      have HS : Hid (val ((bl s).take (k + 1)) = 10 * val ((bl s).take k) + (s[k].toNat - 48)) := by
        show val ((bl s).take (k + 1)) = 10 * val ((bl s).take k) + (s[k].toNat - 48)
        rw [take_snoc s k hlt, val_snoc]
      go_wp2
      go_round
      case rel => exact ⟨k + 1, by omega, by go_num, by rw [HS.out]; go_num⟩
      case measure => simp [intOf]; omega
    · go_wp2
      go_ret
      exact ⟨ret_int (by rw [List.take_of_length_le (by simp; omega)]), rfl⟩

/-- The code of a length, of d digits, and its colon. -/
def chk (l : List UInt8) (d : Nat) : Nat :=
  if l = [] then 9 else if d = 0 then 3 else if 9 < d then 2 else if d = l.length then 9 else if l[d]? ≠ some 58 then 3 else if 1 < d ∧ l[0]? = some 48 then 3 else 0

theorem chk_of (s : ByteArray) (d : Nat) (h0 : 0 < s.size) (h : d < s.size) : chk (bl s) d = if d = 0 then 3 else if 9 < d then 2 else if s[d].toNat ≠ 58 then 3 else if 1 < d ∧ s[0].toNat = 48 then 3 else 0 := by
  unfold chk
  have e : (bl s).length = s.size := by simp
  rw [if_neg (bl_ne s h0), bl_get? s d h, bl_get? s 0 h0, e]
  have e1 : (some s[d] = some 58) ↔ s[d].toNat = 58 := some_u8 _ _
  have e2 : (some s[0] = some 48) ↔ s[0].toNat = 48 := some_u8 _ _
  have e3 : ¬ d = s.size := by omega
  simp only [e1, e2, e3, ne_eq, if_false]

set_option maxHeartbeats 400000 in
theorem check_any (s : ByteArray) (d : Nat) (w : World) (hs : s.size ≤ 100000) (hd : d ≤ s.size) :
    Calls Tryd.prog 55 #[.string s, .int .i64 d] w fun e w' => e = .returned (.int .i64 (chk (bl s) d)) ∧ w = w' := by
  by_cases h0 : s.size = 0
  · have hE := emp_of s h0
    have hn : chk (bl s) d = 9 := by unfold chk; rw [if_pos (emp_true s hE)]
    have HN := Lib.hid hn
    clear h0 hn
    go_enter Tryd.func55, Tryd.ntmps55
    go_wp2
    go_ret
    exact ⟨ret_int (by rw [HN.out]; rfl), rfl⟩
  · have hp : 0 < s.size := by omega
    have hE := emp_not s hp
    by_cases hds : d < s.size
    · have HN := Lib.hid (chk_of s d hp hds)
      go_enter Tryd.func55, Tryd.ntmps55
      go_wp2
      all_goals
        go_ret
        refine ⟨ret_int ?_, rfl⟩
        rw [HN.out]
        clear HN
        simp only [beq_iff_eq, beq_eq_false_iff_ne, bne_iff_ne, ne_eq, bne_eq_false_iff_eq] at *
        repeat' split
        all_goals omega
    · have hn : chk (bl s) d = if 9 < d then 2 else 9 := by
        unfold chk
        have e : (bl s).length = s.size := by simp
        rw [if_neg (bl_ne s hp), e, if_neg (by omega)]
        rw [if_pos (by omega : d = s.size)]
      have HN := Lib.hid hn
      have e1 : ((d : Int) == s.size) = true := by simp; omega
      have e2 : ((d : Int) == 0) = false := by simp; omega
      clear hn
      go_enter Tryd.func55, Tryd.ntmps55
      go_wp2
      all_goals
        go_ret
        refine ⟨ret_int ?_, rfl⟩
        rw [HN.out]
        clear HN
        split
        all_goals omega

abbrev tup (r : List UInt8 × List UInt8 × Nat) : Value := .tuple #[str r.1, str r.2.1, .int .i64 r.2.2]

theorem take_bad (l : List UInt8) (h : chk l (cd l) ≠ 0) : takeS l = ([], [], chk l (cd l)) := by
  unfold chk cd at h ⊢
  unfold takeS
  have hl := digs_le l
  by_cases c1 : l = []
  · rw [if_pos c1, if_pos c1]
  rw [if_neg c1] at h ⊢
  rw [if_neg c1]
  by_cases c2 : (digs l).length = 0
  · rw [if_pos c2, if_pos (by omega)]
  have m2 : ¬ min (digs l).length 10 = 0 := by omega
  rw [if_neg m2] at h ⊢
  rw [if_neg c2]
  by_cases c3 : 9 < (digs l).length
  · rw [if_pos c3, if_pos (by omega)]
  have m3 : ¬ 9 < min (digs l).length 10 := by omega
  have e : min (digs l).length 10 = (digs l).length := by omega
  rw [if_neg m3, e] at h
  rw [if_neg m3, e, if_neg c3]
  by_cases c4 : l.length ≤ (digs l).length
  · rw [if_pos c4, if_pos (by omega)]
  have m4 : ¬ (digs l).length = l.length := by omega
  rw [if_neg m4] at h ⊢
  rw [if_neg c4]
  by_cases c5 : l[(digs l).length]? ≠ some 58
  · rw [if_pos c5, if_pos c5]
  rw [if_neg c5] at h ⊢
  rw [if_neg c5]
  by_cases c6 : 1 < (digs l).length ∧ l[0]? = some 48
  · rw [if_pos c6, if_pos c6]
  rw [if_neg c6] at h
  exact absurd rfl h

theorem take_good (l : List UInt8) (h : chk l (cd l) = 0) : cd l = (digs l).length ∧ 1 ≤ (digs l).length ∧ (digs l).length ≤ 9 ∧ (digs l).length < l.length ∧
    takeS l = if l.length < (digs l).length + 1 + val (digs l) + 1 then ([], [], 9) else
      if l[(digs l).length + 1 + val (digs l)]? ≠ some 44 then ([], [], 3) else
      ((l.drop ((digs l).length + 1)).take (val (digs l)), l.drop ((digs l).length + 1 + val (digs l) + 1), 0) := by
  unfold chk cd at h
  unfold takeS cd
  have hl := digs_le l
  by_cases c1 : l = []
  · rw [if_pos c1] at h; cases h
  rw [if_neg c1] at h ⊢
  by_cases c2 : (digs l).length = 0
  · rw [if_pos (by omega)] at h; cases h
  rw [if_neg (by omega)] at h
  rw [if_neg c2]
  by_cases c3 : 9 < (digs l).length
  · rw [if_pos (by omega)] at h; cases h
  rw [if_neg (by omega)] at h
  rw [if_neg c3]
  have e : min (digs l).length 10 = (digs l).length := by omega
  rw [e] at h ⊢
  by_cases c4 : l.length ≤ (digs l).length
  · rw [if_pos (by omega)] at h; cases h
  rw [if_neg (by omega)] at h
  rw [if_neg c4]
  by_cases c5 : l[(digs l).length]? ≠ some 58
  · rw [if_pos c5] at h; cases h
  rw [if_neg c5] at h ⊢
  by_cases c6 : 1 < (digs l).length ∧ l[0]? = some 48
  · rw [if_pos c6] at h; cases h
  rw [if_neg c6]
  exact ⟨rfl, by omega, by omega, by omega, rfl⟩

theorem count_d (s : ByteArray) (d : Nat) (w : World) (hs : s.size ≤ 100000) (H : Hid (cd (bl s) = d)) :
    Calls Tryd.prog 54 #[.string s] w fun e w' => e = .returned (.int .i64 d) ∧ w = w' := by
  have h := H.out
  subst h
  exact count_any s w hs
theorem check_d (s : ByteArray) (d : Nat) (w : World) (hs : s.size ≤ 100000) (hd : d ≤ s.size) (H : Hid (chk (bl s) d = 0)) :
    Calls Tryd.prog 55 #[.string s, .int .i64 d] w fun e w' => e = .returned (.int .i64 0) ∧ w = w' := by
  have h := check_any s d w hs hd
  rw [H.out] at h
  exact h
theorem number_d (s : ByteArray) (d v : Nat) (w : World) (hd : d ≤ 9) (H : Hid ((bl s).take d = digs (bl s) ∧ val (digs (bl s)) = v)) :
    Calls Tryd.prog 56 #[.string (s.extract 0 d)] w fun e w' => e = .returned (.int .i64 v) ∧ w = w' := by
  obtain ⟨h1, h2⟩ := H.out
  have e : bl (s.extract 0 d) = digs (bl s) := by
    have := Lib.extract_data s 0 d
    simp only [List.drop_zero, Nat.sub_zero] at this
    rw [h1] at this
    exact this
  have hz : (s.extract 0 d).size ≤ 9 := by simp [ByteArray.size_extract]; omega
  have := number_any (s.extract 0 d) w hz (by rw [e]; exact digs_all _)
  rw [e, h2] at this
  exact this

theorem tail_get (s : ByteArray) (a v : Nat) (h : v < (s.extract a s.size).size) : (bl s)[a + v]? = some (s.extract a s.size)[v] := by
  have e := bl_get? (s.extract a s.size) v h
  rw [← e]
  have e2 : bl (s.extract a s.size) = (bl s).drop a := Lib.extract_to_end s a
  rw [e2, List.getElem?_drop]
theorem tail_head (s : ByteArray) (a v : Nat) : Value.string ((s.extract a s.size).extract 0 v) = str (((bl s).drop a).take v) := by
  apply str_of
  have e2 : bl (s.extract a s.size) = (bl s).drop a := Lib.extract_to_end s a
  refine (Lib.extract_data (s.extract a s.size) 0 v).trans ?_
  simp only [List.drop_zero, Nat.sub_zero]
  exact congrArg (List.take v) e2
theorem tail_rest (s : ByteArray) (a v : Nat) : Value.string ((s.extract a s.size).extract (v + 1) (s.size - a)) = str ((bl s).drop (a + v + 1)) := by
  apply str_of
  have e2 : bl (s.extract a s.size) = (bl s).drop a := Lib.extract_to_end s a
  refine (Lib.extract_data (s.extract a s.size) (v + 1) (s.size - a)).trans ?_
  have e3 : (s.extract a s.size).data.toList = (bl s).drop a := e2
  rw [e3, List.drop_drop, List.take_of_length_le (by simp; omega), show a + (v + 1) = a + v + 1 by omega]
theorem take_form (s : ByteArray) (d v : Nat) (h : v < (s.extract (d + 1) s.size).size) (c : ((((s.extract (d + 1) s.size)[v].toNat : Nat) : Int) != 44) = true)
    (g : ¬ s.size < d + 1 + v + 1) (T : takeS (bl s) = if s.size < d + 1 + v + 1 then ([], [], 9) else if (bl s)[d + 1 + v]? ≠ some 44 then ([], [], 3) else (((bl s).drop (d + 1)).take v, (bl s).drop (d + 1 + v + 1), 0)) :
    takeS (bl s) = ([], [], 3) := by
  rw [T, if_neg g, if_pos]
  rw [tail_get s (d + 1) v h, ne_eq, some_u8]
  intro e
  rw [e] at c
  exact absurd c (by decide)
theorem take_fine (s : ByteArray) (d v : Nat) (h : v < (s.extract (d + 1) s.size).size) (c : ((((s.extract (d + 1) s.size)[v].toNat : Nat) : Int) != 44) = false)
    (g : ¬ s.size < d + 1 + v + 1) (T : takeS (bl s) = if s.size < d + 1 + v + 1 then ([], [], 9) else if (bl s)[d + 1 + v]? ≠ some 44 then ([], [], 3) else (((bl s).drop (d + 1)).take v, (bl s).drop (d + 1 + v + 1), 0)) :
    takeS (bl s) = (((bl s).drop (d + 1)).take v, (bl s).drop (d + 1 + v + 1), 0) := by
  rw [T, if_neg g, if_neg]
  rw [tail_get s (d + 1) v h, ne_eq, some_u8, Classical.not_not]
  have : ((s.extract (d + 1) s.size)[v].toNat : Int) = 44 := by simpa using c
  have e : (44 : UInt8).toNat = 44 := rfl
  omega

theorem take_fine_ret (s : ByteArray) (d v : Nat) (h : v < (s.extract (d + 1) s.size).size) (c : ((((s.extract (d + 1) s.size)[v].toNat : Nat) : Int) != 44) = false)
    (g : ¬ s.size < d + 1 + v + 1) (T : takeS (bl s) = if s.size < d + 1 + v + 1 then ([], [], 9) else if (bl s)[d + 1 + v]? ≠ some 44 then ([], [], 3) else (((bl s).drop (d + 1)).take v, (bl s).drop (d + 1 + v + 1), 0)) :
    tup (takeS (bl s)) = .tuple #[.string ((s.extract (d + 1) s.size).extract 0 v), .string ((s.extract (d + 1) s.size).extract (v + 1) (s.size - (d + 1))), .int .i64 0] := by
  rw [take_fine s d v h c g T, tail_head, tail_rest]
  rfl

set_option maxHeartbeats 400000 in
theorem take_any (s : ByteArray) (w : World) (hs : s.size ≤ 100000) :
    Calls Tryd.prog 46 #[.string s] w fun e w' => e = .returned (tup (takeS (bl s))) ∧ Below w.heap.size w w' := by
  have hcd : cd (bl s) ≤ s.size := by
    have := digs_le (bl s)
    have e : (bl s).length = s.size := by simp
    unfold cd; omega
  by_cases hc : chk (bl s) (cd (bl s)) = 0
  · obtain ⟨g1, g2, g3, g4, g5⟩ := take_good (bl s) hc
    have HC : Hid (cd (bl s) = (digs (bl s)).length) := g1
    have HK : Hid (chk (bl s) (digs (bl s)).length = 0) := by rw [g1] at hc; exact hc
    have hv : val (digs (bl s)) < 1000000000 := by
      have h1 := val_lt _ (digs (bl s)) rfl (digs_all _)
      have h3 : (10:Nat) ^ (digs (bl s)).length ≤ 10 ^ 9 := Nat.pow_le_pow_right (by decide) g3
      omega
    have e : (bl s).length = s.size := by simp
    rw [e] at g4
    have g6 := digs_take (bl s)
    obtain ⟨d, hd⟩ : ∃ d, (digs (bl s)).length = d := ⟨_, rfl⟩
    obtain ⟨v, hV⟩ : ∃ v, val (digs (bl s)) = v := ⟨_, rfl⟩
    rw [hd] at HC HK g2 g3 g4 g5 g6
    rw [hV] at hv g5
    have HN : Hid ((bl s).take d = digs (bl s) ∧ val (digs (bl s)) = v) := ⟨g6, hV⟩
    rw [e] at g5
    have HT := Lib.hid g5
    clear hc hcd g1 g5 e g6 hd hV
    by_cases c1 : s.size < d + 1 + v + 1
    · go_enter Tryd.func46, Tryd.ntmps46
      go_wp2_with (first | (go_at_call 54; refine (count_d _ _ _ (by omega) HC).mono ?_; rintro e w' ⟨rfl, rfl⟩) | (go_at_call 55; refine (check_d _ _ _ (by omega) (by omega) HK).mono ?_; rintro e w' ⟨rfl, rfl⟩) | (go_at_call 56; refine (number_d _ _ _ _ (by omega) HN).mono ?_; rintro e w' ⟨rfl, rfl⟩))
      go_ret3
      exact ⟨by rw [HT.out, if_pos c1]; rfl, Below.refl _ _⟩
    · have hx : v < (s.extract (d + 1) s.size).size := by simp [ByteArray.size_extract]; omega
      have HX : Hid (v < (s.extract (d + 1) s.size).size) := hx
      by_cases c2 : ((((s.extract (d + 1) s.size)[v].toNat : Nat) : Int) != 44) = true
      · go_enter Tryd.func46, Tryd.ntmps46
        go_wp2_with (first | (go_at_call 54; refine (count_d _ _ _ (by omega) HC).mono ?_; rintro e w' ⟨rfl, rfl⟩) | (go_at_call 55; refine (check_d _ _ _ (by omega) (by omega) HK).mono ?_; rintro e w' ⟨rfl, rfl⟩) | (go_at_call 56; refine (number_d _ _ _ _ (by omega) HN).mono ?_; rintro e w' ⟨rfl, rfl⟩))
        go_ret3
        exact ⟨by rw [take_form s d v HX.out c2 c1 HT.out]; rfl, Below.refl _ _⟩
      · have c3 : ((((s.extract (d + 1) s.size)[v].toNat : Nat) : Int) != 44) = false := by simpa using c2
        clear c2
        go_enter Tryd.func46, Tryd.ntmps46
        go_wp2_with (first | (go_at_call 54; refine (count_d _ _ _ (by omega) HC).mono ?_; rintro e w' ⟨rfl, rfl⟩) | (go_at_call 55; refine (check_d _ _ _ (by omega) (by omega) HK).mono ?_; rintro e w' ⟨rfl, rfl⟩) | (go_at_call 56; refine (number_d _ _ _ _ (by omega) HN).mono ?_; rintro e w' ⟨rfl, rfl⟩))
        go_quiet (fail)
        go_wp2
        go_ret3
        refine ⟨?_, below_drewN (Below.refl _ _) _⟩
        rw [take_fine_ret s d v HX.out c3 c1 HT.out]
        rfl
  · have hne : (((chk (bl s) (cd (bl s)) : Nat) : Int) != 0) = true := by simp; omega
    have HT := Lib.hid (take_bad _ hc)
    clear hc
    go_enter Tryd.func46, Tryd.ntmps46
    go_wp2_with (first | (go_at_call 54; refine (count_any _ _ (by omega)).mono ?_; rintro e w' ⟨rfl, rfl⟩) | (go_at_call 55; refine (check_any _ _ _ (by omega) (by omega)).mono ?_; rintro e w' ⟨rfl, rfl⟩))
    go_ret3
    exact ⟨by rw [HT.out]; rfl, Below.refl _ _⟩
end Go.Proofs.YtkbeppmjdjddhaaDoor.Nets
