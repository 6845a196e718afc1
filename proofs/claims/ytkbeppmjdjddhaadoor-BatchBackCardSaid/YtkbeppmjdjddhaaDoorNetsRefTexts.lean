/-
  What text begins with, and all texts of any bytes: the document's Take and Texts walked.
-/
import Derived.Test.YtkbeppmjdjddhaaDoorNetsTexts
namespace Go.Proofs.YtkbeppmjdjddhaaDoor.Nets
open Go.RowKit

theorem dec_digs (l : List UInt8) (h0 : (digs l).length ≠ 0) : (decide (digs l = Lib.decDigits (val (digs l)))) = !decide (1 < (digs l).length ∧ l[0]? = some 48) := by
  have hne : digs l ≠ [] := by intro e; rw [e] at h0; exact h0 rfl
  have e0 : l[0]? = (digs l)[0]? := by
    rw [← digs_take l, List.getElem?_take, if_pos (by omega)]
  by_cases hz : 1 < (digs l).length ∧ l[0]? = some 48
  · rw [decide_eq_true hz]
    simp only [Bool.not_true, decide_eq_false_iff_not]
    intro e
    obtain ⟨h1, h2⟩ := hz
    rw [e0, e] at h2
    rw [e] at h1
    by_cases hv : 1 ≤ val (digs l)
    · exact dec_head _ hv h2
    · have : val (digs l) = 0 := by omega
      rw [this, Lib.decDigits_one (by decide)] at h1
      simp at h1
  · rw [decide_eq_false hz]
    simp only [Bool.not_false, decide_eq_true_eq]
    exact (dec_val _ (digs l) rfl hne (digs_all l) (by rw [← e0]; exact hz)).symm

theorem val_lt9 (l : List UInt8) (k : Nat) (hk : k ≤ 9) : val ((digs l).take k) < 1000000000 := by
  have h1 := val_lt _ ((digs l).take k) rfl (fun c hc => digs_all l c (List.mem_of_mem_take hc))
  have h2 : ((digs l).take k).length ≤ 9 := by simp; omega
  have h3 : (10:Nat) ^ ((digs l).take k).length ≤ 10 ^ 9 := Nat.pow_le_pow_right (by decide) h2
  omega
theorem val_digs_snoc (s : ByteArray) (j : Nat) (h : j < s.size) (hd : j + 1 ≤ (digs (bl s)).length) : val ((digs (bl s)).take (j + 1)) = 10 * val ((digs (bl s)).take j) + (s[j].toNat - 48) := by
  have e1 : (digs (bl s)).take (j + 1) = (bl s).take (j + 1) := by rw [← digs_take (bl s), List.take_take, Nat.min_eq_left hd]
  have e2 : (digs (bl s)).take j = (bl s).take j := by rw [← digs_take (bl s), List.take_take, Nat.min_eq_left (by omega)]
  rw [e1, e2, take_snoc s j h, val_snoc]
theorem digs_end (s : ByteArray) (j : Nat) (hj : j ≤ (digs (bl s)).length) (hjs : j ≤ s.size) (hD : ¬ ∃ h : j < s.size, isD s[j] = true) : (digs (bl s)).length = j := by
  have hl := digs_le (bl s)
  have e : (bl s).length = s.size := by simp
  by_cases h : j < s.size
  · refine digs_stop (bl s) j hj (by simpa using h) ?_
    rcases hb : isD (bl s)[j] with _ | _
    · rfl
    · exact absurd ⟨h, hb⟩ hD
  · omega

theorem take3 (s : ByteArray) (h0 : 0 < s.size) (hl : (digs (bl s)).length = 0) : takeS (bl s) = ([], [], 3) := by
  unfold takeS; rw [if_neg (bl_ne s h0), if_pos hl]
theorem take2 (s : ByteArray) (h0 : 0 < s.size) (hl : 9 < (digs (bl s)).length) : takeS (bl s) = ([], [], 2) := by
  unfold takeS; rw [if_neg (bl_ne s h0), if_neg (by omega), if_pos hl]
theorem take9 (s : ByteArray) (h0 : 0 < s.size) (h1 : (digs (bl s)).length = s.size) (hl : s.size ≤ 9) : takeS (bl s) = ([], [], 9) := by
  have e : (bl s).length = s.size := by simp
  unfold takeS; rw [if_neg (bl_ne s h0), if_neg (by omega), if_neg (by omega), if_pos (by omega)]
theorem take3b (s : ByteArray) (d : Nat) (h0 : 0 < s.size) (h1 : (digs (bl s)).length = d) (g1 : 1 ≤ d) (g9 : d ≤ 9) (hl : d < s.size) (h : ((s[d].toNat : Int) != 58) = true ∨ (1 < d ∧ (bl s)[0]? = some 48)) : takeS (bl s) = ([], [], 3) := by
  have e : (bl s).length = s.size := by simp
  unfold takeS; rw [if_neg (bl_ne s h0), if_neg (by omega), if_neg (by omega), if_neg (by omega), h1]
  rcases h with h | h
  · rw [if_pos]
    rw [bl_get? s d hl, ne_eq, some_u8]
    intro e
    rw [e] at h
    exact absurd h (by decide)
  · rw [if_pos h]
    split <;> rfl

theorem cmp_digs (s : ByteArray) (d v : Nat) (h1 : (digs (bl s)).length = d) (hv : v = val (digs (bl s))) (g1 : 1 ≤ d) : ((s.extract 0 d).toList == Lib.decDigits v) = !decide (1 < d ∧ (bl s)[0]? = some 48) := by
  have e : (s.extract 0 d).toList = digs (bl s) := by
    rw [Lib.toList_data, Lib.extract_data]
    simp only [List.drop_zero, Nat.sub_zero]
    rw [← h1]
    exact digs_take (bl s)
  have h := dec_digs (bl s) (by omega)
  rw [h1] at h
  rw [e, hv, ← h]
  rw [Bool.eq_iff_iff]
  simp
theorem take3c (s : ByteArray) (d v : Nat) (h0 : 0 < s.size) (h1 : (digs (bl s)).length = d) (hv : v = val (digs (bl s))) (g1 : 1 ≤ d) (g9 : d ≤ 9) (hl : d < s.size)
    (h : (!(s.extract 0 d).toList == Lib.decDigits v) = true) : takeS (bl s) = ([], [], 3) := by
  rw [cmp_digs s d v h1 hv g1] at h
  exact take3b s d h0 h1 g1 g9 hl (.inr (by simpa using h))
theorem takeT (s : ByteArray) (d v : Nat) (h0 : 0 < s.size) (h1 : (digs (bl s)).length = d) (hv : v = val (digs (bl s))) (g1 : 1 ≤ d) (g9 : d ≤ 9) (hl : d < s.size) (h58 : ((s[d].toNat : Int) != 58) = false)
    (h : (!(s.extract 0 d).toList == Lib.decDigits v) = false) : takeS (bl s) = if s.size < d + 1 + v + 1 then ([], [], 9) else if (bl s)[d + 1 + v]? ≠ some 44 then ([], [], 3) else (((bl s).drop (d + 1)).take v, (bl s).drop (d + 1 + v + 1), 0) := by
  rw [cmp_digs s d v h1 hv g1] at h
  have hz : ¬ (1 < d ∧ (bl s)[0]? = some 48) := by
    intro hc
    rw [decide_eq_true hc] at h
    cases h
  have e : (bl s).length = s.size := by simp
  have e58 : (bl s)[d]? = some 58 := by
    rw [bl_get? s d hl, some_u8]
    have : (s[d].toNat : Int) = 58 := by simpa using h58
    have e : (58 : UInt8).toNat = 58 := rfl
    omega
  unfold takeS
  rw [if_neg (bl_ne s h0), if_neg (by omega), if_neg (by omega), if_neg (by omega), h1, if_neg (by rw [e58]; simp), if_neg hz, ← hv, e]

set_option maxHeartbeats 2000000 in
theorem refTake_any (s : ByteArray) (w : World) (hs : s.size ≤ 100000) :
    Calls Tryd.prog 47 #[.string s] w fun e w' => e = .returned (tup (takeS (bl s))) ∧ Below w.heap.size w w' := by
  by_cases h0 : s.size = 0
  · have hE := emp_of s h0
    have HT : Hid (takeS (bl s) = ([], [], 9)) := by
      show takeS (bl s) = ([], [], 9)
      unfold takeS; rw [if_pos (emp_true s hE)]
    clear h0
    go_enter Tryd.func47, Tryd.ntmps47
    go_wp2
    go_ret3
    exact ⟨by rw [HT.out]; rfl, Below.refl _ _⟩
  · have hp : 0 < s.size := by omega
    have hE := emp_not s hp
    go_enter Tryd.func47, Tryd.ntmps47
    go_wp2
    go_loop [5, 6] (fun k n => ∃ j : Nat, j ≤ (digs (bl s)).length ∧ j ≤ s.size ∧ k = .int .i64 j ∧ n = .int .i64 (val ((digs (bl s)).take (min j 9)))) (fun k _ => s.size - (intOf k).toNat)
    case atStart => exact ⟨0, Nat.zero_le _, by omega, rfl, rfl⟩
    case round =>
      obtain ⟨j, hj, hjs, rfl, rfl⟩ := hrel
      by_cases hD : ∃ h : j < s.size, isD s[j] = true
      · obtain ⟨hlt, hd⟩ := hD
        obtain ⟨h1, h2⟩ := isD_bounds hd
        have hst := digs_step (bl s) j hj (by simpa using hlt) hd
        by_cases h9 : j < 9
        · have hv := val_lt9 (bl s) (min j 9) (by omega)
          have HS : Hid (val ((digs (bl s)).take (min (j + 1) 9)) = 10 * val ((digs (bl s)).take (min j 9)) + (s[j].toNat - 48)) := by
            show val ((digs (bl s)).take (min (j + 1) 9)) = 10 * val ((digs (bl s)).take (min j 9)) + (s[j].toNat - 48)
            rw [show min (j + 1) 9 = j + 1 by omega, show min j 9 = j by omega, val_digs_snoc s j hlt hst]
          clear hd
          go_wp2
          go_round
          case rel => exact ⟨j + 1, by omega, by omega, by go_num, by rw [HS.out]; go_num⟩
          case measure => simp [intOf]; omega
        · have HS : Hid (min (j + 1) 9 = min j 9) := by
            show min (j + 1) 9 = min j 9
            omega
          clear hd
          go_wp2
          go_round
          case rel => exact ⟨j + 1, by omega, by omega, by go_num, by rw [HS.out]⟩
          case measure => simp [intOf]; omega
      · have hend : (digs (bl s)).length = j := digs_end s j hj hjs hD
        have HE := Lib.hid hend
        clear hend hj
        by_cases hlt : j < s.size
        · have hn : s[j].toNat < 48 ∨ 57 < s[j].toNat := by
            rcases Nat.lt_or_ge s[j].toNat 48 with h | h
            · exact .inl h
            · rcases Nat.lt_or_ge 57 s[j].toNat with h' | h'
              · exact .inr h'
              · exact absurd ⟨hlt, isD_of h h'⟩ hD
          clear hD
          by_cases c0 : j = 0
          · subst c0
            have HT := Lib.hid (take3 s hp HE.out)
            rcases hn with hn | hn
            all_goals
              go_wp2
              go_ret3
              exact ⟨by rw [HT.out]; rfl, Below.refl _ _⟩
          have e0 : ((j : Int) == 0) = false := by simpa using c0
          by_cases c9 : 9 < j
          · have HT := Lib.hid (take2 s hp (by rw [HE.out]; exact c9))
            rcases hn with hn | hn
            all_goals
              go_wp2
              go_ret3
              exact ⟨by rw [HT.out]; rfl, Below.refl _ _⟩
          have hv := val_lt9 (bl s) (min j 9) (by omega)
          have HV : Hid (val ((digs (bl s)).take (min j 9)) = val (digs (bl s))) := by
            show val ((digs (bl s)).take (min j 9)) = val (digs (bl s))
            rw [List.take_of_length_le]
            have := HE.out
            omega
          generalize val ((digs (bl s)).take (min j 9)) = v at *
          by_cases c58 : ((s[j].toNat : Int) != 58) = true
          · have HT := Lib.hid (take3b s j hp HE.out (by omega) (by omega) hlt (.inl c58))
            rcases hn with hn | hn
            all_goals
              go_wp2
              go_quiet (fail)
              go_wp2
              go_ret3
              exact ⟨by rw [HT.out]; rfl, below_drewN (Below.refl _ _) _⟩
          have c58' : ((s[j].toNat : Int) != 58) = false := by simpa using c58
          have hn2 : 57 < s[j].toNat := by
            have : (s[j].toNat : Int) = 58 := by simpa using c58
            omega
          clear hn c58
          go_wp2
          go_region_with ((go_at_call 57; refine (digits_any _ _ (by omega)).mono ?_; rintro e w' ⟨rfl, hb1⟩))
          have hb : Below w.heap.size w w' := ((Below.refl w.heap.size w).drew).trans hb1
          clear hb1
          go_wp2
          · have hq : (!(s.extract 0 j).toList == Lib.decDigits v) = true := by assumption
            go_ret3
            exact ⟨by rw [take3c s j v hp HE.out HV.out (by omega) (by omega) hlt hq]; rfl, hb⟩
          · have hq : (!(s.extract 0 j).toList == Lib.decDigits v) = false := by assumption
            have T := takeT s j v hp HE.out HV.out (by omega) (by omega) hlt c58' hq
            go_ret3
            exact ⟨by rw [T, if_pos (by omega)]; rfl, hb⟩
          · have hq : (!(s.extract 0 j).toList == Lib.decDigits v) = false := by assumption
            have hx : v < (s.extract (j + 1) s.size).size := by simp [ByteArray.size_extract]; omega
            have h44 : (((s.extract (j + 1) s.size)[v].toNat : Int) != 44) = true := by assumption
            have T := takeT s j v hp HE.out HV.out (by omega) (by omega) hlt c58' hq
            go_ret3
            exact ⟨by rw [take_form s j v hx h44 (by omega) T]; rfl, hb⟩
          · have hq : (!(s.extract 0 j).toList == Lib.decDigits v) = false := by assumption
            have hx : v < (s.extract (j + 1) s.size).size := by simp [ByteArray.size_extract]; omega
            have h44 : (((s.extract (j + 1) s.size)[v].toNat : Int) != 44) = false := by assumption
            have T := Lib.hid (takeT s j v hp HE.out HV.out (by omega) (by omega) hlt c58' hq)
            have HX := Lib.hid hx
            go_quiet (fail)
            go_wp2
            go_ret3
            refine ⟨?_, below_drewN hb _⟩
            rw [take_fine_ret s j v HX.out h44 (by omega) T.out]
            rfl
        · have ej : j = s.size := by omega
          subst ej
          clear hD hlt hjs
          have e0 : ((s.size : Int) == 0) = false := beq_eq_false_iff_ne.2 (by omega)
          by_cases c9 : 9 < s.size
          · have HT := Lib.hid (take2 s hp (by rw [HE.out]; exact c9))
            go_wp2
            go_ret3
            exact ⟨by rw [HT.out]; rfl, Below.refl _ _⟩
          · have HT := Lib.hid (take9 s hp HE.out (by omega))
            go_wp2
            go_ret3
            exact ⟨by rw [HT.out]; rfl, Below.refl _ _⟩
def TextsAtI (l : List UInt8) (w : World) (s v i : Value) (wr : World) : Prop :=
  ∃ (rest : ByteArray) (acc : List ByteArray), s = .string rest ∧ wr.ownsRow w.heap.size 9 1 v acc.length (acc.map Value.string) ∧ Below w.heap.size w wr ∧ acc.length * 3 + rest.size ≤ l.length ∧
    textsS l = (if (textsS (bl rest)).2 ≠ 0 then ([], (textsS (bl rest)).2) else (acc.map bl ++ (textsS (bl rest)).1, 0)) ∧ i = .int .i64 acc.length
theorem refTake_ok (s : ByteArray) (t u : List UInt8) (w : World) (hs : s.size ≤ 100000) (H : Hid (takeS (bl s) = (t, u, 0))) :
    Calls Tryd.prog 47 #[.string s] w fun e w' => e = .returned (.tuple #[.string (ba t), .string (ba u), .int .i64 0]) ∧ Below w.heap.size w w' := by
  have h := refTake_any s w hs
  rw [H.out] at h
  exact h
theorem refTake_err (s : ByteArray) (c : Nat) (w : World) (hs : s.size ≤ 100000) (H : Hid (takeS (bl s) = ([], [], c))) :
    Calls Tryd.prog 47 #[.string s] w fun e w' => e = .returned (.tuple #[.string ⟨#[]⟩, .string ⟨#[]⟩, .int .i64 c]) ∧ Below w.heap.size w w' := by
  have h := refTake_any s w hs
  rw [H.out] at h
  exact h

theorem TextsAtI_step (l : List UInt8) (w wr w1 w2 : World) (rest : ByteArray) (acc : List ByteArray) (t u : List UInt8) (v : Value) (T : takeS (bl rest) = (t, u, 0)) (h0 : 0 < rest.size) (hu : u.length + 3 ≤ rest.size)
    (hb : Below w.heap.size w wr) (hb1 : Below wr.heap.size wr w1) (hb2 : Below w.heap.size w1 w2) (hz : acc.length * 3 + rest.size ≤ l.length)
    (hx : textsS l = (if (textsS (bl rest)).2 ≠ 0 then ([], (textsS (bl rest)).2) else (acc.map bl ++ (textsS (bl rest)).1, 0)))
    (hown : w2.ownsRow w.heap.size 9 1 v (acc.length + 1) (acc.map Value.string ++ [.string (ba t)])) : TextsAtI l w (.string (ba u)) v (.int .i64 ((acc.length : Int) + 1)) w2 := by
  refine ⟨ba u, acc ++ [ba t], rfl, by simpa using hown, (hb.trans (hb1.mono hb.size)).trans hb2, ?_, ?_, by simp⟩
  · have e : (ba u).size = u.length := by simp [ByteArray.size]
    rw [e]
    simp
    omega
  · rw [hx, texts_step _ (bl_ne rest h0), T, bl_ba]
    simp only [ne_eq, not_true_eq_false, if_false]
    by_cases c : (textsS u).2 = 0
    · simp [c]
    · simp [c]
set_option maxRecDepth 100000 in
set_option maxHeartbeats 1000000 in
theorem refTexts_any (s : ByteArray) (w : World) (hs : s.size ≤ 100000) : Calls Tryd.prog 36 #[.string s] w (TextsPost (bl s) w) := by
  obtain ⟨i0, hi, hz0, hz1, hz2⟩ := info_parts infoString
  have hl : (bl s).length ≤ 100000 := by simpa using hs
  have HS : Hid (TextsAtI (bl s) w (.string s) (.slice none 0 0) (.int .i64 0) w) := by
    refine ⟨s, [], rfl, World.ownsRow_nil _ _ _ _, Below.refl _ _, by simp, ?_, rfl⟩
    by_cases c : (textsS (bl s)).2 = 0
    · simp only [c, ne_eq, not_true_eq_false, if_false, List.map_nil, List.nil_append]
      exact Prod.ext rfl c
    · simp only [c, ne_eq, not_false_eq_true, if_true]
      exact Prod.ext (texts_bad _ _ (Nat.le_refl _) c) rfl
  generalize bl s = l at *
  go_enter Tryd.func36, Tryd.ntmps36
  go_wp2_with fail
  go_loopw [0, 4, 5] (fun x v i wr => TextsAtI l w x v i wr) (fun x _ _ _ => szOf x)
  case atStart => exact HS.out
  case round =>
    obtain ⟨rest, acc, rfl, hown, hb, hz, hx, rfl⟩ := hrel
    have HX := Lib.hid hx
    clear hx
    by_cases h0 : rest.size = 0
    · have hE := emp_of rest h0
      have HD := Lib.hid (TextsAt_end l rest acc h0 HX.out)
      clear h0
      go_wp2_with fail
      go_ret2
      refine ⟨_, by rw [HD.out]; rfl, ?_, hb⟩
      rw [HD.out, map_ba_bl]
      exact reads_owns hown
    · have hE := emp_not rest (by omega)
      have hd1 : decide ((acc.length : Int) < 100000) = true := decide_eq_true (by omega)
      have hd2 : decide (acc.length < 100000) = true := decide_eq_true (by omega)
      have hd3 : (acc.length : Int) < 100000 := by omega
      have hd4 : acc.length < 100000 := by omega
      rcases take_two rest with ⟨t, u, T, hu, ht⟩ | ⟨c, T, hc, hc9⟩
      · have HT := Lib.hid T
        clear T
        go_wp2_with (first | (go_at_call 47; refine (refTake_ok _ _ _ _ (by omega) HT).mono ?_; rintro e w1 ⟨rfl, hb1⟩; have hown1 := owns_below hown hb1; have hz1' := hb1.size; have hz2' := hb.size) | (at_builtin; refine wpList_append_own _ rfl _ _ 38 rfl w.heap.size 9 i0 (.string ⟨#[]⟩) 1 16 Tryd.underlying38 hi hz0 hz1 hz2 rfl (by decide) _ _ _ rfl (hown1.alloc _) ⟨w1.heap.size, 0, none⟩ 1 1 [.string (ba t)] rfl rfl ?c1 ?c2 ?c3 ?c4 ?c5 ?_))
        case c1 => exact new_cell w1 _
        case c2 => intro u hu; simp at hu; subst hu; rfl
        case c3 => unfold maxLen; omega
        case c4 => omega
        case c5 => simp; omega
        intro v' w2 hown2 hgrow _
        have HG : Hid (TextsAtI l w (.string (ba u)) v' (.int .i64 ((acc.length : Int) + 1)) w2) := TextsAtI_step l w wr w1 w2 rest acc t u v' HT.out (by omega) hu hb hb1 ((((Below.refl w.heap.size w1).alloc (by omega) _)).grown hgrow (by simp; omega) (fun k hk => (hown.lt k hk).1)) hz HX.out hown2
        go_wp2_with fail
        go_roundw
        case rel => exact HG.out
        case measure =>
          rw [szOf_ba]
          show u.length < rest.size
          omega
      · have HT := Lib.hid T
        have hne : ((c : Int) != 0) = true := by simpa using hc
        clear T hc
        go_wp2_with (go_at_call 47; refine (refTake_err _ _ _ (by omega) HT).mono ?_; rintro e w1 ⟨rfl, hb1⟩)
        go_ret2
        have HD := TextsAt_err l rest acc c HT.out (by simpa using hne) (by omega) HX.out
        refine ⟨_, by rw [HD]; rfl, ?_, hb.trans (hb1.mono hb.size)⟩
        rw [HD]
        exact .inl ⟨none, 0, rfl, rfl⟩

end Go.Proofs.YtkbeppmjdjddhaaDoor.Nets
