/-
  Two lists side by side, in plain words.
-/
import Derived.Test.YtklmhjoiffaniaaDoorMbxStep
namespace Go.Proofs.YtklmhjoiffaniaaDoor.Mbx
open Go.Proofs.YtklmhjoiffaniaaDoor.Lex
open Go.Proofs.YtklmhjoiffaniaaDoor.Addr (ofL)

abbrev commaS : ByteArray := ⟨#[44]⟩
def joinP : List Pc → List Pc → List Pc
  | [], qs => qs
  | [u], qs => ⟨u.l, commaS⟩ :: qs
  | p :: q :: r, qs => p :: joinP (q :: r) qs
theorem joinP_cons {p : Pc} {r : List Pc} (qs : List Pc) (h : r ≠ []) : joinP (p :: r) qs = p :: joinP r qs := by
  cases r with
  | nil => exact absurd rfl h
  | cons q r => rfl
theorem joinP_len (qs : List Pc) : ∀ ps : List Pc, (joinP ps qs).length = ps.length + qs.length
  | [] => by simp [joinP]
  | [u] => by simp [joinP]; omega
  | p :: q :: r => by
    have ih := joinP_len qs (q :: r)
    rw [joinP, List.length_cons, ih]
    simp only [List.length_cons]
    omega
theorem cut_join (T : List Tk) : ∀ S : List Tk, cutL (S ++ ⟨3, commaS⟩ :: T) = joinP (cutL S) (cutL T)
  | [] => rfl
  | t :: S => by
    have ih := cut_join T S
    rw [List.cons_append, cutL, cutL]
    have hne := cut_ne S
    by_cases ht : endT t = true
    · rw [if_pos ht, if_pos ht, ih, joinP_cons _ hne]
    · rw [if_neg ht, if_neg ht, ih]
      cases hq : cutL S with
      | nil => exact absurd hq hne
      | cons p r =>
        cases r with
        | nil => rfl
        | cons q r => rfl

/-! Enough rounds. -/
theorem mbx_shorter {ps : List Pc} {B : List Bx} (h : (mbxP ps B).1 = 0) : (mbxP ps B).2.1.length ≤ ps.length := by
  cases ps with
  | nil => cases h
  | cons p r =>
    rw [mbxP] at h ⊢
    split at h
    · rename_i h1
      rw [if_pos h1]
      cases r with
      | nil => cases h
      | cons q r1 =>
        rw [angP] at h ⊢
        split at h
        · rename_i h2
          rw [if_pos h2]
          split at h
          · rename_i h3
            rw [if_pos h3]
            simp only [List.length_cons]
            omega
          · cases h
        · rename_i h2
          exact absurd h h2
    · rename_i h1
      rw [if_neg h1]
      split at h
      · rename_i h2
        rw [if_pos h2]
        simp
      · rename_i h2
        exact absurd h h2
theorem take_shorter {c : UInt8} {ps r : List Pc} (h : takeP c ps = some r) : r.length < ps.length := by
  obtain ⟨u, rfl, _⟩ := take_some h
  simp
theorem grp_fuel : ∀ (n m : Nat) (ps : List Pc) (B : List Bx), ps.length ≤ n → ps.length ≤ m → grp n ps B = grp m ps B
  | 0, 0, _, _, _, _ => rfl
  | 0, m + 1, ps, B, h, _ => by
    obtain rfl := List.length_eq_zero_iff.1 (Nat.le_zero.1 h)
    rfl
  | n + 1, 0, ps, B, _, h => by
    obtain rfl := List.length_eq_zero_iff.1 (Nat.le_zero.1 h)
    rfl
  | n + 1, m + 1, ps, B, hn, hm => by
    rw [grp, grp]
    by_cases h0 : (mbxP ps B).1 = 0
    · rw [if_pos h0, if_pos h0]
      have hl := mbx_shorter h0
      cases takeP 59 (mbxP ps B).2.1 with
      | some r => rfl
      | none =>
        cases h2 : takeP 44 (mbxP ps B).2.1 with
        | some r =>
          have := take_shorter h2
          exact grp_fuel n m r _ (by omega) (by omega)
        | none => rfl
    · rw [if_neg h0, if_neg h0]
theorem grp_shorter : ∀ (n : Nat) (ps : List Pc) (B : List Bx), (grp n ps B).1 = 0 → (grp n ps B).2.1.length < ps.length
  | 0, _, _, h => by cases h
  | n + 1, ps, B, h => by
    rw [grp] at h ⊢
    split at h
    · rename_i h1
      rw [if_pos h1]
      have hl := mbx_shorter h1
      cases h2 : takeP 59 (mbxP ps B).2.1 with
      | some r =>
        have := take_shorter h2
        simp only
        omega
      | none =>
        rw [h2] at h
        cases h3 : takeP 44 (mbxP ps B).2.1 with
        | some r =>
          rw [h3] at h
          have h4 := take_shorter h3
          have h5 := grp_shorter n r _ h
          simp only at *
          omega
        | none => rw [h3] at h; cases h
    · rename_i h1
      exact absurd h h1
theorem prt_shorter {n : Nat} {ps : List Pc} {B : List Bx} (h : (prt n ps B).1 = 0) : (prt n ps B).2.1.length ≤ ps.length := by
  cases ps with
  | nil => cases h
  | cons p r =>
    rw [prt] at h ⊢
    split at h
    · rename_i h1
      rw [if_pos h1]
      unfold grp0 at h ⊢
      cases h2 : takeP 59 r with
      | some r' =>
        have := take_shorter h2
        simp only [List.length_cons]
        omega
      | none =>
        rw [h2] at h
        have := grp_shorter n r B h
        simp only [List.length_cons] at *
        omega
    · rename_i h1
      rw [if_neg h1]
      exact mbx_shorter h
theorem prt_fuel (n m : Nat) (ps : List Pc) (B : List Bx) (hn : ps.length ≤ n + 1) (hm : ps.length ≤ m + 1) : prt n ps B = prt m ps B := by
  cases ps with
  | nil => rfl
  | cons p r =>
    rw [prt, prt]
    unfold grp0
    rw [grp_fuel n m r B (by simp at hn; omega) (by simp at hm; omega)]
theorem lst_fuel : ∀ (n m : Nat) (ps : List Pc) (B : List Bx), ps.length ≤ n → ps.length ≤ m → lst n ps B = lst m ps B
  | 0, 0, _, _, _, _ => rfl
  | 0, m + 1, ps, B, h, _ => by
    obtain rfl := List.length_eq_zero_iff.1 (Nat.le_zero.1 h)
    rfl
  | n + 1, 0, ps, B, _, h => by
    obtain rfl := List.length_eq_zero_iff.1 (Nat.le_zero.1 h)
    rfl
  | n + 1, m + 1, ps, B, hn, hm => by
    rw [lst, lst, prt_fuel n m ps B hn hm]
    unfold contK
    by_cases h0 : (prt m ps B).1 = 0
    · rw [if_pos h0, if_pos h0]
      have hl := prt_shorter h0
      split
      · rfl
      · cases h2 : takeP 44 (prt m ps B).2.1 with
        | some r =>
          have := take_shorter h2
          exact lst_fuel n m r _ (by omega) (by omega)
        | none => rfl
    · rw [if_neg h0, if_neg h0]

/-! A list read in front of another one. -/
theorem Wf.sign {p : Pc} {r : List Pc} (h : Wf (p :: r)) : Wf (⟨[], p.s⟩ :: r) := by
  obtain ⟨T, ho, hc⟩ := h
  obtain ⟨_, _, h3, _⟩ := seg_cut hc
  exact ⟨_, fun t ht => ho t (List.mem_of_mem_drop ht), h3⟩
theorem Wf.tail {p : Pc} {r : List Pc} (h : Wf (p :: r)) (hs : bl p.s ≠ []) : Wf r := by
  rcases h.cons with ⟨h1, _⟩ | h1
  · exact absurd (by rw [h1]) hs
  · exact h1.2
theorem take_wf {c : UInt8} {ps r : List Pc} (h : takeP c ps = some r) (hw : Wf ps) : Wf r := by
  obtain ⟨u, rfl, _, h2⟩ := take_some h
  exact hw.tail (by rw [h2]; simp)
theorem take_join {c : UInt8} {ps r : List Pc} (qs : List Pc) (h : takeP c ps = some r) (hw : Wf ps) : takeP c (joinP ps qs) = some (joinP r qs) := by
  obtain ⟨u, rfl, h1, h2⟩ := take_some h
  rw [joinP_cons _ (hw.tail (by rw [h2]; simp)).ne]
  exact take_yes h1 h2
theorem take_join_no {ps : List Pc} (qs : List Pc) (h : takeP 59 ps = none) (hw : Wf ps) : takeP 59 (joinP ps qs) = none := by
  cases ps with
  | nil => exact absurd rfl hw.ne
  | cons u r =>
    cases r with
    | nil =>
      show takeP 59 (⟨u.l, commaS⟩ :: qs) = none
      exact take_no (show bl commaS ≠ [59] by decide)
    | cons v r =>
      rw [joinP_cons _ (by simp)]
      rw [takeP] at h ⊢
      by_cases hc : (u.l.isEmpty && sgB u.s 59) = true
      · rw [if_pos hc] at h
        cases h
      · rw [if_neg hc]
theorem mbx_join {ps : List Pc} {B : List Bx} (qs : List Pc) (hw : Wf ps) (h : (mbxP ps B).1 = 0) : mbxP (joinP ps qs) B = (0, joinP (mbxP ps B).2.1 qs, (mbxP ps B).2.2) ∧ Wf (mbxP ps B).2.1 := by
  cases ps with
  | nil => cases h
  | cons p r =>
    by_cases ha : angle p = true
    · have hs : bl p.s ≠ [] := by
        unfold angle at ha
        rw [Bool.and_eq_true] at ha
        exact sg_ne ha.1
      have hr := hw.tail hs
      rw [joinP_cons _ hr.ne]
      cases r with
      | nil => exact absurd rfl hr.ne
      | cons q r1 =>
        rw [mbxP, if_pos ha, angP] at h
        split at h
        · rename_i h2
          split at h
          · rename_i h3
            have hr1 := hr.tail (sg_ne h3)
            rw [joinP_cons _ hr1.ne, mbxP, mbxP, if_pos ha, if_pos ha, angP, angP, if_pos h2, if_pos h2, if_pos h3, if_pos h3]
            exact ⟨rfl, hr1⟩
          · cases h
        · rename_i h2
          exact absurd h h2
    · have hm : mbxP (p :: r) B = (0, ⟨[], p.s⟩ :: r, (adrP [] p.l B).2) ∧ (adrP [] p.l B).1 = 0 := by
        rw [mbxP, if_neg ha] at h ⊢
        split at h
        · rename_i h2
          exact ⟨by rw [if_pos h2], h2⟩
        · rename_i h2
          exact absurd h h2
      rw [hm.1]
      refine ⟨?_, hw.sign⟩
      rcases hw.cons with ⟨h1, rfl⟩ | ⟨h1, h2⟩
      · show mbxP (⟨p.l, commaS⟩ :: qs) B = (0, ⟨[], commaS⟩ :: qs, (adrP [] p.l B).2)
        rw [mbxP, if_neg, if_pos hm.2]
        unfold angle
        rw [Bool.and_eq_true]
        intro e
        exact absurd e.1 (show ¬ sgB commaS 60 = true by decide)
      · rw [joinP_cons _ h2.ne, mbxP, if_neg ha, if_pos hm.2, joinP_cons _ h2.ne]
theorem grp_join (qs : List Pc) : ∀ (n : Nat) (ps : List Pc) (B : List Bx) (N : Nat), Wf ps → (grp n ps B).1 = 0 → (joinP ps qs).length ≤ N → grp N (joinP ps qs) B = (0, joinP (grp n ps B).2.1 qs, (grp n ps B).2.2) ∧ Wf (grp n ps B).2.1
  | 0, _, _, _, _, h, _ => by cases h
  | n + 1, ps, B, N, hw, h, hN => by
    obtain ⟨N', rfl⟩ : ∃ N', N = N' + 1 := by
      refine ⟨N - 1, ?_⟩
      rw [joinP_len] at hN
      have : ps.length ≠ 0 := fun e => hw.ne (List.length_eq_zero_iff.1 e)
      omega
    rw [grp] at h
    rw [grp, grp]
    split at h
    · rename_i h1
      obtain ⟨e1, e2⟩ := mbx_join qs hw h1
      have hl := mbx_shorter h1
      rw [if_pos h1, e1, if_pos rfl]
      cases h2 : takeP 59 (mbxP ps B).2.1 with
      | some r =>
        simp only
        rw [take_join qs h2 e2]
        exact ⟨rfl, take_wf h2 e2⟩
      | none =>
        rw [h2] at h
        simp only
        rw [take_join_no qs h2 e2]
        cases h3 : takeP 44 (mbxP ps B).2.1 with
        | some r =>
          rw [h3] at h
          simp only
          rw [take_join qs h3 e2]
          have h4 := take_shorter h3
          exact grp_join qs n r _ N' (take_wf h3 e2) h (by rw [joinP_len] at hN ⊢; omega)
        | none => rw [h3] at h; cases h
    · rename_i h1
      exact absurd h h1
theorem prt_join (qs : List Pc) (n N : Nat) (ps : List Pc) (B : List Bx) (hw : Wf ps) (h : (prt n ps B).1 = 0) (hN : (joinP ps qs).length ≤ N + 1) : prt N (joinP ps qs) B = (0, joinP (prt n ps B).2.1 qs, (prt n ps B).2.2) ∧ Wf (prt n ps B).2.1 := by
  cases ps with
  | nil => cases h
  | cons p r =>
    rw [prt] at h
    split at h
    · rename_i hc
      have hs : bl p.s ≠ [] := by
        unfold colon at hc
        rw [Bool.and_eq_true] at hc
        exact sg_ne hc.1
      have hr := hw.tail hs
      rw [joinP_cons _ hr.ne] at hN ⊢
      rw [prt, prt, if_pos hc, if_pos hc]
      unfold grp0 at h ⊢
      cases h2 : takeP 59 r with
      | some r' =>
        rw [take_join qs h2 hr]
        exact ⟨rfl, take_wf h2 hr⟩
      | none =>
        rw [h2] at h
        rw [take_join_no qs h2 hr]
        exact grp_join qs n r B N hr h (by simp at hN; omega)
    · rename_i hc
      obtain ⟨e1, e2⟩ := mbx_join qs hw h
      have e3 : prt N (joinP (p :: r) qs) B = mbxP (joinP (p :: r) qs) B := by
        rcases hw.cons with ⟨h1, rfl⟩ | ⟨h1, h2⟩
        · show prt N (⟨p.l, commaS⟩ :: qs) B = mbxP (⟨p.l, commaS⟩ :: qs) B
          rw [prt, if_neg]
          unfold colon
          rw [Bool.and_eq_true]
          intro e
          exact absurd e.1 (show ¬ sgB commaS 58 = true by decide)
        · rw [joinP_cons _ h2.ne, prt, if_neg hc]
      rw [prt, if_neg hc, e3]
      exact ⟨e1, e2⟩
theorem done_is {ps : List Pc} (h : doneP ps = true) : ∃ u, ps = [u] ∧ u.l = [] := by
  unfold doneP at h
  split at h
  · rename_i u
    rw [Bool.and_eq_true, List.isEmpty_iff] at h
    exact ⟨u, rfl, h.1⟩
  · cases h
theorem lst_join (qs : List Pc) (M : Nat) (hM : qs.length ≤ M) : ∀ (n : Nat) (ps : List Pc) (B X : List Bx) (N : Nat), Wf ps → lst n ps B = (0, X) → (joinP ps qs).length ≤ N → lst N (joinP ps qs) B = lst M qs X
  | 0, _, _, _, _, _, h, _ => by cases (Prod.mk.inj h).1
  | n + 1, ps, B, X, N, hw, h, hN => by
    obtain ⟨N', rfl⟩ : ∃ N', N = N' + 1 := by
      refine ⟨N - 1, ?_⟩
      rw [joinP_len] at hN
      have : ps.length ≠ 0 := fun e => hw.ne (List.length_eq_zero_iff.1 e)
      omega
    rw [lst] at h ⊢
    unfold contK at h
    split at h
    · rename_i h1
      obtain ⟨e1, e2⟩ := prt_join qs n N' ps B hw h1 hN
      have hl := prt_shorter h1
      rw [e1, cont_yes]
      split at h
      · rename_i h2
        obtain ⟨u, hu, hul⟩ := done_is h2
        obtain rfl : (prt n ps B).2.2 = X := (Prod.mk.inj h).2
        rw [hu]
        have e3 : joinP [u] qs = ⟨[], commaS⟩ :: qs := by rw [joinP, hul]
        rw [e3, done_no (by decide), if_neg (by decide), take_yes (u := ⟨[], commaS⟩) rfl rfl]
        have : ps.length ≠ 0 := fun e => hw.ne (List.length_eq_zero_iff.1 e)
        exact lst_fuel _ _ _ _ (by rw [joinP_len] at hN; omega) hM
      · cases h3 : takeP 44 (prt n ps B).2.1 with
        | some r =>
          rw [h3] at h
          have h4 := take_shorter h3
          have hr := take_wf h3 e2
          obtain ⟨u, hu, h5, h6⟩ := take_some h3
          rw [take_join qs h3 e2]
          have hd : doneP (joinP (prt n ps B).2.1 qs) = false := by
            rw [hu, joinP_cons _ hr.ne]
            have h7 : joinP r qs ≠ [] := by
              intro e
              have := congrArg List.length e
              rw [joinP_len, List.length_nil] at this
              have h8 : r.length ≠ 0 := fun e => hr.ne (List.length_eq_zero_iff.1 e)
              omega
            cases hj : joinP r qs with
            | nil => exact absurd hj h7
            | cons a b => rfl
          rw [hd, if_neg (by decide)]
          exact lst_join qs M hM n r _ X N' hr h (by rw [joinP_len] at hN ⊢; omega)
        | none => rw [h3] at h; cases (Prod.mk.inj h).1
    · rename_i h1
      exact absurd (Prod.mk.inj h).1 h1

/-! Boxes that were there change nothing but the count. -/
section
variable {n : List UInt8} {L : List Tk} {ps : List Pc} {A B : List Bx}
theorem adr_pre (h : (adrP n L B).1 = 0) (hl : A.length + (adrP n L B).2.length ≤ 100) : adrP n L (A ++ B) = (0, A ++ (adrP n L B).2) := by
  obtain ⟨h1, h2, h3⟩ := adr_ok h
  rw [h3] at hl ⊢
  rw [adr_yes h1 (by rw [List.length_append] at hl ⊢; simp at hl; omega)]
  simp
theorem mbx_pre (h : (mbxP ps B).1 = 0) (hl : A.length + (mbxP ps B).2.2.length ≤ 100) : mbxP ps (A ++ B) = (0, (mbxP ps B).2.1, A ++ (mbxP ps B).2.2) := by
  cases ps with
  | nil => cases h
  | cons p r =>
    rw [mbxP] at h hl ⊢
    rw [mbxP]
    split at h
    · rename_i ha
      rw [if_pos ha] at hl ⊢
      rw [if_pos ha]
      cases r with
      | nil => cases h
      | cons q r1 =>
        rw [angP] at h hl ⊢
        rw [angP]
        split at h
        · rename_i h2
          rw [if_pos h2] at hl ⊢
          split at h
          · rename_i h3
            rw [if_pos h3] at hl ⊢
            rw [adr_pre h2 hl, if_pos rfl, if_pos h3]
          · cases h
        · rename_i h2
          exact absurd h h2
    · rename_i ha
      rw [if_neg ha] at hl ⊢
      rw [if_neg ha]
      split at h
      · rename_i h2
        rw [if_pos h2] at hl ⊢
        rw [adr_pre h2 hl, if_pos rfl]
      · rename_i h2
        exact absurd h h2
theorem mbx_grows (h : (mbxP ps B).1 = 0) : B.length ≤ (mbxP ps B).2.2.length := by
  have S : Stays (fun _ C => B.length ≤ C.length) := ⟨fun ps C hC h => by
    cases ps with
    | nil => cases h
    | cons p r =>
      rw [mbxP] at h ⊢
      split at h
      · rename_i ha
        rw [if_pos ha]
        cases r with
        | nil => cases h
        | cons q r1 =>
          rw [angP] at h ⊢
          split at h
          · rename_i h2
            rw [if_pos h2]
            split at h
            · rename_i h3
              rw [if_pos h3, (adr_ok h2).2.2, List.length_append]
              omega
            · cases h
          · rename_i h2
            exact absurd h h2
      · rename_i ha
        rw [if_neg ha]
        split at h
        · rename_i h2
          rw [if_pos h2, (adr_ok h2).2.2, List.length_append]
          omega
        · rename_i h2
          exact absurd h h2, fun _ _ _ h => h⟩
  exact S.mbx ps B (Nat.le_refl _) h
end
theorem stays_grows (N : Nat) : Stays (fun _ C => N ≤ C.length) := ⟨fun _ _ hC h => Nat.le_trans hC (mbx_grows h), fun _ _ _ h => h⟩
theorem grp_pre {A : List Bx} : ∀ (n : Nat) (ps : List Pc) (B : List Bx), (grp n ps B).1 = 0 → A.length + (grp n ps B).2.2.length ≤ 100 → grp n ps (A ++ B) = (0, (grp n ps B).2.1, A ++ (grp n ps B).2.2)
  | 0, _, _, h, _ => by cases h
  | n + 1, ps, B, h, hl => by
    rw [grp] at h hl ⊢
    rw [grp]
    split at h
    · rename_i h1
      rw [if_pos h1] at hl ⊢
      cases h2 : takeP 59 (mbxP ps B).2.1 with
      | some r =>
        rw [h2] at hl
        rw [mbx_pre h1 hl, if_pos rfl]
        simp only
        rw [h2]
      | none =>
        rw [h2] at h hl
        cases h3 : takeP 44 (mbxP ps B).2.1 with
        | some r =>
          rw [h3] at h hl
          have hg := (stays_grows (mbxP ps B).2.2.length).grp n r _ (Nat.le_refl _) h
          rw [mbx_pre h1 (by simp only at hl; omega), if_pos rfl]
          simp only
          rw [h2, h3]
          exact grp_pre n r _ h hl
        | none => rw [h3] at h; cases h
    · rename_i h1
      exact absurd h h1
theorem prt_pre {A : List Bx} (n : Nat) (ps : List Pc) (B : List Bx) (h : (prt n ps B).1 = 0) (hl : A.length + (prt n ps B).2.2.length ≤ 100) : prt n ps (A ++ B) = (0, (prt n ps B).2.1, A ++ (prt n ps B).2.2) := by
  cases ps with
  | nil => cases h
  | cons p r =>
    rw [prt] at h hl ⊢
    rw [prt]
    split at h
    · rename_i hc
      rw [if_pos hc] at hl ⊢
      rw [if_pos hc]
      unfold grp0 at h hl ⊢
      cases h2 : takeP 59 r with
      | some r' => rfl
      | none =>
        rw [h2] at h hl
        exact grp_pre n r B h hl
    · rename_i hc
      rw [if_neg hc] at hl ⊢
      rw [if_neg hc]
      exact mbx_pre h hl
theorem lst_grows (n : Nat) (ps : List Pc) (B : List Bx) (h : (lst n ps B).1 = 0) : B.length ≤ (lst n ps B).2.length := by
  obtain ⟨_, h⟩ := (stays_grows B.length).lst n ps B (Nat.le_refl _) h
  exact h
theorem lst_pre {A : List Bx} : ∀ (n : Nat) (ps : List Pc) (B Y : List Bx), lst n ps B = (0, Y) → A.length + Y.length ≤ 100 → lst n ps (A ++ B) = (0, A ++ Y)
  | 0, _, _, _, h, _ => by cases (Prod.mk.inj h).1
  | n + 1, ps, B, Y, h, hl => by
    rw [lst] at h ⊢
    unfold contK at h
    split at h
    · rename_i h1
      split at h
      · rename_i h2
        obtain rfl : (prt n ps B).2.2 = Y := (Prod.mk.inj h).2
        rw [prt_pre n ps B h1 hl, cont_yes, if_pos h2]
      · rename_i h2
        cases h3 : takeP 44 (prt n ps B).2.1 with
        | some r =>
          rw [h3] at h
          have hg := lst_grows n r (prt n ps B).2.2 (by show (lst n r (prt n ps B).2.2).1 = 0; rw [show lst n r (prt n ps B).2.2 = (0, Y) from h])
          rw [show lst n r (prt n ps B).2.2 = (0, Y) from h] at hg
          rw [prt_pre n ps B h1 (by simp only at hg; omega), cont_yes, if_neg h2, h3]
          exact lst_pre n r _ Y h hl
        | none => rw [h3] at h; cases (Prod.mk.inj h).1
    · rename_i h1
      exact absurd (Prod.mk.inj h).1 h1
theorem read_tokens {s : List UInt8} {X : List Bx} (h : readL s = (0, X)) : ∃ T, scan s = (0, T) ∧ (∀ t ∈ T, Ok t) ∧ lst (cutL T).length (cutL T) [] = (0, X) := by
  unfold readL at h
  split at h
  · rename_i h0
    have hT : scan s = (0, (scan s).2) := by rw [← h0]
    exact ⟨_, hT, (scan_ok hT).1, h⟩
  · rename_i h0
    exact absurd (Prod.mk.inj h).1 h0
theorem read_of {s : List UInt8} {T : List Tk} (h : scan s = (0, T)) : readL s = lst (cutL T).length (cutL T) [] := by
  unfold readL
  rw [h, if_pos rfl]
  rfl
theorem sp44 : sp 44 = true := by decide
theorem bk32 : bk 32 = true := by decide
/-- SIDE BY SIDE. -/
theorem read_side {a b : List UInt8} {X Y : List Bx} (ha : readL a = (0, X)) (hb : readL b = (0, Y)) (hl : X.length + Y.length ≤ 100) : readL (a ++ ([32, 44, 32] ++ b)) = (0, X ++ Y) := by
  obtain ⟨S, hS, hSo, hSr⟩ := read_tokens ha
  obtain ⟨T, hT, hTo, hTr⟩ := read_tokens hb
  have hc : scan (44 :: 32 :: b) = (0, ⟨3, commaS⟩ :: T) := by
    show sc false .z [] (44 :: 32 :: b) = _
    rw [sc_special _ _ _ sp44, sc_blank _ _ _ bk32]
    have := sc_out b false .z [⟨3, commaS⟩] [] T hT
    exact this
  have hs : scan (a ++ 32 :: (44 :: 32 :: b)) = (0, S ++ ⟨3, commaS⟩ :: T) := scan_parts bk32 hS hc
  show readL (a ++ 32 :: (44 :: 32 :: b)) = _
  rw [read_of hs, cut_join, lst_join (cutL T) (cutL T).length (Nat.le_refl _) _ _ _ X _ ⟨S, hSo, rfl⟩ hSr (Nat.le_refl _)]
  have := lst_pre (A := X) _ _ _ _ hTr hl
  rwa [List.append_nil] at this
end Go.Proofs.YtklmhjoiffaniaaDoor.Mbx
