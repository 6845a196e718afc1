/-
  The lines of a written field, plainly: none too long if no run of it is, each begins with a blank but the first.
-/
import Derived.Test.YtpklmlhioklpoaaDoorHeadPlain
namespace Go.Proofs.YtpklmlhioklpoaaDoor.Head
open Go Go.RowKit

/-- Is no run beyond 69: so many bytes the run has, whether the byte before is a blank. -/
def runsB : Nat → Bool → List UInt8 → Bool
  | _, _, [] => true
  | r, b, c :: t => decide ((if bk c = true ∧ b = false then 1 else r + 1) ≤ 69) && runsB (if bk c = true ∧ b = false then 1 else r + 1) (bk c) t
theorem pcs_runs : ∀ (t w : List UInt8) (b : Bool) (r : Nat), w.length ≤ r + 1 → r ≤ 69 → runsB r b t = true → ∀ p ∈ pcs w b t, p.length ≤ 70
  | [], w, b, r, h1, h2, _ => by
    intro p hp
    rw [pcs, List.mem_singleton] at hp
    rw [hp]
    omega
  | c :: t, w, b, r, h1, h2, h3 => by
    rw [runsB, Bool.and_eq_true] at h3
    have h4 := of_decide_eq_true h3.1
    rw [pcs]
    split
    · rename_i hc
      rw [if_pos hc] at h3 h4
      intro p hp
      rcases List.mem_cons.1 hp with rfl | hp
      · omega
      · exact pcs_runs t [c] true 1 (by simp) (by omega) (by have := h3.2; rw [hc.1] at this; exact this) p hp
    · rename_i hc
      rw [if_neg hc] at h3 h4
      exact pcs_runs t (w ++ [c]) (bk c) (r + 1) (by rw [List.length_append, List.length_singleton]; omega) h4 h3.2
theorem pieces_runs {v : List UInt8} (h : runsB 0 true v = true) : ∀ p ∈ piecesL v, p.length ≤ 70 := by
  unfold piecesL
  split
  · intro p hp; cases hp
  · exact pcs_runs v [32] true 0 (by simp) (by omega) h
/-- The lines: the one at hand, whether no piece stands in it. -/
def lns : List UInt8 → Bool → List (List UInt8) → List (List UInt8)
  | cur, _, [] => [cur]
  | cur, b, p :: ps => if b = false ∧ 78 < cur.length + p.length then cur :: lns p false ps else lns (cur ++ p) false ps
/-- The lines with their ends. -/
def flt (L : List (List UInt8)) : List UInt8 := (L.map (· ++ [13, 10])).flatten
theorem flt_cons (x : List UInt8) (L : List (List UInt8)) : flt (x :: L) = x ++ 13 :: 10 :: flt L := by
  unfold flt
  simp
theorem lns_shw : ∀ (ps : List (List UInt8)) (cur : List UInt8) (b : Bool), cur ++ shw b cur.length ps = flt (lns cur b ps)
  | [], cur, b => by simp [shw, lns, flt]
  | p :: ps, cur, b => by
    rw [shw, lns]
    split
    · rw [flt_cons, ← lns_shw ps p false]
    · rw [← lns_shw ps (cur ++ p) false, List.length_append, List.append_assoc]
/-- A line that keeps what is asked. -/
def Ln (x : List UInt8) : Prop := (∀ c ∈ x, c ≠ 13) ∧ x.length ≤ 78
theorem lns_ln : ∀ (ps : List (List UInt8)) (cur : List UInt8) (b : Bool), Pcs ps → (∀ p ∈ ps, p.length ≤ 70) → Ln cur → (b = true → cur.length ≤ 8) → ∀ x ∈ lns cur b ps, Ln x
  | [], cur, b, _, _, h3, _ => by
    intro x hx
    rw [lns, List.mem_singleton] at hx
    rw [hx]
    exact h3
  | p :: ps, cur, b, h1, h2, h3, h4 => by
    have hp := h2 p (by simp)
    have ht := (h1 p (by simp)).2.2
    have h1' : Pcs ps := fun x hx => h1 x (by simp [hx])
    have h2' : ∀ x ∈ ps, x.length ≤ 70 := fun x hx => h2 x (by simp [hx])
    rw [lns]
    split
    · intro x hx
      rcases List.mem_cons.1 hx with rfl | hx
      · exact h3
      · exact lns_ln ps p false h1' h2' ⟨text_ne ht, by omega⟩ (by intro h; cases h) x hx
    · rename_i hc
      refine lns_ln ps (cur ++ p) false h1' h2' ⟨fun c hc => ?_, ?_⟩ (by intro h; cases h)
      · rcases List.mem_append.1 hc with h | h
        · exact h3.1 c h
        · exact text_ne ht c h
      · rw [List.length_append]
        cases b
        · have : ¬ 78 < cur.length + p.length := fun h => hc ⟨rfl, h⟩
          omega
        · have := h4 rfl
          omega
theorem lns_hd : ∀ (ps : List (List UInt8)) (cur : List UInt8) (b : Bool), Pcs ps → cur ≠ [] → ∃ y T, lns cur b ps = y :: T ∧ (∀ x ∈ T, hdB x = true) ∧ hdB y = hdB cur
  | [], cur, b, _, _ => ⟨cur, [], rfl, (by intro x hx; cases hx), rfl⟩
  | p :: ps, cur, b, h1, h2 => by
    have hp := h1 p (by simp)
    have h1' : Pcs ps := fun x hx => h1 x (by simp [hx])
    rw [lns]
    split
    · obtain ⟨y, T, e, h3, h4⟩ := lns_hd ps p false h1' hp.1
      refine ⟨cur, lns p false ps, rfl, fun x hx => ?_, rfl⟩
      rw [e] at hx
      rcases List.mem_cons.1 hx with rfl | hx
      · rw [h4]; exact hp.2.1
      · exact h3 x hx
    · obtain ⟨y, T, e, h3, h4⟩ := lns_hd ps (cur ++ p) false h1' (by simp [h2])
      exact ⟨y, T, e, h3, by rw [h4, hd_app h2]⟩
/-- Where the look at the lines stands: at this byte, this line's start. -/
def St (s : ByteArray) (i a : Nat) : Prop :=
  (∃ x L, (bl s).drop a = x ++ 13 :: 10 :: flt L ∧ i ≤ a + x.length ∧ a ≤ i + 1 ∧ (i + 1 = a → s.data[i]? = some 10) ∧ Ln x ∧ (∀ y ∈ L, Ln y ∧ hdB y = true) ∧ (0 < a → hdB x = true)) ∨ (a = s.size ∧ i + 1 = s.size)
theorem st_size {s : ByteArray} {a : Nat} {x r : List UInt8} (h : (bl s).drop a = x ++ 13 :: 10 :: r) : s.size = a + x.length + 2 + r.length := by
  have e := congrArg List.length h
  rw [List.length_drop, bl_len, List.length_append, List.length_cons, List.length_cons] at e
  omega
theorem get_at (s : ByteArray) (i : Nat) (h : i < s.size) : s.data[i]? = some s[i] := Array.getElem?_eq_getElem h
theorem st_get {s : ByteArray} {a : Nat} {m : List UInt8} (h : (bl s).drop a = m) (j : Nat) : s.data[a + j]? = m[j]? := by
  have h2 : ((bl s).drop a)[j]? = m[j]? := by rw [h]
  rw [List.getElem?_drop] at h2
  rw [← h2, Array.getElem?_toList]
theorem st_start {n v : List UInt8} (h : rightB n v = true) (hn : n.length ≤ 7) (hr : runsB 0 true v = true) : St (ba (showL n v)) 0 0 := by
  unfold rightB at h
  simp only [Bool.and_eq_true] at h
  obtain ⟨hnm, htx, _⟩ := h
  obtain ⟨h1, h2, h3, h4, _⟩ := name_facts hnm
  have hg := pieces_good htx
  have e : showL n v = flt (lns (n ++ [58]) true (piecesL v)) := by
    rw [← lns_shw]
    unfold showL
    simp
  obtain ⟨y, T, e2, h5, h6⟩ := lns_hd (piecesL v) (n ++ [58]) true hg (by simp)
  have hl := lns_ln (piecesL v) (n ++ [58]) true hg (pieces_runs hr) ⟨fun c hc => by
    rcases List.mem_append.1 hc with h | h
    · exact text_ne h2 c h
    · rw [List.mem_singleton] at h; rw [h]; decide, by rw [List.length_append, List.length_singleton]; omega⟩ (fun _ => by rw [List.length_append, List.length_singleton]; omega)
  rw [e2] at hl
  refine .inl ⟨y, T, ?_, Nat.zero_le _, Nat.zero_le _, (by intro h; omega), hl y (by simp), fun z hz => ⟨hl z (by simp [hz]), h5 z hz⟩, (by intro h; omega)⟩
  rw [bl_ba, e, e2, flt_cons]
  rfl
theorem st_on {s : ByteArray} {i a : Nat} (h : St s i a) (hi : i + 1 < s.size) (hc : s[i]'(by omega) ≠ 13) : St s (i + 1) a := by
  rcases h with ⟨x, L, h1, h2, h3, h4, h5, h6, h7⟩ | ⟨h1, h2⟩
  · refine .inl ⟨x, L, h1, ?_, by omega, ?_, h5, h6, h7⟩
    · rcases Nat.lt_or_ge i (a + x.length) with h | h
      · omega
      · exfalso
        have e : i = a + x.length := by omega
        have g := st_get h1 x.length
        rw [← e, List.getElem?_append_right (Nat.le_refl _), Nat.sub_self] at g
        have g2 : s.data[i]? = some (s[i]'(by omega)) := get_at s i (by omega)
        rw [g2] at g
        exact hc (by simpa using g)
    · intro e
      omega
  · omega
theorem st_line {s : ByteArray} {i a : Nat} (h : St s i a) (hi : i + 1 < s.size) (hc : s[i]'(by omega) = 13) :
    a ≤ i ∧ i - a ≤ 78 ∧ (∀ _ : 0 < a, ∃ h : a < s.size, bk s[a] = true) ∧ St s (i + 1) (i + 2) := by
  rcases h with ⟨x, L, h1, h2, h3, h4, h5, h6, h7⟩ | ⟨h1, h2⟩
  · have g2 : s.data[i]? = some (s[i]'(by omega)) := get_at s i (by omega)
    rw [hc] at g2
    have hz := st_size h1
    have hai : a ≤ i := by
      rcases Nat.lt_or_ge i a with h | h
      · exfalso
        have := h4 (by omega)
        rw [g2] at this
        cases this
      · exact h
    have hix : i = a + x.length := by
      rcases Nat.lt_or_ge i (a + x.length) with h | h
      · exfalso
        have g := st_get h1 (i - a)
        rw [show a + (i - a) = i by omega, List.getElem?_append_left (by omega), g2] at g
        exact h5.1 13 (List.mem_iff_getElem?.2 ⟨_, g.symm⟩) rfl
      · omega
    have hd : (bl s).drop (i + 2) = flt L := by
      have e : (bl s).drop (a + (x.length + 2)) = flt L := by
        rw [← List.drop_drop, h1, List.drop_append]
        simp
      rw [← e]
      congr 1
      omega
    have h10 : s.data[i + 1]? = some 10 := by
      have g := st_get h1 (x.length + 1)
      rw [List.getElem?_append_right (by omega), show x.length + 1 - x.length = 1 by omega, show a + (x.length + 1) = i + 1 by omega] at g
      exact g
    refine ⟨hai, by have := h5.2; omega, fun ha => ?_, ?_⟩
    · have hx := h7 ha
      cases x with
      | nil => cases hx
      | cons c t =>
        have has : a < s.size := by omega
        refine ⟨has, ?_⟩
        have g := st_get h1 0
        rw [Nat.add_zero] at g
        have g3 := get_at s a has
        rw [g3] at g
        have : s[a] = c := by simpa using g
        rw [this]
        exact hx
    · cases L with
      | nil =>
        refine .inr ⟨?_, ?_⟩
        · simp [flt] at hz; omega
        · simp [flt] at hz; omega
      | cons y T =>
        have hy := h6 y (by simp)
        exact .inl ⟨y, T, by rw [hd, flt_cons], by omega, by omega, fun _ => h10, hy.1, fun z hz => h6 z (by simp [hz]), fun _ => hy.2⟩
  · omega
theorem st_end {s : ByteArray} {i a : Nat} (h : St s i a) (hi : ¬ i + 1 < s.size) : a = s.size := by
  rcases h with ⟨x, L, h1, h2, h3, h4, h5, h6, h7⟩ | ⟨h1, h2⟩
  · have hz := st_size h1
    omega
  · exact h1
/-- The run, byte by byte. -/
theorem runs_step (s : ByteArray) (k r : Nat) (b : Bool) (h : k < s.size) : runsB r b ((bl s).drop k) = (decide ((if bk s[k] = true ∧ b = false then 1 else r + 1) ≤ 69) && runsB (if bk s[k] = true ∧ b = false then 1 else r + 1) (bk s[k]) ((bl s).drop (k + 1))) := by
  have hk : k < (bl s).length := by rw [bl_len]; exact h
  rw [List.drop_eq_getElem_cons hk, runsB]
  rfl
end Go.Proofs.YtpklmlhioklpoaaDoor.Head
