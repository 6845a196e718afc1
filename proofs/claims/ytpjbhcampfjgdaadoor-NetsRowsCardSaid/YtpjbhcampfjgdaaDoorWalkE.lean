/-
  Walks of Texts (the program's and the document's) and Pick.
-/
import Derived.Test.YtpjbhcampfjgdaaDoorWalkD
namespace Go.Proofs.YtpjbhcampfjgdaaDoor
open Go.RowKit

theorem infoString : (Tryd.prog.info? 9).map (fun i => (i.zero, i.size, i.bytes)) = some (some (.string ⟨#[]⟩), 1, 16) := by kernel_rfl
def szOf : Value → Nat
  | .string s => s.size
  | _ => 0

theorem szOf_ba (u : List UInt8) : szOf (.string (ba u)) = u.length := by simp [szOf, ByteArray.size]

theorem reads_owns {w : World} {B : Nat} {v : Value} {acc : List ByteArray} (h : w.ownsRow B 9 1 v acc.length (acc.map Value.string)) : Reads w v acc := by
  have hc := fun g hg => h.cells (g := g) hg
  have hlt := h.lt
  rcases h.2 with ⟨rfl, hn⟩ | ⟨g, cap, cur, rfl, hb, hg, h1, h2, _, _⟩
  · exact .inl ⟨none, 0, rfl, List.length_eq_zero_iff.1 hn⟩
  · by_cases h0 : acc.length = 0
    · exact .inl ⟨some ⟨g, 0, none⟩, cap, by rw [h0], List.length_eq_zero_iff.1 h0⟩
    · refine .inr ⟨by omega, g, 0, cap, rfl, h1, h2, (hlt g rfl).2, fun i hi => ?_⟩
      have e := hc g rfl i (.string (acc.getD i ByteArray.empty)) (by
        rw [List.getElem?_map, List.getD_eq_getElem?_getD, List.getElem?_eq_getElem hi]; rfl)
      have hp : (⟨g, 0, none⟩ : Addr).add i = ⟨g, 0 + i, none⟩ := by unfold Addr.add; split <;> simp_all
      rw [hp] at e
      exact e

def TextsPost (l : List UInt8) (w : World) (e : Ending) (w' : World) : Prop :=
  ∃ v, e = .returned (.tuple #[v, .int .i64 ((textsS l).2 : Nat)]) ∧ Reads w' v ((textsS l).1.map ba) ∧ Below w.heap.size w w'

def TextsAtI (l : List UInt8) (w : World) (s v i : Value) (wr : World) : Prop :=
  ∃ (rest : ByteArray) (acc : List ByteArray), s = .string rest ∧ wr.ownsRow w.heap.size 9 1 v acc.length (acc.map Value.string) ∧ Below w.heap.size w wr ∧ acc.length * 3 + rest.size ≤ l.length ∧
    textsS l = (if (textsS (bl rest)).2 ≠ 0 then ([], (textsS (bl rest)).2) else (acc.map bl ++ (textsS (bl rest)).1, 0)) ∧ i = .int .i64 acc.length
def TextsAt (l : List UInt8) (w : World) (s v : Value) (wr : World) : Prop :=
  ∃ (rest : ByteArray) (acc : List ByteArray), s = .string rest ∧ wr.ownsRow w.heap.size 9 1 v acc.length (acc.map Value.string) ∧ Below w.heap.size w wr ∧ acc.length * 3 + rest.size ≤ l.length ∧
    textsS l = (if (textsS (bl rest)).2 ≠ 0 then ([], (textsS (bl rest)).2) else (acc.map bl ++ (textsS (bl rest)).1, 0))

theorem take_ok (s : ByteArray) (t u : List UInt8) (w : World) (hs : s.size ≤ 100000) (H : Hid (takeS (bl s) = (t, u, 0))) :
    Calls Tryd.prog 8 #[.string s] w fun e w' => e = .returned (.tuple #[.string (ba t), .string (ba u), .int .i64 0]) ∧ Below w.heap.size w w' := by
  have h := take_any s w hs
  rw [H.out] at h
  exact h
theorem take_err (s : ByteArray) (c : Nat) (w : World) (hs : s.size ≤ 100000) (H : Hid (takeS (bl s) = ([], [], c))) :
    Calls Tryd.prog 8 #[.string s] w fun e w' => e = .returned (.tuple #[.string ⟨#[]⟩, .string ⟨#[]⟩, .int .i64 c]) ∧ Below w.heap.size w w' := by
  have h := take_any s w hs
  rw [H.out] at h
  exact h
theorem refTake_ok (s : ByteArray) (t u : List UInt8) (w : World) (hs : s.size ≤ 100000) (H : Hid (takeS (bl s) = (t, u, 0))) :
    Calls Tryd.prog 9 #[.string s] w fun e w' => e = .returned (.tuple #[.string (ba t), .string (ba u), .int .i64 0]) ∧ Below w.heap.size w w' := by
  have h := refTake_any s w hs
  rw [H.out] at h
  exact h
theorem refTake_err (s : ByteArray) (c : Nat) (w : World) (hs : s.size ≤ 100000) (H : Hid (takeS (bl s) = ([], [], c))) :
    Calls Tryd.prog 9 #[.string s] w fun e w' => e = .returned (.tuple #[.string ⟨#[]⟩, .string ⟨#[]⟩, .int .i64 c]) ∧ Below w.heap.size w w' := by
  have h := refTake_any s w hs
  rw [H.out] at h
  exact h

/-- The two ways of a taking. -/
theorem take_two (s : ByteArray) : (∃ t u, takeS (bl s) = (t, u, 0) ∧ u.length + 3 ≤ s.size ∧ t.length ≤ s.size) ∨ (∃ c, takeS (bl s) = ([], [], c) ∧ c ≠ 0 ∧ c ≤ 9) := by
  rcases put_take (bl s) with ⟨h1, h2, h3⟩ | ⟨h1, h2, h3⟩
  · refine .inl ⟨(takeS (bl s)).1, (takeS (bl s)).2.1, by rw [← h1], ?_, ?_⟩
    all_goals
      have h4 := congrArg List.length h2
      have e : (bl s).length = s.size := by simp
      have h5 : 1 ≤ (Lib.decDigits (takeS (bl s)).1.length).length := List.length_pos_iff.2 (dec_ne _)
      unfold putS at h4
      simp only [List.length_append, List.length_cons, List.length_nil] at h4
      omega
  · refine .inr ⟨(takeS (bl s)).2.2, ?_, h1, ?_⟩
    · generalize takeS (bl s) = r at *
      obtain ⟨a, b, c⟩ := r
      simp at h2 h3 ⊢
      exact ⟨h2, h3⟩
    · unfold takeS
      repeat' split
      all_goals simp

theorem TextsAt_step (l : List UInt8) (w wr w1 w2 : World) (rest : ByteArray) (acc : List ByteArray) (t u : List UInt8) (v : Value) (T : takeS (bl rest) = (t, u, 0)) (h0 : 0 < rest.size) (hu : u.length + 3 ≤ rest.size)
    (hb : Below w.heap.size w wr) (hb1 : Below wr.heap.size wr w1) (hb2 : Below w.heap.size w1 w2) (hz : acc.length * 3 + rest.size ≤ l.length)
    (hx : textsS l = (if (textsS (bl rest)).2 ≠ 0 then ([], (textsS (bl rest)).2) else (acc.map bl ++ (textsS (bl rest)).1, 0)))
    (hown : w2.ownsRow w.heap.size 9 1 v (acc.length + 1) (acc.map Value.string ++ [.string (ba t)])) : TextsAt l w (.string (ba u)) v w2 := by
  refine ⟨ba u, acc ++ [ba t], rfl, by simpa using hown, (hb.trans (hb1.mono hb.size)).trans hb2, ?_, ?_⟩
  · have e : (ba u).size = u.length := by simp [ByteArray.size]
    rw [e]
    simp
    omega
  · rw [hx, texts_step _ (bl_ne rest h0), T, bl_ba]
    simp only [ne_eq, not_true_eq_false, if_false]
    by_cases c : (textsS u).2 = 0
    · simp [c]
    · simp [c]
theorem TextsAtI_step (l : List UInt8) (w wr w1 w2 : World) (rest : ByteArray) (acc : List ByteArray) (t u : List UInt8) (v : Value) (T : takeS (bl rest) = (t, u, 0)) (h0 : 0 < rest.size) (hu : u.length + 3 ≤ rest.size)
    (hb : Below w.heap.size w wr) (hb1 : Below wr.heap.size wr w1) (hb2 : Below w.heap.size w1 w2) (hz : acc.length * 3 + rest.size ≤ l.length)
    (hx : textsS l = (if (textsS (bl rest)).2 ≠ 0 then ([], (textsS (bl rest)).2) else (acc.map bl ++ (textsS (bl rest)).1, 0)))
    (hown : w2.ownsRow w.heap.size 9 1 v (acc.length + 1) (acc.map Value.string ++ [.string (ba t)])) : TextsAtI l w (.string (ba u)) v (.int .i64 ((acc.length : Int) + 1)) w2 := by
  refine ⟨ba u, acc ++ [ba t], rfl, by simpa using hown, (hb.trans (hb1.mono hb.size)).trans hb2, ?_, ?_, by simp⟩
  · have e : (ba u).size = u.length := by simp [ByteArray.size]
    rw [e]
    simp
    omega
  · rw [hx, texts_step _ (bl_ne rest h0), T, bl_ba]
    simp only [ne_eq, not_true_eq_false, if_false]
    by_cases c : (textsS u).2 = 0
    · simp [c]
    · simp [c]
theorem TextsAt_end (l : List UInt8) (rest : ByteArray) (acc : List ByteArray) (h0 : rest.size = 0)
    (hx : textsS l = (if (textsS (bl rest)).2 ≠ 0 then ([], (textsS (bl rest)).2) else (acc.map bl ++ (textsS (bl rest)).1, 0))) : textsS l = (acc.map bl, 0) := by
  have e : bl rest = [] := emp_true rest (emp_of rest h0)
  rw [hx, e, texts_nil]
  simp
theorem TextsAt_err (l : List UInt8) (rest : ByteArray) (acc : List ByteArray) (c : Nat) (T : takeS (bl rest) = ([], [], c)) (hc : c ≠ 0) (h0 : 0 < rest.size)
    (hx : textsS l = (if (textsS (bl rest)).2 ≠ 0 then ([], (textsS (bl rest)).2) else (acc.map bl ++ (textsS (bl rest)).1, 0))) : textsS l = ([], c) := by
  have e : textsS (bl rest) = ([], c) := by rw [texts_step _ (bl_ne rest h0), T]; simp [hc]
  rw [hx, e]
  simp [hc]
theorem map_ba_bl (acc : List ByteArray) : (acc.map bl).map ba = acc := by
  rw [List.map_map]
  conv => rhs; rw [← List.map_id acc]
  rfl

theorem new_cell (w : World) (x : Value) : ∀ (j : Nat) (u : Value), [x][j]? = some u → (w.alloc (Obj.cells #[x] 9)).cell? ((⟨w.heap.size, 0, none⟩ : Addr).add j) = some u := by
  intro j u hu
  obtain rfl : j = 0 := by
    have := (List.getElem?_eq_some_iff.1 hu).1
    simpa using this
  have hp : (⟨w.heap.size, 0, none⟩ : Addr).add 0 = ⟨w.heap.size, 0, none⟩ := by unfold Addr.add; split <;> simp_all
  have hh : (w.alloc (.cells #[x] 9)).heap[w.heap.size]? = some (.cells #[x] 9) := by
    show (w.heap.push (.cells #[x] 9))[w.heap.size]? = _
    simp
  rw [hp, Lib.cell_of_heap hh]
  simpa using hu

set_option maxHeartbeats 1000000 in
theorem texts_any (s : ByteArray) (w : World) (hs : s.size ≤ 100000) : Calls Tryd.prog 12 #[.string s] w (TextsPost (bl s) w) := by
  obtain ⟨i0, hi, hz0, hz1, hz2⟩ := info_parts infoString
  have hl : (bl s).length ≤ 100000 := by simpa using hs
  have HS : Hid (TextsAt (bl s) w (.string s) (.slice none 0 0) w) := by
    refine ⟨s, [], rfl, World.ownsRow_nil _ _ _ _, Below.refl _ _, by simp, ?_⟩
    by_cases c : (textsS (bl s)).2 = 0
    · simp only [c, ne_eq, not_true_eq_false, if_false, List.map_nil, List.nil_append]
      exact Prod.ext rfl c
    · simp only [c, ne_eq, not_false_eq_true, if_true]
      exact Prod.ext (texts_bad _ _ (Nat.le_refl _) c) rfl
  generalize bl s = l at *
  go_enter Tryd.func12, Tryd.ntmps12
  go_wp2_with fail
  go_loopw [0, 4] (fun x v wr => TextsAt l w x v wr) (fun x _ _ => szOf x)
  case atStart => exact HS.out
  case round =>
    obtain ⟨rest, acc, rfl, hown, hb, hz, hx⟩ := hrel
    have HX := Lib.hid hx
    clear hx
    by_cases h0 : rest.size = 0
    · have hE := emp_of rest h0
      have HD := Lib.hid (TextsAt_end l rest acc h0 HX.out)
      clear h0
      go_wp2_with fail
      go_ret2
      refine ⟨_, by rw [HD.out]; rfl, ?_, hb⟩
      rw [HD.out, map_ba_bl]
      exact reads_owns hown
    · have hE := emp_not rest (by omega)
      rcases take_two rest with ⟨t, u, T, hu, ht⟩ | ⟨c, T, hc, hc9⟩
      · have HT := Lib.hid T
        clear T
        go_wp2_with (first | (go_at_call 8; refine (take_ok _ _ _ _ (by omega) HT).mono ?_; rintro e w1 ⟨rfl, hb1⟩; have hown1 := owns_below hown hb1; have hz1' := hb1.size; have hz2' := hb.size) | (at_builtin; refine wpList_append_own _ rfl _ _ 30 rfl w.heap.size 9 i0 (.string ⟨#[]⟩) 1 16 Tryd.underlying30 hi hz0 hz1 hz2 rfl (by decide) _ _ _ rfl (hown1.alloc _) ⟨w1.heap.size, 0, none⟩ 1 1 [.string (ba t)] rfl rfl ?c1 ?c2 ?c3 ?c4 ?c5 ?_))
        case c1 => exact new_cell w1 _
        case c2 => intro u hu; simp at hu; subst hu; rfl
        case c3 => unfold maxLen; omega
        case c4 => omega
        case c5 => simp; omega
        intro v' w2 hown2 hgrow _
        have HG : Hid (TextsAt l w (.string (ba u)) v' w2) := TextsAt_step l w wr w1 w2 rest acc t u v' HT.out (by omega) hu hb hb1 ((((Below.refl w.heap.size w1).alloc (by omega) _)).grown hgrow (by simp; omega) (fun k hk => (hown.lt k hk).1)) hz HX.out hown2
        go_wp2_with fail
        go_roundw
        case rel => exact HG.out
        case measure =>
          rw [szOf_ba]
          show u.length < rest.size
          omega
      · have HT := Lib.hid T
        have hne : ((c : Int) != 0) = true := by simpa using hc
        clear T hc
        go_wp2_with (go_at_call 8; refine (take_err _ _ _ (by omega) HT).mono ?_; rintro e w1 ⟨rfl, hb1⟩)
        go_ret2
        have HD := TextsAt_err l rest acc c HT.out (by simpa using hne) (by omega) HX.out
        refine ⟨_, by rw [HD]; rfl, ?_, hb.trans (hb1.mono hb.size)⟩
        rw [HD]
        exact .inl ⟨none, 0, rfl, rfl⟩

set_option maxRecDepth 100000 in
set_option maxHeartbeats 1000000 in
theorem refTexts_any (s : ByteArray) (w : World) (hs : s.size ≤ 100000) : Calls Tryd.prog 13 #[.string s] w (TextsPost (bl s) w) := by
  obtain ⟨i0, hi, hz0, hz1, hz2⟩ := info_parts infoString
  have hl : (bl s).length ≤ 100000 := by simpa using hs
  have HS : Hid (TextsAtI (bl s) w (.string s) (.slice none 0 0) (.int .i64 0) w) := by
    refine ⟨s, [], rfl, World.ownsRow_nil _ _ _ _, Below.refl _ _, by simp, ?_, rfl⟩
    by_cases c : (textsS (bl s)).2 = 0
    · simp only [c, ne_eq, not_true_eq_false, if_false, List.map_nil, List.nil_append]
      exact Prod.ext rfl c
    · simp only [c, ne_eq, not_false_eq_true, if_true]
      exact Prod.ext (texts_bad _ _ (Nat.le_refl _) c) rfl
  generalize bl s = l at *
  go_enter Tryd.func13, Tryd.ntmps13
  go_wp2_with fail
  go_loopw [0, 4, 5] (fun x v i wr => TextsAtI l w x v i wr) (fun x _ _ _ => szOf x)
  case atStart => exact HS.out
  case round =>
    obtain ⟨rest, acc, rfl, hown, hb, hz, hx, rfl⟩ := hrel
    have HX := Lib.hid hx
    clear hx
    by_cases h0 : rest.size = 0
    · have hE := emp_of rest h0
      have HD := Lib.hid (TextsAt_end l rest acc h0 HX.out)
      clear h0
      go_wp2_with fail
      go_ret2
      refine ⟨_, by rw [HD.out]; rfl, ?_, hb⟩
      rw [HD.out, map_ba_bl]
      exact reads_owns hown
    · have hE := emp_not rest (by omega)
      have hd1 : decide ((acc.length : Int) < 100000) = true := decide_eq_true (by omega)
      have hd2 : decide (acc.length < 100000) = true := decide_eq_true (by omega)
      have hd3 : (acc.length : Int) < 100000 := by omega
      have hd4 : acc.length < 100000 := by omega
      rcases take_two rest with ⟨t, u, T, hu, ht⟩ | ⟨c, T, hc, hc9⟩
      · have HT := Lib.hid T
        clear T
        go_wp2_with (first | (go_at_call 9; refine (refTake_ok _ _ _ _ (by omega) HT).mono ?_; rintro e w1 ⟨rfl, hb1⟩; have hown1 := owns_below hown hb1; have hz1' := hb1.size; have hz2' := hb.size) | (at_builtin; refine wpList_append_own _ rfl _ _ 30 rfl w.heap.size 9 i0 (.string ⟨#[]⟩) 1 16 Tryd.underlying30 hi hz0 hz1 hz2 rfl (by decide) _ _ _ rfl (hown1.alloc _) ⟨w1.heap.size, 0, none⟩ 1 1 [.string (ba t)] rfl rfl ?c1 ?c2 ?c3 ?c4 ?c5 ?_))
        case c1 => exact new_cell w1 _
        case c2 => intro u hu; simp at hu; subst hu; rfl
        case c3 => unfold maxLen; omega
        case c4 => omega
        case c5 => simp; omega
        intro v' w2 hown2 hgrow _
        have HG : Hid (TextsAtI l w (.string (ba u)) v' (.int .i64 ((acc.length : Int) + 1)) w2) := TextsAtI_step l w wr w1 w2 rest acc t u v' HT.out (by omega) hu hb hb1 ((((Below.refl w.heap.size w1).alloc (by omega) _)).grown hgrow (by simp; omega) (fun k hk => (hown.lt k hk).1)) hz HX.out hown2
        go_wp2_with fail
        go_roundw
        case rel => exact HG.out
        case measure =>
          rw [szOf_ba]
          show u.length < rest.size
          omega
      · have HT := Lib.hid T
        have hne : ((c : Int) != 0) = true := by simpa using hc
        clear T hc
        go_wp2_with (go_at_call 9; refine (refTake_err _ _ _ (by omega) HT).mono ?_; rintro e w1 ⟨rfl, hb1⟩)
        go_ret2
        have HD := TextsAt_err l rest acc c HT.out (by simpa using hne) (by omega) HX.out
        refine ⟨_, by rw [HD]; rfl, ?_, hb.trans (hb1.mono hb.size)⟩
        rw [HD]
        exact .inl ⟨none, 0, rfl, rfl⟩

def pickS (l : List UInt8) (n : Int) : List (List UInt8) × Nat :=
  if (textsS l).2 ≠ 0 then ([], (textsS l).2) else if ((textsS l).1.length : Int) ≠ n then ([], 3) else ((textsS l).1, 0)
def PickPost (l : List UInt8) (n : Int) (w : World) (e : Ending) (w' : World) : Prop :=
  ∃ v, e = .returned (.tuple #[v, .int .i64 ((pickS l n).2 : Nat)]) ∧ Reads w' v ((pickS l n).1.map ba) ∧ Below w.heap.size w w'
theorem Reads.form {w : World} {v : Value} {ss : List ByteArray} (h : Reads w v ss) : ∃ a cap, v = .slice a ss.length cap := by
  rcases h with ⟨a, cap, rfl, rfl⟩ | ⟨h0, b, off, cap, rfl, _⟩
  · exact ⟨a, cap, rfl⟩
  · exact ⟨_, cap, rfl⟩

set_option maxHeartbeats 1000000 in
theorem pick_any (s : ByteArray) (n : Int) (w : World) (hs : s.size ≤ 100000) (_h1 : -9223372036854775808 ≤ n) (_h2 : n ≤ 9223372036854775807) : Calls Tryd.prog 14 #[.string s, .int .i64 n] w (PickPost (bl s) n w) := by
  have hT := texts_any s w hs
  by_cases hc : (textsS (bl s)).2 = 0
  · have hT2 : Calls Tryd.prog 12 #[.string s] w fun e w' => ∃ a cap, e = .returned (.tuple #[.slice a (textsS (bl s)).1.length cap, .int .i64 0]) ∧ Reads w' (.slice a (textsS (bl s)).1.length cap) ((textsS (bl s)).1.map ba) ∧ Below w.heap.size w w' := by
      refine hT.mono fun e w' h => ?_
      obtain ⟨v, rfl, hr, hb⟩ := h
      obtain ⟨a, cap, rfl⟩ := hr.form
      rw [hc]
      simp only [List.length_map] at hr ⊢
      exact ⟨a, cap, rfl, hr, hb⟩
    have hp : pickS (bl s) n = if ((textsS (bl s)).1.length : Int) ≠ n then ([], 3) else ((textsS (bl s)).1, 0) := by unfold pickS; rw [if_neg (by simpa using hc)]
    have HP := Lib.hid hp
    have HT := Lib.hid hT2
    clear hT hT2 hp hc
    generalize (textsS (bl s)).1 = ts at *
    by_cases hn : (ts.length : Int) = n
    · have hb1 : ((ts.length : Int) != n) = false := by simpa using hn
      have HN := Lib.hid hn
      clear hn
      go_enter Tryd.func14, Tryd.ntmps14
      go_wp2_with (go_at_call 12; refine HT.out.mono ?_; rintro e w1 ⟨a, cap, rfl, hr, hb⟩)
      go_ret2
      have e : pickS (bl s) n = (ts, 0) := by rw [HP.out, if_neg (by simpa using HN.out)]
      refine ⟨_, by rw [e]; rfl, ?_, hb⟩
      rw [e]
      exact hr
    · have hb1 : ((ts.length : Int) != n) = true := by simpa using hn
      have HN := Lib.hid hn
      clear hn
      go_enter Tryd.func14, Tryd.ntmps14
      go_wp2_with (go_at_call 12; refine HT.out.mono ?_; rintro e w1 ⟨a, cap, rfl, hr, hb⟩)
      go_ret2
      have e : pickS (bl s) n = ([], 3) := by rw [HP.out, if_pos HN.out]
      refine ⟨_, by rw [e]; rfl, ?_, hb⟩
      rw [e]
      exact .inl ⟨none, 0, rfl, rfl⟩
  · have hne : (((textsS (bl s)).2 : Int) != 0) = true := by simpa using hc
    have e : pickS (bl s) n = ([], (textsS (bl s)).2) := by unfold pickS; rw [if_pos hc]
    have HP := Lib.hid e
    have HT := Lib.hid hT
    clear hT e hc
    go_enter Tryd.func14, Tryd.ntmps14
    go_wp2_with (go_at_call 12; refine HT.out.mono ?_; rintro e w1 ⟨v, rfl, hr, hb⟩)
    go_ret2
    refine ⟨_, by rw [HP.out]; rfl, ?_, hb⟩
    rw [HP.out]
    exact .inl ⟨none, 0, rfl, rfl⟩
end Go.Proofs.YtpjbhcampfjgdaaDoor
