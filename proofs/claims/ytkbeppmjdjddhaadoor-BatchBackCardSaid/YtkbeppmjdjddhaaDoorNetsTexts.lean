/-
  All texts of any bytes: nets.Texts walked.
-/
import Derived.Test.YtkbeppmjdjddhaaDoorNetsTake
import Derived.Test.YtkbeppmjdjddhaaDoorNetsSame
namespace Go.Proofs.YtkbeppmjdjddhaaDoor.Nets
open Go.RowKit

theorem infoString : (Tryd.prog.info? 9).map (fun i => (i.zero, i.size, i.bytes)) = some (some (.string ⟨#[]⟩), 1, 16) := by kernel_rfl
def szOf : Value → Nat
  | .string s => s.size
  | _ => 0

theorem szOf_ba (u : List UInt8) : szOf (.string (ba u)) = u.length := by simp [szOf, ByteArray.size]

theorem reads_owns {w : World} {B : Nat} {v : Value} {acc : List ByteArray} (h : w.ownsRow B 9 1 v acc.length (acc.map Value.string)) : Reads w v acc := by
  have hc := fun g hg => h.cells (g := g) hg
  have hlt := h.lt
  rcases h.2 with ⟨rfl, hn⟩ | ⟨g, cap, cur, rfl, hb, hg, h1, h2, _, _⟩
  · exact .inl ⟨none, 0, rfl, List.length_eq_zero_iff.1 hn⟩
  · by_cases h0 : acc.length = 0
    · exact .inl ⟨some ⟨g, 0, none⟩, cap, by rw [h0], List.length_eq_zero_iff.1 h0⟩
    · refine .inr ⟨by omega, g, 0, cap, rfl, h1, h2, (hlt g rfl).2, fun i hi => ?_⟩
      have e := hc g rfl i (.string (acc.getD i ByteArray.empty)) (by
        rw [List.getElem?_map, List.getD_eq_getElem?_getD, List.getElem?_eq_getElem hi]; rfl)
      have hp : (⟨g, 0, none⟩ : Addr).add i = ⟨g, 0 + i, none⟩ := by unfold Addr.add; split <;> simp_all
      rw [hp] at e
      exact e

def TextsPost (l : List UInt8) (w : World) (e : Ending) (w' : World) : Prop :=
  ∃ v, e = .returned (.tuple #[v, .int .i64 ((textsS l).2 : Nat)]) ∧ Reads w' v ((textsS l).1.map ba) ∧ Below w.heap.size w w'

def TextsAt (l : List UInt8) (w : World) (s v : Value) (wr : World) : Prop :=
  ∃ (rest : ByteArray) (acc : List ByteArray), s = .string rest ∧ wr.ownsRow w.heap.size 9 1 v acc.length (acc.map Value.string) ∧ Below w.heap.size w wr ∧ acc.length * 3 + rest.size ≤ l.length ∧
    textsS l = (if (textsS (bl rest)).2 ≠ 0 then ([], (textsS (bl rest)).2) else (acc.map bl ++ (textsS (bl rest)).1, 0))

theorem take_ok (s : ByteArray) (t u : List UInt8) (w : World) (hs : s.size ≤ 100000) (H : Hid (takeS (bl s) = (t, u, 0))) :
    Calls Tryd.prog 46 #[.string s] w fun e w' => e = .returned (.tuple #[.string (ba t), .string (ba u), .int .i64 0]) ∧ Below w.heap.size w w' := by
  have h := take_any s w hs
  rw [H.out] at h
  exact h
theorem take_err (s : ByteArray) (c : Nat) (w : World) (hs : s.size ≤ 100000) (H : Hid (takeS (bl s) = ([], [], c))) :
    Calls Tryd.prog 46 #[.string s] w fun e w' => e = .returned (.tuple #[.string ⟨#[]⟩, .string ⟨#[]⟩, .int .i64 c]) ∧ Below w.heap.size w w' := by
  have h := take_any s w hs
  rw [H.out] at h
  exact h
/-- The two ways of a taking. -/
theorem take_two (s : ByteArray) : (∃ t u, takeS (bl s) = (t, u, 0) ∧ u.length + 3 ≤ s.size ∧ t.length ≤ s.size) ∨ (∃ c, takeS (bl s) = ([], [], c) ∧ c ≠ 0 ∧ c ≤ 9) := by
  rcases put_take (bl s) with ⟨h1, h2, h3⟩ | ⟨h1, h2, h3⟩
  · refine .inl ⟨(takeS (bl s)).1, (takeS (bl s)).2.1, by rw [← h1], ?_, ?_⟩
    all_goals
      have h4 := congrArg List.length h2
      have e : (bl s).length = s.size := by simp
      have h5 : 1 ≤ (Lib.decDigits (takeS (bl s)).1.length).length := List.length_pos_iff.2 (dec_ne _)
      unfold putS at h4
      simp only [List.length_append, List.length_cons, List.length_nil] at h4
      omega
  · refine .inr ⟨(takeS (bl s)).2.2, ?_, h1, ?_⟩
    · generalize takeS (bl s) = r at *
      obtain ⟨a, b, c⟩ := r
      simp at h2 h3 ⊢
      exact ⟨h2, h3⟩
    · unfold takeS
      repeat' split
      all_goals simp

theorem TextsAt_step (l : List UInt8) (w wr w1 w2 : World) (rest : ByteArray) (acc : List ByteArray) (t u : List UInt8) (v : Value) (T : takeS (bl rest) = (t, u, 0)) (h0 : 0 < rest.size) (hu : u.length + 3 ≤ rest.size)
    (hb : Below w.heap.size w wr) (hb1 : Below wr.heap.size wr w1) (hb2 : Below w.heap.size w1 w2) (hz : acc.length * 3 + rest.size ≤ l.length)
    (hx : textsS l = (if (textsS (bl rest)).2 ≠ 0 then ([], (textsS (bl rest)).2) else (acc.map bl ++ (textsS (bl rest)).1, 0)))
    (hown : w2.ownsRow w.heap.size 9 1 v (acc.length + 1) (acc.map Value.string ++ [.string (ba t)])) : TextsAt l w (.string (ba u)) v w2 := by
  refine ⟨ba u, acc ++ [ba t], rfl, by simpa using hown, (hb.trans (hb1.mono hb.size)).trans hb2, ?_, ?_⟩
  · have e : (ba u).size = u.length := by simp [ByteArray.size]
    rw [e]
    simp
    omega
  · rw [hx, texts_step _ (bl_ne rest h0), T, bl_ba]
    simp only [ne_eq, not_true_eq_false, if_false]
    by_cases c : (textsS u).2 = 0
    · simp [c]
    · simp [c]
theorem TextsAt_end (l : List UInt8) (rest : ByteArray) (acc : List ByteArray) (h0 : rest.size = 0)
    (hx : textsS l = (if (textsS (bl rest)).2 ≠ 0 then ([], (textsS (bl rest)).2) else (acc.map bl ++ (textsS (bl rest)).1, 0))) : textsS l = (acc.map bl, 0) := by
  have e : bl rest = [] := emp_true rest (emp_of rest h0)
  rw [hx, e, texts_nil]
  simp
theorem TextsAt_err (l : List UInt8) (rest : ByteArray) (acc : List ByteArray) (c : Nat) (T : takeS (bl rest) = ([], [], c)) (hc : c ≠ 0) (h0 : 0 < rest.size)
    (hx : textsS l = (if (textsS (bl rest)).2 ≠ 0 then ([], (textsS (bl rest)).2) else (acc.map bl ++ (textsS (bl rest)).1, 0))) : textsS l = ([], c) := by
  have e : textsS (bl rest) = ([], c) := by rw [texts_step _ (bl_ne rest h0), T]; simp [hc]
  rw [hx, e]
  simp [hc]
theorem map_ba_bl (acc : List ByteArray) : (acc.map bl).map ba = acc := by
  rw [List.map_map]
  conv => rhs; rw [← List.map_id acc]
  rfl

theorem new_cell (w : World) (x : Value) : ∀ (j : Nat) (u : Value), [x][j]? = some u → (w.alloc (Obj.cells #[x] 9)).cell? ((⟨w.heap.size, 0, none⟩ : Addr).add j) = some u := by
  intro j u hu
  obtain rfl : j = 0 := by
    have := (List.getElem?_eq_some_iff.1 hu).1
    simpa using this
  have hp : (⟨w.heap.size, 0, none⟩ : Addr).add 0 = ⟨w.heap.size, 0, none⟩ := by unfold Addr.add; split <;> simp_all
  have hh : (w.alloc (.cells #[x] 9)).heap[w.heap.size]? = some (.cells #[x] 9) := by
    show (w.heap.push (.cells #[x] 9))[w.heap.size]? = _
    simp
  rw [hp, Lib.cell_of_heap hh]
  simpa using hu

set_option maxHeartbeats 1000000 in
theorem texts_any (s : ByteArray) (w : World) (hs : s.size ≤ 100000) : Calls Tryd.prog 33 #[.string s] w (TextsPost (bl s) w) := by
  obtain ⟨i0, hi, hz0, hz1, hz2⟩ := info_parts infoString
  have hl : (bl s).length ≤ 100000 := by simpa using hs
  have HS : Hid (TextsAt (bl s) w (.string s) (.slice none 0 0) w) := by
    refine ⟨s, [], rfl, World.ownsRow_nil _ _ _ _, Below.refl _ _, by simp, ?_⟩
    by_cases c : (textsS (bl s)).2 = 0
    · simp only [c, ne_eq, not_true_eq_false, if_false, List.map_nil, List.nil_append]
      exact Prod.ext rfl c
    · simp only [c, ne_eq, not_false_eq_true, if_true]
      exact Prod.ext (texts_bad _ _ (Nat.le_refl _) c) rfl
  generalize bl s = l at *
  go_enter Tryd.func33, Tryd.ntmps33
  go_wp2_with fail
  go_loopw [0, 4] (fun x v wr => TextsAt l w x v wr) (fun x _ _ => szOf x)
  case atStart => exact HS.out
  case round =>
    obtain ⟨rest, acc, rfl, hown, hb, hz, hx⟩ := hrel
    have HX := Lib.hid hx
    clear hx
    by_cases h0 : rest.size = 0
    · have hE := emp_of rest h0
      have HD := Lib.hid (TextsAt_end l rest acc h0 HX.out)
      clear h0
      go_wp2_with fail
      go_ret2
      refine ⟨_, by rw [HD.out]; rfl, ?_, hb⟩
      rw [HD.out, map_ba_bl]
      exact reads_owns hown
    · have hE := emp_not rest (by omega)
      rcases take_two rest with ⟨t, u, T, hu, ht⟩ | ⟨c, T, hc, hc9⟩
      · have HT := Lib.hid T
        clear T
        go_wp2_with (first | (go_at_call 46; refine (take_ok _ _ _ _ (by omega) HT).mono ?_; rintro e w1 ⟨rfl, hb1⟩; have hown1 := owns_below hown hb1; have hz1' := hb1.size; have hz2' := hb.size) | (at_builtin; refine wpList_append_own _ rfl _ _ 38 rfl w.heap.size 9 i0 (.string ⟨#[]⟩) 1 16 Tryd.underlying38 hi hz0 hz1 hz2 rfl (by decide) _ _ _ rfl (hown1.alloc _) ⟨w1.heap.size, 0, none⟩ 1 1 [.string (ba t)] rfl rfl ?c1 ?c2 ?c3 ?c4 ?c5 ?_))
        case c1 => exact new_cell w1 _
        case c2 => intro u hu; simp at hu; subst hu; rfl
        case c3 => unfold maxLen; omega
        case c4 => omega
        case c5 => simp; omega
        intro v' w2 hown2 hgrow _
        have HG : Hid (TextsAt l w (.string (ba u)) v' w2) := TextsAt_step l w wr w1 w2 rest acc t u v' HT.out (by omega) hu hb hb1 ((((Below.refl w.heap.size w1).alloc (by omega) _)).grown hgrow (by simp; omega) (fun k hk => (hown.lt k hk).1)) hz HX.out hown2
        go_wp2_with fail
        go_roundw
        case rel => exact HG.out
        case measure =>
          rw [szOf_ba]
          show u.length < rest.size
          omega
      · have HT := Lib.hid T
        have hne : ((c : Int) != 0) = true := by simpa using hc
        clear T hc
        go_wp2_with (go_at_call 46; refine (take_err _ _ _ (by omega) HT).mono ?_; rintro e w1 ⟨rfl, hb1⟩)
        go_ret2
        have HD := TextsAt_err l rest acc c HT.out (by simpa using hne) (by omega) HX.out
        refine ⟨_, by rw [HD]; rfl, ?_, hb.trans (hb1.mono hb.size)⟩
        rw [HD]
        exact .inl ⟨none, 0, rfl, rfl⟩

theorem Reads.form {w : World} {v : Value} {ss : List ByteArray} (h : Reads w v ss) : ∃ a cap, v = .slice a ss.length cap := by
  rcases h with ⟨a, cap, rfl, rfl⟩ | ⟨h0, b, off, cap, rfl, _⟩
  · exact ⟨a, cap, rfl⟩
  · exact ⟨_, cap, rfl⟩
end Go.Proofs.YtkbeppmjdjddhaaDoor.Nets
