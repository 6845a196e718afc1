/-
  Walks over lists of texts, second part: the document's Row, SameTexts.
-/
import Derived.Test.YtkbeppmjdjddhaaDoorNetsRow
namespace Go.Proofs.YtkbeppmjdjddhaaDoor.Nets
open Go.RowKit

def RefRowAt (ss : List ByteArray) (w : World) (s i : Value) (wr : World) : Prop :=
  ∃ (k : Nat) (x : ByteArray), k ≤ ss.length ∧ i = .int .i64 k ∧ s = .string x ∧ bl x = rowK ss k ∧ Below w.heap.size w wr

set_option maxHeartbeats 1000000 in
theorem refRow_any (v : Value) (ss : List ByteArray) (w : World) (hr : Reads w v ss) (hs : Small ss) :
    Calls Tryd.prog 39 #[v] w fun e w' => e = .returned (str (rowS (ss.map bl))) ∧ Below w.heap.size w w' := by
  rcases hr with ⟨a, cap, rfl, rfl⟩ | ⟨h0, b, off, cap, rfl, h1, h2, h3, h4⟩
  · go_enter Tryd.func39, Tryd.ntmps39
    go_wp2_with fail
    go_loopw [3, 4] (fun s i wr => RefRowAt [] w s i wr) (fun _ i _ => 0 - (intOf i).toNat)
    case atStart => exact ⟨0, ⟨#[]⟩, Nat.le_refl _, rfl, rfl, rfl, Below.refl _ _⟩
    case round =>
      obtain ⟨k, x, hk, rfl, rfl, hx, hb⟩ := hrel
      have HX := Lib.hid hx
      clear hx
      go_wp2_with fail
      go_ret
      refine ⟨?_, hb⟩
      have e : rowS (([] : List ByteArray).map bl) = bl x := by rw [HX.out]; simp [rowK]
      rw [e]
      rfl
  · have hm := hs.1
    have HL := Lib.hid h4
    have HS := Lib.hid hs
    clear h4 hs h1 h2
    go_enter Tryd.func39, Tryd.ntmps39
    go_wp2_with fail
    go_loopw [3, 4] (fun s i wr => RefRowAt ss w s i wr) (fun _ i _ => ss.length - (intOf i).toNat)
    case atStart => exact ⟨0, ⟨#[]⟩, Nat.zero_le _, rfl, rfl, rfl, Below.refl _ _⟩
    case round =>
      obtain ⟨k, x, hk, rfl, rfl, hx, hb⟩ := hrel
      have HX := Lib.hid hx
      have hxz : x.size ≤ 100011000 := by
        have h := rowK_len ss k HS.out
        rw [← hx] at h
        simpa using h
      clear hx
      by_cases hlt : k < ss.length
      · have hc : wr.cell? ⟨b, off + k, none⟩ = some (.string (ss.getD k ByteArray.empty)) := by
          rw [hb.cell (p := ⟨b, off + k, none⟩) h3]; exact HL.out k hlt
        have hz := HS.out.at k hlt
        have HP := put_len (bl (ss.getD k ByteArray.empty)) (by simpa using hz)
        have HG := Lib.hid (rowK_succ ss k hlt)
        generalize hy : ss.getD k ByteArray.empty = y at *
        clear hy
        go_wp2_with (go_at_call 51; refine (refPut_any _ _ (by omega)).mono ?_; rintro e w1 ⟨rfl, hb1⟩)
        go_roundw
        case rel =>
          refine ⟨k + 1, x ++ ba (putS (bl y)), by omega, by simp, rfl, ?_, hb.trans (hb1.mono hb.size)⟩
          rw [HG.out, ← HX.out]
          simp
        case measure => simp [intOf]; omega
      · go_wp2_with fail
        go_ret
        refine ⟨?_, hb⟩
        have e : rowS (ss.map bl) = bl x := by rw [HX.out, ← rowK_all, show ss.length = k by omega]
        rw [e]
        rfl

theorem beq_texts (x y : ByteArray) : (x.toList == y.toList) = decide (x = y) := by
  rw [Bool.eq_iff_iff]
  simp only [beq_iff_eq, decide_eq_true_eq]
  rw [Lib.toList_data, Lib.toList_data]
  constructor
  · intro h
    exact ByteArray.ext (Array.toList_inj.1 h)
  · intro h; rw [h]
theorem same_step (xs ys : List ByteArray) (k : Nat) (hx : k < xs.length) (hy : k < ys.length) (h : xs.take k = ys.take k) :
    decide (xs.take (k + 1) = ys.take (k + 1)) = ((xs.getD k ByteArray.empty).toList == (ys.getD k ByteArray.empty).toList) := by
  rw [beq_texts, List.take_succ_eq_append_getElem hx, List.take_succ_eq_append_getElem hy, h]
  rw [List.getD_eq_getElem?_getD, List.getElem?_eq_getElem hx, List.getD_eq_getElem?_getD, List.getElem?_eq_getElem hy]
  rw [Bool.eq_iff_iff, decide_eq_true_eq, decide_eq_true_eq, ← List.take_succ_eq_append_getElem hy, List.take_succ_eq_append_getElem hy]
  constructor
  · intro e
    have := List.append_cancel_left e
    simpa using this
  · intro e
    simp only [Option.getD_some] at e
    rw [e]
def SameAt (xs ys : List ByteArray) (w : World) (s i : Value) (wr : World) : Prop :=
  ∃ k : Nat, k ≤ xs.length ∧ i = .int .i64 k ∧ s = .bool (decide (xs.take k = ys.take k)) ∧ Below w.heap.size w wr
theorem same_stop (xs ys : List ByteArray) (k : Nat) (h : ¬ xs.take k = ys.take k) : decide (xs = ys) = false := by
  rw [decide_eq_false_iff_not]
  intro e
  exact h (by rw [e])
theorem same_all (xs ys : List ByteArray) (k : Nat) (h1 : k = xs.length) (h2 : k = ys.length) (h : xs.take k = ys.take k) : decide (xs = ys) = true := by
  rw [decide_eq_true_eq]
  rw [List.take_of_length_le (by omega), List.take_of_length_le (by omega)] at h
  exact h

def StillAt (w : World) (s i : Value) (wr : World) : Prop := s = .bool false ∧ i = .int .i64 0 ∧ wr = w

set_option maxHeartbeats 1000000 in
theorem same_len (a a' : Option Addr) (n n' cap cap' : Nat) (w : World) (_hl : n ≤ 100000) (_hm : n' ≤ 100000) (hne : ((n : Int) == n') = false) :
    Calls Tryd.prog 15 #[.slice a n cap, .slice a' n' cap'] w fun e w' => e = .returned (.bool false) ∧ w = w' := by
  go_enter Tryd.func15, Tryd.ntmps15
  go_wp2_with fail
  go_loopw [5, 6] (fun s i wr => StillAt w s i wr) (fun _ i _ => 0 - (intOf i).toNat)
  case atStart => exact ⟨rfl, rfl, rfl⟩
  case round =>
    obtain ⟨rfl, rfl, rfl⟩ := hrel
    go_wp2_with fail
    go_ret
    exact ⟨rfl, rfl⟩
set_option maxHeartbeats 1000000 in
theorem same_nil (a a' : Option Addr) (cap cap' : Nat) (w : World) :
    Calls Tryd.prog 15 #[.slice a 0 cap, .slice a' 0 cap'] w fun e w' => e = .returned (.bool true) ∧ w = w' := by
  go_enter Tryd.func15, Tryd.ntmps15
  go_wp2_with fail
  go_loopw [5, 6] (fun s i wr => s = .bool true ∧ i = .int .i64 0 ∧ wr = w) (fun _ i _ => 0 - (intOf i).toNat)
  case atStart => exact ⟨rfl, rfl, rfl⟩
  case round =>
    obtain ⟨rfl, rfl, rfl⟩ := hrel
    go_wp2_with fail
    go_ret
    exact ⟨rfl, rfl⟩

set_option maxHeartbeats 1000000 in
theorem same_both (xs ys : List ByteArray) (b off cap b' off' cap' : Nat) (w : World) (hl : xs.length ≤ 100000) (he : xs.length = ys.length) (h3 : b < w.heap.size) (g3 : b' < w.heap.size)
    (h4 : ∀ i, i < xs.length → w.cell? ⟨b, off + i, none⟩ = some (.string (xs.getD i ByteArray.empty))) (g4 : ∀ i, i < ys.length → w.cell? ⟨b', off' + i, none⟩ = some (.string (ys.getD i ByteArray.empty))) :
    Calls Tryd.prog 15 #[.slice (some ⟨b, off, none⟩) xs.length cap, .slice (some ⟨b', off', none⟩) ys.length cap'] w fun e w' => e = .returned (.bool (decide (xs = ys))) ∧ Below w.heap.size w w' := by
  have HX := Lib.hid h4
  have HY := Lib.hid g4
  have HE := Lib.hid he
  have hm : ys.length ≤ 100000 := by omega
  have e1 : ((xs.length : Int) == ys.length) = true := beq_iff_eq.2 (by omega)
  clear h4 g4 he
  go_enter Tryd.func15, Tryd.ntmps15
  go_wp2_with fail
  go_loopw [5, 6] (fun s i wr => SameAt xs ys w s i wr) (fun _ i _ => xs.length - (intOf i).toNat)
  case atStart => exact ⟨0, Nat.zero_le _, rfl, by simp, Below.refl _ _⟩
  case round =>
    obtain ⟨k, hk, rfl, rfl, hb⟩ := hrel
    by_cases hs : xs.take k = ys.take k
    · have HQ := Lib.hid hs
      have hd : decide (xs.take k = ys.take k) = true := decide_eq_true hs
      rw [hd]
      clear hs hd
      by_cases hlt : k < xs.length
      · have hlt' : k < ys.length := by have := HE.out; omega
        have hc : wr.cell? ⟨b, off + k, none⟩ = some (.string (xs.getD k ByteArray.empty)) := by
          rw [hb.cell (p := ⟨b, off + k, none⟩) h3]; exact HX.out k hlt
        have hc' : wr.cell? ⟨b', off' + k, none⟩ = some (.string (ys.getD k ByteArray.empty)) := by
          rw [hb.cell (p := ⟨b', off' + k, none⟩) g3]; exact HY.out k hlt'
        have HG := Lib.hid (same_step xs ys k hlt hlt' HQ.out)
        generalize xs.getD k ByteArray.empty = x at *
        generalize ys.getD k ByteArray.empty = y at *
        go_wp2_with fail
        go_quiet (fail)
        go_wp2_with fail
        go_roundw
        case rel => exact ⟨k + 1, by omega, by simp, by rw [HG.out], below_drewN hb _⟩
        case measure => simp [intOf]; omega
      · have HG := Lib.hid (same_all xs ys k (by omega) (by have := HE.out; omega) HQ.out)
        go_wp2_with fail
        go_ret
        exact ⟨by rw [HG.out]; rfl, hb⟩
    · have HQ := Lib.hid (same_stop xs ys k hs)
      have hd : decide (xs.take k = ys.take k) = false := decide_eq_false hs
      rw [hd]
      clear hs hd
      go_wp2_with fail
      go_ret
      exact ⟨by rw [HQ.out]; rfl, hb⟩

theorem same_any (v u : Value) (xs ys : List ByteArray) (w : World) (hx : Reads w v xs) (hy : Reads w u ys) (hl : xs.length ≤ 100000) (hm : ys.length ≤ 100000) :
    Calls Tryd.prog 15 #[v, u] w fun e w' => e = .returned (.bool (decide (xs = ys))) ∧ Below w.heap.size w w' := by
  by_cases he : xs.length = ys.length
  · rcases hx with ⟨a, cap, rfl, rfl⟩ | ⟨h0, b, off, cap, rfl, h1, h2, h3, h4⟩
    · rcases hy with ⟨a', cap', rfl, rfl⟩ | ⟨g0, b', off', cap', rfl, g1, g2, g3, g4⟩
      · refine (same_nil a a' cap cap' w).mono fun e w' h => ?_
        obtain ⟨rfl, rfl⟩ := h
        exact ⟨rfl, Below.refl _ _⟩
      · simp at he; omega
    · rcases hy with ⟨a', cap', rfl, rfl⟩ | ⟨g0, b', off', cap', rfl, g1, g2, g3, g4⟩
      · simp at he; subst he; simp at h0
      · exact same_both xs ys b off cap b' off' cap' w hl he h3 g3 h4 g4
  · have hd : decide (xs = ys) = false := by rw [decide_eq_false_iff_not]; intro e; exact he (by rw [e])
    obtain ⟨a, cap, rfl⟩ : ∃ a cap, v = .slice a xs.length cap := by
      rcases hx with ⟨a, cap, rfl, rfl⟩ | ⟨h0, b, off, cap, rfl, h1, h2, h3, h4⟩
      · exact ⟨a, cap, rfl⟩
      · exact ⟨_, cap, rfl⟩
    obtain ⟨a', cap', rfl⟩ : ∃ a cap, u = .slice a ys.length cap := by
      rcases hy with ⟨a, cap, rfl, rfl⟩ | ⟨h0, b, off, cap, rfl, h1, h2, h3, h4⟩
      · exact ⟨a, cap, rfl⟩
      · exact ⟨_, cap, rfl⟩
    rw [hd]
    refine (same_len a a' xs.length ys.length cap cap' w hl hm (beq_eq_false_iff_ne.2 (by omega))).mono fun e w' h => ?_
    obtain ⟨rfl, rfl⟩ := h
    exact ⟨rfl, Below.refl _ _⟩
end Go.Proofs.YtkbeppmjdjddhaaDoor.Nets
