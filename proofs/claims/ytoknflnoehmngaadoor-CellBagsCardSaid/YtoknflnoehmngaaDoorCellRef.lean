/-
  Walks of the document's answer: Why, Name, Find.
-/
import Derived.Test.YtoknflnoehmngaaDoorCellShow
import Derived.Laws.Rows
namespace Go.Proofs.YtoknflnoehmngaaDoor.Cell
open Go Go.RowKit
open Go.Proofs.YtoknflnoehmngaaDoor.Nets (putS rowS Tab)

abbrev valV (v : Val) : Value := .agg #[.int .i64 v.kind, .string v.s, .int .i64 v.n, .bool v.is, v.lv]
abbrev entV (e : Ent) : Value := .agg #[.string e.name, .int .i64 e.v.kind, .string e.v.s, .int .i64 e.v.n, .bool e.v.is, e.v.lv]
def valC (v : Val) : List Value := [.int .i64 v.kind, .string v.s, .int .i64 v.n, .bool v.is, v.lv]
def entC (e : Ent) : List Value := .string e.name :: valC e.v

def whyS (a k : Int) : Int := if a = 0 then 6 else if a = k then 0 else 70
set_option maxHeartbeats 1000000 in
theorem why_any (v : Val) (k : Int) (w : World) : Calls Tryd.prog 30 #[valV v, .int .i64 k] w fun e w' => e = .returned (.int .i64 (whyS v.kind k)) ∧ Below w.heap.size w w' := by
  by_cases h : v.kind = 0
  · have h0 : (v.kind == 0) = true := by rw [h]; rfl
    have e1 : whyS v.kind k = 6 := by unfold whyS; rw [if_pos h]
    rw [e1]
    clear e1 h
    go_enter Tryd.func30, Tryd.ntmps30
    go_wp2
    go_ret
    exact ⟨rfl, (Below.refl _ _).alloc (Nat.le_refl _) _⟩
  · have h0 : (v.kind == 0) = false := by simpa using h
    by_cases h2 : v.kind = k
    · have e1 : whyS v.kind k = 0 := by unfold whyS; rw [if_neg h, if_pos h2]
      have h3 : (v.kind != k) = false := by simpa using h2
      rw [e1]
      clear e1 h h2
      go_enter Tryd.func30, Tryd.ntmps30
      go_wp2
      go_ret
      exact ⟨rfl, (Below.refl _ _).alloc (Nat.le_refl _) _⟩
    · have e1 : whyS v.kind k = 70 := by unfold whyS; rw [if_neg h, if_neg h2]
      have h3 : (v.kind != k) = true := by simpa using h2
      rw [e1]
      clear e1 h h2
      go_enter Tryd.func30, Tryd.ntmps30
      go_wp2
      go_ret
      exact ⟨rfl, (Below.refl _ _).alloc (Nat.le_refl _) _⟩
def nameS (k : Int) : ByteArray := if k = 1 then ⟨#[116, 101, 120, 116]⟩ else if k = 2 then ⟨#[110, 117, 109, 98, 101, 114]⟩ else if k = 3 then ⟨#[116, 114, 117, 116, 104]⟩ else if k = 4 then ⟨#[108, 105, 115, 116]⟩ else ⟨#[]⟩
set_option maxHeartbeats 1000000 in
theorem name_any (k : Int) (w : World) : Calls Tryd.prog 31 #[.int .i64 k] w fun e w' => e = .returned (.string (nameS k)) ∧ Below w.heap.size w w' := by
  by_cases h1 : k < 1
  · have e1 : nameS k = ⟨#[]⟩ := by unfold nameS; rw [if_neg (by omega), if_neg (by omega), if_neg (by omega), if_neg (by omega)]
    rw [e1]
    clear e1
    go_enter Tryd.func31, Tryd.ntmps31
    go_wp2
    go_ret
    exact ⟨rfl, (Below.refl _ _).alloc (Nat.le_refl _) _⟩
  · by_cases h2 : 4 < k
    · have e1 : nameS k = ⟨#[]⟩ := by unfold nameS; rw [if_neg (by omega), if_neg (by omega), if_neg (by omega), if_neg (by omega)]
      rw [e1]
      clear e1
      go_enter Tryd.func31, Tryd.ntmps31
      go_wp2
      go_ret
      exact ⟨rfl, (Below.refl _ _).alloc (Nat.le_refl _) _⟩
    · obtain rfl | rfl | rfl | rfl : k = 1 ∨ k = 2 ∨ k = 3 ∨ k = 4 := by omega
      all_goals
        clear h1 h2
        go_enter Tryd.func31, Tryd.ntmps31
        go_wp2
        go_ret
        exact ⟨rfl, (Below.refl _ _).alloc (Nat.le_refl _) _⟩

/-! Entries in memory. -/
def ReadsE (w : World) (v : Value) (q : List Ent) : Prop :=
  (∃ a cap, v = .slice a 0 cap ∧ q = []) ∨
  (0 < q.length ∧ ∃ b off cap, v = .slice (some ⟨b, off, none⟩) q.length cap ∧ b < w.heap.size ∧ ∀ i e, q[i]? = some e → w.rangeAt b (off + i * 6) (entC e))
theorem range_below {w w' : World} {b o : Nat} {cs : List Value} (h : w.rangeAt b o cs) (hl : b < w.heap.size) (hb : Below w.heap.size w w') : w'.rangeAt b o cs := fun j v hv => by
  rw [hb.cell (p := ⟨b, o + j, none⟩) hl]
  exact h j v hv
theorem ReadsE.below {w w' : World} {v : Value} {q : List Ent} (h : ReadsE w v q) (hb : Below w.heap.size w w') : ReadsE w' v q := by
  rcases h with h | ⟨h0, b, off, cap, rfl, h3, h4⟩
  · exact .inl h
  · exact .inr ⟨h0, b, off, cap, rfl, by have := hb.size; omega, fun i e hi => range_below (h4 i e hi) h3 hb⟩
/-- What is there under a name. -/
def findS (n : ByteArray) (q : List Ent) : Val := match at? Ent.name n q with | some e => e.v | none => Val.zero
theorem find_hit (n : ByteArray) (q : List Ent) (k : Nat) (e : Ent) (hk : q[k]? = some e) (hn : ∀ x ∈ q.take k, x.name ≠ n) (he : e.name = n) : findS n q = e.v := by
  have hs : q = q.take k ++ e :: q.drop (k + 1) := by
    obtain ⟨h1, h2⟩ := List.getElem?_eq_some_iff.1 hk
    rw [← h2, List.getElem_cons_drop, List.take_append_drop]
  unfold findS at?
  rw [hs, List.find?_append, List.find?_eq_none.2 (fun x hx => by simpa using hn x hx)]
  simp [he]
theorem find_miss (n : ByteArray) (q : List Ent) (hn : ∀ x ∈ q, x.name ≠ n) : findS n q = Val.zero := by
  unfold findS at?
  rw [List.find?_eq_none.2 (fun x hx => by simpa using hn x hx)]
theorem take_next {α : Type} {p : α → Prop} {q : List α} {k : Nat} {e : α} (hk : q[k]? = some e) (hn : ∀ x ∈ q.take k, p x) (he : p e) : ∀ x ∈ q.take (k + 1), p x := by
  rw [List.take_add_one, hk]
  intro x hx
  rcases List.mem_append.1 hx with hx | hx
  · exact hn x hx
  · simp at hx
    rw [hx]; exact he
theorem name_eq (a b : ByteArray) : (a.toList == b.toList) = decide (a = b) := Nets.beq_texts a b
theorem sizeVal : (Tryd.prog.info? 30).map (·.size) = some 5 := by kernel_rfl
theorem sizeEnt : (Tryd.prog.info? 32).map (·.size) = some 6 := by kernel_rfl
/-- The six cells of an entry. -/
theorem six {w : World} {b o : Nat} {e : Ent} (h : w.rangeAt b o (entC e)) : w.cell? ⟨b, o, none⟩ = some (.string e.name) ∧ w.cell? ⟨b, o + 1, none⟩ = some (.int .i64 e.v.kind) ∧ w.cell? ⟨b, o + 2, none⟩ = some (.string e.v.s) ∧
    w.cell? ⟨b, o + 3, none⟩ = some (.int .i64 e.v.n) ∧ w.cell? ⟨b, o + 4, none⟩ = some (.bool e.v.is) ∧ w.cell? ⟨b, o + 5, none⟩ = some e.v.lv :=
  ⟨h 0 _ rfl, h 1 _ rfl, h 2 _ rfl, h 3 _ rfl, h 4 _ rfl, h 5 _ rfl⟩
set_option maxHeartbeats 2000000 in
theorem find_any (v : Value) (q : List Ent) (n : ByteArray) (w : World) (h : ReadsE w v q) (hf : q.length ≤ 1000) :
    Calls Tryd.prog 10 #[v, .string n] w fun e w' => e = .returned (valV (findS n q)) ∧ Below w.heap.size w w' := by
  rcases h with ⟨a, cap, rfl, rfl⟩ | ⟨h0, b, off, cap, rfl, h3, h4⟩
  · go_enter Tryd.func10, Tryd.ntmps10
    go_wp2_with fail
    go_loopw [5] (fun i wr => i = .int .i64 0 ∧ wr = w.alloc (.cells #[.int .i64 0, .string ⟨#[]⟩, .int .i64 0, .bool false, .slice none 0 0] 30)) (fun i _ => 0 - (intOf i).toNat)
    case atStart => exact ⟨rfl, rfl⟩
    case round =>
      obtain ⟨rfl, rfl⟩ := hrel
      go_wp2_with fail
      exact bodyPost_ret (v := valV Val.zero) (results_cell_row Tryd.results10 _ _ w.heap.size 30 _ (0, 0) _ rfl (heap_alloc_new _ _) Tryd.underlying30 rfl sizeVal) rfl ⟨rfl, (Below.refl _ _).alloc (Nat.le_refl _) _⟩
  · have HR := Lib.hid h4
    clear h4
    go_enter Tryd.func10, Tryd.ntmps10
    go_wp2_with fail
    go_loopw [5] (fun i wr => ∃ k : Nat, k ≤ q.length ∧ i = .int .i64 k ∧ (∀ x ∈ q.take k, x.name ≠ n) ∧ wr = w.alloc (.cells #[.int .i64 0, .string ⟨#[]⟩, .int .i64 0, .bool false, .slice none 0 0] 30)) (fun i _ => q.length - (intOf i).toNat)
    case atStart => exact ⟨0, Nat.zero_le _, rfl, by simp, rfl⟩
    case round =>
      obtain ⟨k, hk, rfl, hn, rfl⟩ := hrel
      have HN := Lib.hid hn
      clear hn
      by_cases hlt : k < q.length
      · obtain ⟨e, hke⟩ : ∃ e, q[k]? = some e := ⟨q[k], List.getElem?_eq_getElem hlt⟩
        have HE := Lib.hid hke
        obtain ⟨c0, c1, c2, c3, c4, c5⟩ := six (HR.out k e hke)
        clear hke
        by_cases he : e.name = n
        · have hd : (e.name.toList == n.toList) = true := by rw [name_eq]; exact decide_eq_true he
          have HF := Lib.hid (find_hit n q k e HE.out HN.out he)
          clear he
          go_wp2_with fail
          rw [HF.out]
          exact bodyPost_ret (v := valV e.v) (results_cell_row Tryd.results10 _ _ w.heap.size 30 _ (0, 0) _ rfl (heap_alloc_new _ _) Tryd.underlying30 rfl sizeVal) rfl ⟨rfl, (Below.refl _ _).alloc (Nat.le_refl _) _⟩
        · have hd : (e.name.toList == n.toList) = false := by rw [name_eq]; exact decide_eq_false he
          have HF := Lib.hid (take_next (p := fun x : Ent => x.name ≠ n) HE.out HN.out he)
          clear he
          go_wp2_with fail
          go_roundw
          case rel => exact ⟨k + 1, by omega, by simp, HF.out, trivial⟩
          case measure => simp [intOf]; omega
      · have HF := Lib.hid (find_miss n q (by have h := HN.out; rw [List.take_of_length_le (by omega)] at h; exact h))
        go_wp2_with fail
        rw [HF.out]
        exact bodyPost_ret (v := valV Val.zero) (results_cell_row Tryd.results10 _ _ w.heap.size 30 _ (0, 0) _ rfl (heap_alloc_new _ _) Tryd.underlying30 rfl sizeVal) rfl ⟨rfl, (Below.refl _ _).alloc (Nat.le_refl _) _⟩
end Go.Proofs.YtoknflnoehmngaaDoor.Cell
