/-
  Rows of changes: what copying and appending leave.
-/
import Derived.Test.YtkbeppmjdjddhaaDoorBatchWalkB
import Derived.Shelf.Spec.SlicesInsertGrow
namespace Go.Proofs.YtkbeppmjdjddhaaDoor.Batch
open Go Go.RowKit

section
variable {α : Type}
theorem row_ahead (L A X R : List α) (a b c : Nat) (ha : A.length = a) (hb : a + X.length = b) (hc : b + R.length = c) (hA : L.take a = A) (hl : c ≤ L.length) :
    ((L.take a ++ X ++ L.drop b).take b ++ R ++ (L.take a ++ X ++ L.drop b).drop c).take c = A ++ X ++ R ∧ ((L.take a ++ X ++ L.drop b).take b ++ R ++ (L.take a ++ X ++ L.drop b).drop c).length = L.length := by
  have h1 : (L.take a ++ X ++ L.drop b).take b = A ++ X := by
    rw [hA, List.take_append_of_le_length (by simp; omega)]
    exact List.take_of_length_le (by simp; omega)
  have h2 : (L.take a ++ X ++ L.drop b).length = L.length := by
    rw [hA]; simp; omega
  rw [h1]
  constructor
  · rw [List.take_append_of_le_length (by simp; omega)]
    exact List.take_of_length_le (by simp; omega)
  · rw [List.length_append, List.length_drop, h2]
    simp
    omega
theorem row_behind (L A X R : List α) (a b c : Nat) (ha : A.length = a) (hb : a + X.length = b) (hc : b + R.length = c) (hA : L.take a = A) (hl : c ≤ L.length) :
    ((L.take b ++ R ++ L.drop c).take a ++ X ++ (L.take b ++ R ++ L.drop c).drop b).take c = A ++ X ++ R ∧ ((L.take b ++ R ++ L.drop c).take a ++ X ++ (L.take b ++ R ++ L.drop c).drop b).length = L.length := by
  have h0 : (L.take b).length = b := by rw [List.length_take]; omega
  have h1 : (L.take b ++ R ++ L.drop c).take a = A := by
    rw [List.append_assoc, List.take_append_of_le_length (by omega), List.take_take, Nat.min_eq_left (by omega), hA]
  have h2 : (L.take b ++ R ++ L.drop c).drop b = R ++ L.drop c := by
    rw [List.append_assoc, List.drop_append_of_le_length (by omega), List.drop_eq_nil_of_le (by omega), List.nil_append]
  rw [h1, h2]
  constructor
  · rw [← List.append_assoc, List.take_append_of_le_length (by simp; omega)]
    exact List.take_of_length_le (by simp; omega)
  · simp
    omega
end

/-- Changes copied into a row that is known whole. -/
theorem run_copy3 (w : World) (dT sT ty : TypeId) (hu : Tryd.prog.underlying dT = some (.slice chgT)) (g o dLen dCap : Nat) (a : Addr) (sLen sCap : Nat) (cur : Array Value) (t : TypeId) (cs : List Value) (n : Nat)
    (hn : Nat.min sLen dLen = n) (hc : cs.length = n * 3) (hg : w.heap[g]? = some (.cells cur t (0, 0))) (hsrc : ∀ j v, cs[j]? = some v → w.cell? (a.add j) = some v) (hfit : o + cs.length ≤ cur.size) (h1 : ∀ v ∈ cs, v.oneCell' = true) :
    (Builtin.copy_ #[dT, sT] ty #[.slice (some ⟨g, o, none⟩) dLen dCap, .slice (some a) sLen sCap]).run Tryd.prog w =
      .ok (goInt n) (w.setRow g (cur.toList.take o ++ cs ++ cur.toList.drop (o + cs.length)).toArray) := by
  have hl := run_loadCells_list (P := Tryd.prog) w a cs hsrc
  have hst := run_storeCells_at Tryd.prog g o t cs 0 cur w hg (by simpa using hfit) h1
  rw [hc] at hl
  obtain ⟨i0, hi, hz0, hz1, hz2⟩ := info_parts infoC
  simp [Builtin.copy_, run_underlying hu, Builtin.lenOf, Builtin.firstCells, sizeOf, typeInfo, hi, hz1, hn, hl, hst]

/-- A list of changes with one appended. -/
theorem append_chg (w : World) (B : Nat) (v : Value) (q : List Chg) (x : Chg) (vb : Nat) (ho : w.ownsRow B chgT 3 v q.length (q.flatMap chC)) (hl : q.length ≤ 100000) (hB : B ≤ w.heap.size) (hx : w.rangeAt vb 0 (chC x)) :
    ∃ v' w', (Builtin.append_ #[chsT, chsT] chsT #[v, .slice (some ⟨vb, 0, none⟩) 1 1]).run Tryd.prog w = .ok v' w' ∧
      Hid (w'.ownsRow B chgT 3 v' (q.length + 1) ((q ++ [x]).flatMap chC) ∧ Fr (fun k => v.ownBlock = some k) w w' ∧ (∀ k, v'.ownBlock = some k → v.ownBlock = some k ∨ w.heap.size ≤ k)) := by
  obtain ⟨i0, hi, hz0, hz1, hz2⟩ := info_parts infoC
  obtain ⟨v', w', hr, h2, h3, _, h5⟩ := run_append_own_at (P := Tryd.prog) w B chsT chsT chgT i0 _ 3 40 Tryd.underlying59 hi hz0 hz1 hz2 rfl (by decide) v q.length _ ho ⟨vb, 0, none⟩ 1 1 (chC x) rfl
    (fun j u hu => by rw [addr_add]; exact hx j u hu) (one_cell x) (by unfold maxLen; omega) (by omega) hB
  refine ⟨v', w', hr, Lib.hid ⟨?_, ?_, fun k hk => ?_⟩⟩
  · rw [flat_snoc]; exact h2
  · exact (Fr.refl _ w).grown h3 fun k hk _ => hk
  · rcases h5 with h5 | h5
    · exact .inl (h5 ▸ hk)
    · rw [h5] at hk
      have := Option.some.inj hk
      exact .inr (by omega)
theorem goInt_one : goInt 1 = .int .i64 1 := rfl

/-- The list with one put in. -/
def insC (q : List Chg) (i : Nat) (x : Chg) : List Chg := q.take i ++ x :: q.drop i
theorem insC_flat (q : List Chg) (i : Nat) (x : Chg) : (insC q i x).flatMap chC = (q.flatMap chC).take (i * 3) ++ chC x ++ (q.flatMap chC).drop (i * 3) := by
  unfold insC
  rw [List.flatMap_append, List.flatMap_cons, flat_take, flat_drop]
  simp
theorem insC_length (q : List Chg) (i : Nat) (x : Chg) (hi : i ≤ q.length) : (insC q i x).length = q.length + 1 := by
  unfold insC
  simp
  omega
end Go.Proofs.YtkbeppmjdjddhaaDoor.Batch
