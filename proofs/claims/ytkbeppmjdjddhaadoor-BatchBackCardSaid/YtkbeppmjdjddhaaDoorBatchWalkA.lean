/-
  Walks of the program's batch: what compares keys, the search, find.
-/
import Derived.Test.YtkbeppmjdjddhaaDoorBatchBase
import Derived.Lib.Bytealg
import Derived.Laws.Externs
namespace Go.Proofs.YtkbeppmjdjddhaaDoor.Batch
open Go Go.RowKit

theorem cmp_lt : ∀ {a b : List UInt8}, Op.bytesLess a b = true → Lib.compareBytes a b = -1
  | [], [], h => by cases h
  | [], _ :: _, _ => rfl
  | _ :: _, [], h => by cases h
  | a :: r, b :: s, h => by
    have h' : (decide (a < b) || (a == b && Op.bytesLess r s)) = true := h
    unfold Lib.compareBytes
    by_cases h1 : a < b
    · rw [if_pos h1]
    · rw [if_neg h1]
      have h2 : a = b ∧ Op.bytesLess r s = true := by simpa [h1] using h'
      rw [h2.1, if_neg (UInt8.lt_irrefl b)]
      exact cmp_lt h2.2
theorem cmp_gt : ∀ {a b : List UInt8}, Op.bytesLess b a = true → Lib.compareBytes a b = 1
  | [], [], h => by cases h
  | [], _ :: _, h => by cases h
  | _ :: _, [], _ => rfl
  | a :: r, b :: s, h => by
    have h' : (decide (b < a) || (b == a && Op.bytesLess s r)) = true := h
    unfold Lib.compareBytes
    by_cases h1 : b < a
    · rw [if_neg (fun e => absurd (UInt8.lt_trans e h1) (UInt8.lt_irrefl a)), if_pos h1]
    · have h2 : b = a ∧ Op.bytesLess s r = true := by simpa [h1] using h'
      rw [h2.1, if_neg (UInt8.lt_irrefl a), if_neg (UInt8.lt_irrefl a)]
      exact cmp_gt h2.2
theorem cmp_same : ∀ a : List UInt8, Lib.compareBytes a a = 0
  | [] => rfl
  | a :: r => by
    unfold Lib.compareBytes
    rw [if_neg (UInt8.lt_irrefl a), if_neg (UInt8.lt_irrefl a)]
    exact cmp_same r

set_option maxHeartbeats 1000000 in
theorem compareL_any (a b : ByteArray) (w : World) :
    Calls Tryd.prog 53 #[.string a, .string b] w fun e w' => e = .returned (.int .i64 (Lib.compareBytes (bl a) (bl b))) ∧ w = w' := by
  have hx := fun W => Lib.run_compareString (P := Tryd.prog) a b W
  go_enter Tryd.func53, Tryd.ntmps53
  go_wp2
  rw [run_callFunc_extern Tryd.func62 (by kernel_rfl) (by kernel_rfl) (by kernel_rfl) (e := Extern.BytealgCompare.compare) (by kernel_rfl), hx]
  simp only [Result.andThen]
  rw [Oper.upon_value]
  go_wp2
  go_ret
  exact ⟨rfl, rfl⟩
set_option maxHeartbeats 1000000 in
theorem compare_any (a b : ByteArray) (w : World) :
    Calls Tryd.prog 45 #[.string a, .string b] w fun e w' => e = .returned (.int .i64 (Lib.compareBytes (bl a) (bl b))) ∧ w = w' := by
  go_enter Tryd.func45, Tryd.ntmps45
  go_wp2_with fail
  refine (compareL_any a b _).mono ?_
  rintro e w' ⟨rfl, rfl⟩
  go_wp2
  go_ret
  exact ⟨rfl, rfl⟩
set_option maxHeartbeats 1000000 in
theorem fn_any (c : Chg) (k : ByteArray) (w : World) (n : Int) (hn : Lib.compareBytes (bl c.key) (bl k) = n) :
    Calls Tryd.prog 44 #[chV c, .string k] w fun e w' => e = .returned (.int .i64 n) ∧ Below w.heap.size w w' := by
  subst hn
  go_enter Tryd.func44, Tryd.ntmps44
  go_wp2_with (go_at_call 45; refine (compare_any _ _ _).mono ?_; rintro e w' ⟨rfl, rfl⟩)
  go_ret
  exact ⟨rfl, (Below.refl _ _).alloc (Nat.le_refl _) _⟩

abbrev fnV : Value := .func (.func 44) #[] #[]
/-- What the comparison tells of the change at a place. -/
def sign (k : ByteArray) (q : List Chg) (i : Nat) : Int := if i < lo Chg.key k q then -1 else if i = lo Chg.key k q ∧ (at? Chg.key k q).isSome = true then 0 else 1
theorem sign_of {q : List Chg} (hr : Rising Chg.key q) (k : ByteArray) {i : Nat} {x : Chg} (h : q[i]? = some x) : Lib.compareBytes (bl x.key) (bl k) = sign k q i := by
  obtain ⟨hi, rfl⟩ := List.getElem?_eq_some_iff.1 h
  have hb := lo_below Chg.key hr (n := k) hi
  unfold sign
  by_cases h1 : i < lo Chg.key k q
  · rw [if_pos h1]
    exact cmp_lt (by rw [← decide_eq_true h1, ← hb]; rfl)
  · rw [if_neg h1]
    have hb' : less q[i].key k = false := by rw [hb]; exact decide_eq_false h1
    by_cases h2 : q[i].key = k
    · have ha := at_mem Chg.key hr q[i] (List.getElem_mem hi)
      rw [h2] at ha
      have h3 := at_there Chg.key hr ha
      have h4 : i = lo Chg.key k q := by
        rcases Nat.lt_or_ge (lo Chg.key k q) i with h5 | h5
        · exfalso
          have h6 : q[lo Chg.key k q]'h3.1 = q[i] := by
            have := h3.2
            rw [List.getElem?_eq_getElem h3.1] at this
            exact Option.some.inj this
          have h7 := List.pairwise_iff_getElem.1 hr _ _ h3.1 hi h5
          rw [h6, less_irrefl] at h7
          cases h7
        · omega
      rw [if_pos ⟨h4, by rw [ha]; rfl⟩, h2]
      exact cmp_same _
    · rw [if_neg]
      · exact cmp_gt (less_total hb' (fun e => h2 e.symm))
      · rintro ⟨rfl, h3⟩
        cases ha : at? Chg.key k q with
        | none => rw [ha] at h3; cases h3
        | some y =>
          have h4 := (at_there Chg.key hr ha).2
          rw [List.getElem?_eq_getElem hi] at h4
          have h5 := (at_some Chg.key ha).2
          rw [← Option.some.inj h4] at h5
          exact h2 h5
theorem sign_cases (k : ByteArray) (q : List Chg) (i : Nat) : (i < lo Chg.key k q ∧ sign k q i = -1) ∨ (lo Chg.key k q ≤ i ∧ (sign k q i = 0 ∨ sign k q i = 1)) := by
  unfold sign
  by_cases h1 : i < lo Chg.key k q
  · exact .inl ⟨h1, by rw [if_pos h1]⟩
  · refine .inr ⟨by omega, ?_⟩
    rw [if_neg h1]
    split
    · exact .inl rfl
    · exact .inr rfl

def SearchAt (w : World) (L : Nat) (q : List Chg) (i j : Value) (wr : World) : Prop :=
  ∃ a b : Nat, i = .int .i64 a ∧ j = .int .i64 b ∧ a ≤ L ∧ L ≤ b ∧ b ≤ q.length ∧ Below w.heap.size w wr
set_option maxHeartbeats 2000000 in
theorem search_any (v : Value) (q : List Chg) (k : ByteArray) (w : World) (h : ReadsC w v q) (hr : Rising Chg.key q) (hl : q.length ≤ 100000) :
    Calls Tryd.prog 43 #[v, .string k, fnV] w fun e w' => e = .returned (.tuple #[.int .i64 (lo Chg.key k q), .bool (at? Chg.key k q).isSome]) ∧ Below w.heap.size w w' := by
  have hlo := lo_le Chg.key k q
  rcases h with ⟨a, cap, rfl, rfl⟩ | ⟨h0, b, off, cap, rfl, h3, h4⟩
  · go_enter Tryd.func43, Tryd.ntmps43
    go_wp2_with fail
    go_loopw [9, 10] (fun i j wr => i = .int .i64 0 ∧ j = .int .i64 0 ∧ wr = w) (fun _ _ _ => 0)
    case atStart => exact ⟨rfl, rfl, rfl⟩
    case round =>
      obtain ⟨rfl, rfl, rfl⟩ := hrel
      go_wp2_with fail
      go_ret2
      exact ⟨rfl, Below.refl _ _⟩
  · have HC := Lib.hid (fun (W : World) (hW : Below w.heap.size w W) (i : Nat) (x : Chg) (hx : q[i]? = some x) => three (range_below (h4 i x hx) h3 hW))
    have HS := Lib.hid (fun (i : Nat) (x : Chg) (hx : q[i]? = some x) => sign_of hr k hx)
    have HQ := Lib.hid (sign_cases k q)
    clear h4
    have HA : Hid ((at? Chg.key k q).isSome = decide (lo Chg.key k q < q.length ∧ sign k q (lo Chg.key k q) = 0)) := by
      refine Lib.hid ?_
      unfold sign
      rw [if_neg (Nat.lt_irrefl _)]
      cases ha : at? Chg.key k q with
      | none => simp
      | some y => simp [(at_there Chg.key hr ha).1]
    generalize sign k q = S at *
    generalize lo Chg.key k q = L at *
    generalize (at? Chg.key k q).isSome = A at *
    clear hr
    go_enter Tryd.func43, Tryd.ntmps43
    go_wp2_with fail
    go_loopw [9, 10] (fun i j wr => SearchAt w L q i j wr) (fun i j _ => (intOf j - intOf i).toNat)
    case atStart => exact ⟨0, q.length, rfl, rfl, Nat.zero_le _, hlo, Nat.le_refl _, Below.refl _ _⟩
    case round =>
      obtain ⟨a, b', rfl, rfl, ha, hb, hbl, hB⟩ := hrel
      have HB := Lib.hid hB
      clear hB
      by_cases hlt : a < b'
      · obtain ⟨m, hm1, hm2, hm3⟩ : ∃ m : Nat, ((a : Int) + b') / 2 = m ∧ a ≤ m ∧ m < b' := ⟨(a + b') / 2, by omega, by omega, by omega⟩
        obtain ⟨x, hx⟩ : ∃ x, q[m]? = some x := ⟨q[m]'(by omega), List.getElem?_eq_getElem (by omega)⟩
        obtain ⟨c0, c1, c2⟩ := HC.out wr HB.out m x hx
        have hX := HS.out m x hx
        have hQm := HQ.out m
        clear hx
        rcases hQm with ⟨hml, hS⟩ | ⟨hml, hS | hS⟩
        all_goals
          rw [hS] at hX
          have HX := Lib.hid hX
          clear hX hS
          go_wp2_with fail
          refine (fn_any x k _ _ HX.out).mono ?_
          rintro e w1 ⟨rfl, hb1⟩
          have HB1 := Lib.hid (HB.out.trans (hb1.mono HB.out.size))
          clear hb1
          go_wp2_with fail
          go_roundw
          case rel => first | exact ⟨m + 1, b', by simp, rfl, by omega, by omega, by omega, HB1.out⟩ | exact ⟨a, m, rfl, rfl, by omega, by omega, by omega, HB1.out⟩
          case measure => simp [intOf]; omega
      · obtain rfl : a = b' := by omega
        obtain rfl : a = L := by omega
        by_cases hq : a < q.length
        · obtain ⟨x, hx⟩ : ∃ x, q[a]? = some x := ⟨q[a], List.getElem?_eq_getElem hq⟩
          obtain ⟨c0, c1, c2⟩ := HC.out wr HB.out a x hx
          have hX := HS.out a x hx
          have hQm := HQ.out a
          clear hx
          have hS : S a = 0 ∨ S a = 1 := by rcases hQm with ⟨h, _⟩ | ⟨_, h⟩; exact absurd h (by omega); exact h
          clear hQm
          rcases hS with hS | hS
          all_goals
            have HAA := Lib.hid (HA.out.trans (by rw [hS]; simp [hq] : _ = decide (S a = 0)))
            rw [hS] at hX HAA
            have HX := Lib.hid hX
            clear hX hS
            go_wp2_with fail
            refine (fn_any x k _ _ HX.out).mono ?_
            rintro e w1 ⟨rfl, hb1⟩
            have HB1 := Lib.hid (HB.out.trans (hb1.mono HB.out.size))
            clear hb1
            go_wp2_with fail
            go_ret2
            exact ⟨by rw [HAA.out]; rfl, HB1.out⟩
        · have HAA := Lib.hid (HA.out.trans (decide_eq_false (fun e => hq e.1)))
          go_wp2_with fail
          go_ret2
          exact ⟨by rw [HAA.out]; rfl, HB.out⟩
theorem find_any {w : World} {d : Bt} {q : List Chg} (h : Mem w d q) (hr : Rising Chg.key q) (hl : q.length ≤ 100000) (k : ByteArray) :
    Calls Tryd.prog 32 #[ptr d.pb, .string k] w fun e w' => e = .returned (.tuple #[.int .i64 (lo Chg.key k q), .bool (at? Chg.key k q).isSome]) ∧ Below w.heap.size w w' := by
  have hc := h.cell
  have HR := Lib.hid (search_any d.cv q k w h.reads hr hl)
  clear h hr
  go_enter Tryd.func32, Tryd.ntmps32
  go_wp2_with fail
  refine HR.out.mono ?_
  rintro e w1 ⟨rfl, hb1⟩
  have HB1 := Lib.hid hb1
  clear hb1
  go_wp2_with fail
  go_ret2
  exact ⟨rfl, HB1.out⟩
end Go.Proofs.YtkbeppmjdjddhaaDoor.Batch
