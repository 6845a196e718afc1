/-
  Walks of what the laws share: kinds; the chapter's example.
-/
import Derived.Test.YtoknflnoehmngaaDoorCellShow
namespace Go.Proofs.YtoknflnoehmngaaDoor.Cell
open Go Go.RowKit
open Go.Proofs.YtoknflnoehmngaaDoor.Nets (putS rowS Tab)

section
variable {w : World} {pb mb : Nat} {G : List Pair}
def one (c : Int) : Nat := if c = 0 then 1 else 0
set_option maxHeartbeats 1000000 in
theorem kinds_core (h : BagAt w pb mb G) (n : ByteArray) (hn : n.size ≤ maxLen) (c1 c2 c3 c4 : Int) (x : Value) (hx : valueAt n G = x) (h1 : code 9 x = c1) (h2 : code 3 x = c2) (h3 : code 4 x = c3) (h4 : code 28 x = c4) (m : Nat)
    (hm : (c1 = 6 ∧ c2 = 6 ∧ c3 = 6 ∧ c4 = 6 ∧ m = 0) ∨ (c1 = 0 ∧ c2 = 70 ∧ c3 = 70 ∧ c4 = 70 ∧ m = 1) ∨ (c1 = 70 ∧ c2 = 0 ∧ c3 = 70 ∧ c4 = 70 ∧ m = 1) ∨ (c1 = 70 ∧ c2 = 70 ∧ c3 = 0 ∧ c4 = 70 ∧ m = 1) ∨ (c1 = 70 ∧ c2 = 70 ∧ c3 = 70 ∧ c4 = 0 ∧ m = 1)) :
    Calls Tryd.prog 17 #[ptr pb, .string n] w fun e w' => e = .returned (.int .i64 m) ∧ Below w.heap.size w w' := by
  have hT := text_any h n hn
  have hN := num_any h n hn
  have hF := flag_any h n hn
  have hL := list_any h n hn
  rw [hx] at hT hN hF hL
  rw [h1] at hT
  rw [h2] at hN
  rw [h3] at hF
  rw [h4] at hL
  have HT := Lib.hid hT
  have HN := Lib.hid hN
  have HF := Lib.hid hF
  have HL := Lib.hid hL
  clear hT hN hF hL h hn hx h1 h2 h3 h4
  rcases hm with ⟨rfl, rfl, rfl, rfl, rfl⟩ | ⟨rfl, rfl, rfl, rfl, rfl⟩ | ⟨rfl, rfl, rfl, rfl, rfl⟩ | ⟨rfl, rfl, rfl, rfl, rfl⟩ | ⟨rfl, rfl, rfl, rfl, rfl⟩
  · go_enter Tryd.func17, Tryd.ntmps17
    go_wp2_with fail
    refine HT.out.mono ?_
    rintro e w' ⟨rfl, rfl⟩
    go_wp2_with fail
    refine HN.out.mono ?_
    rintro e w' ⟨rfl, rfl⟩
    go_wp2_with fail
    refine HF.out.mono ?_
    rintro e w' ⟨rfl, rfl⟩
    go_wp2_with fail
    refine HL.out.mono ?_
    rintro e w1 ⟨sv, rfl, hO, hb1⟩
    have HB := Lib.hid hb1
    clear hO hb1
    go_wp2_with fail
    go_loopw [13, 15, 46] (fun nv _ i wr => wr = w1.alloc (.cells #[.int .i64 6, .int .i64 6, .int .i64 6, .int .i64 6] 48) ∧ ((nv = .int .i64 0 ∧ i = .int .i64 0) ∨ (nv = .int .i64 0 ∧ i = .int .i64 1) ∨ (nv = .int .i64 0 ∧ i = .int .i64 2) ∨ (nv = .int .i64 0 ∧ i = .int .i64 3) ∨ (nv = .int .i64 0 ∧ i = .int .i64 4))) (fun _ _ i _ => 4 - (intOf i).toNat)
    case atStart => exact ⟨rfl, .inl ⟨rfl, rfl⟩⟩
    case round =>
      obtain ⟨rfl, hst⟩ := hrel
      rcases hst with ⟨rfl, rfl⟩ | ⟨rfl, rfl⟩ | ⟨rfl, rfl⟩ | ⟨rfl, rfl⟩ | ⟨rfl, rfl⟩
      · go_wp2_with fail
        go_roundw
        case rel => exact ⟨trivial, .inr (.inl ⟨rfl, rfl⟩)⟩
        case measure => decide
      · go_wp2_with fail
        go_roundw
        case rel => exact ⟨trivial, .inr (.inr (.inl ⟨rfl, rfl⟩))⟩
        case measure => decide
      · go_wp2_with fail
        go_roundw
        case rel => exact ⟨trivial, .inr (.inr (.inr (.inl ⟨rfl, rfl⟩)))⟩
        case measure => decide
      · go_wp2_with fail
        go_roundw
        case rel => exact ⟨trivial, .inr (.inr (.inr (.inr (⟨rfl, rfl⟩))))⟩
        case measure => decide
      · go_wp2_with fail
        go_ret
        exact ⟨rfl, HB.out.alloc HB.out.size _⟩
  · go_enter Tryd.func17, Tryd.ntmps17
    go_wp2_with fail
    refine HT.out.mono ?_
    rintro e w' ⟨rfl, rfl⟩
    go_wp2_with fail
    refine HN.out.mono ?_
    rintro e w' ⟨rfl, rfl⟩
    go_wp2_with fail
    refine HF.out.mono ?_
    rintro e w' ⟨rfl, rfl⟩
    go_wp2_with fail
    refine HL.out.mono ?_
    rintro e w1 ⟨sv, rfl, hO, hb1⟩
    have HB := Lib.hid hb1
    clear hO hb1
    go_wp2_with fail
    go_loopw [13, 15, 46] (fun nv _ i wr => wr = w1.alloc (.cells #[.int .i64 0, .int .i64 70, .int .i64 70, .int .i64 70] 48) ∧ ((nv = .int .i64 0 ∧ i = .int .i64 0) ∨ (nv = .int .i64 1 ∧ i = .int .i64 1) ∨ (nv = .int .i64 1 ∧ i = .int .i64 2) ∨ (nv = .int .i64 1 ∧ i = .int .i64 3) ∨ (nv = .int .i64 1 ∧ i = .int .i64 4))) (fun _ _ i _ => 4 - (intOf i).toNat)
    case atStart => exact ⟨rfl, .inl ⟨rfl, rfl⟩⟩
    case round =>
      obtain ⟨rfl, hst⟩ := hrel
      rcases hst with ⟨rfl, rfl⟩ | ⟨rfl, rfl⟩ | ⟨rfl, rfl⟩ | ⟨rfl, rfl⟩ | ⟨rfl, rfl⟩
      · go_wp2_with fail
        go_roundw
        case rel => exact ⟨trivial, .inr (.inl ⟨rfl, rfl⟩)⟩
        case measure => decide
      · go_wp2_with fail
        go_roundw
        case rel => exact ⟨trivial, .inr (.inr (.inl ⟨rfl, rfl⟩))⟩
        case measure => decide
      · go_wp2_with fail
        go_roundw
        case rel => exact ⟨trivial, .inr (.inr (.inr (.inl ⟨rfl, rfl⟩)))⟩
        case measure => decide
      · go_wp2_with fail
        go_roundw
        case rel => exact ⟨trivial, .inr (.inr (.inr (.inr (⟨rfl, rfl⟩))))⟩
        case measure => decide
      · go_wp2_with fail
        go_ret
        exact ⟨rfl, HB.out.alloc HB.out.size _⟩
  · go_enter Tryd.func17, Tryd.ntmps17
    go_wp2_with fail
    refine HT.out.mono ?_
    rintro e w' ⟨rfl, rfl⟩
    go_wp2_with fail
    refine HN.out.mono ?_
    rintro e w' ⟨rfl, rfl⟩
    go_wp2_with fail
    refine HF.out.mono ?_
    rintro e w' ⟨rfl, rfl⟩
    go_wp2_with fail
    refine HL.out.mono ?_
    rintro e w1 ⟨sv, rfl, hO, hb1⟩
    have HB := Lib.hid hb1
    clear hO hb1
    go_wp2_with fail
    go_loopw [13, 15, 46] (fun nv _ i wr => wr = w1.alloc (.cells #[.int .i64 70, .int .i64 0, .int .i64 70, .int .i64 70] 48) ∧ ((nv = .int .i64 0 ∧ i = .int .i64 0) ∨ (nv = .int .i64 0 ∧ i = .int .i64 1) ∨ (nv = .int .i64 1 ∧ i = .int .i64 2) ∨ (nv = .int .i64 1 ∧ i = .int .i64 3) ∨ (nv = .int .i64 1 ∧ i = .int .i64 4))) (fun _ _ i _ => 4 - (intOf i).toNat)
    case atStart => exact ⟨rfl, .inl ⟨rfl, rfl⟩⟩
    case round =>
      obtain ⟨rfl, hst⟩ := hrel
      rcases hst with ⟨rfl, rfl⟩ | ⟨rfl, rfl⟩ | ⟨rfl, rfl⟩ | ⟨rfl, rfl⟩ | ⟨rfl, rfl⟩
      · go_wp2_with fail
        go_roundw
        case rel => exact ⟨trivial, .inr (.inl ⟨rfl, rfl⟩)⟩
        case measure => decide
      · go_wp2_with fail
        go_roundw
        case rel => exact ⟨trivial, .inr (.inr (.inl ⟨rfl, rfl⟩))⟩
        case measure => decide
      · go_wp2_with fail
        go_roundw
        case rel => exact ⟨trivial, .inr (.inr (.inr (.inl ⟨rfl, rfl⟩)))⟩
        case measure => decide
      · go_wp2_with fail
        go_roundw
        case rel => exact ⟨trivial, .inr (.inr (.inr (.inr (⟨rfl, rfl⟩))))⟩
        case measure => decide
      · go_wp2_with fail
        go_ret
        exact ⟨rfl, HB.out.alloc HB.out.size _⟩
  · go_enter Tryd.func17, Tryd.ntmps17
    go_wp2_with fail
    refine HT.out.mono ?_
    rintro e w' ⟨rfl, rfl⟩
    go_wp2_with fail
    refine HN.out.mono ?_
    rintro e w' ⟨rfl, rfl⟩
    go_wp2_with fail
    refine HF.out.mono ?_
    rintro e w' ⟨rfl, rfl⟩
    go_wp2_with fail
    refine HL.out.mono ?_
    rintro e w1 ⟨sv, rfl, hO, hb1⟩
    have HB := Lib.hid hb1
    clear hO hb1
    go_wp2_with fail
    go_loopw [13, 15, 46] (fun nv _ i wr => wr = w1.alloc (.cells #[.int .i64 70, .int .i64 70, .int .i64 0, .int .i64 70] 48) ∧ ((nv = .int .i64 0 ∧ i = .int .i64 0) ∨ (nv = .int .i64 0 ∧ i = .int .i64 1) ∨ (nv = .int .i64 0 ∧ i = .int .i64 2) ∨ (nv = .int .i64 1 ∧ i = .int .i64 3) ∨ (nv = .int .i64 1 ∧ i = .int .i64 4))) (fun _ _ i _ => 4 - (intOf i).toNat)
    case atStart => exact ⟨rfl, .inl ⟨rfl, rfl⟩⟩
    case round =>
      obtain ⟨rfl, hst⟩ := hrel
      rcases hst with ⟨rfl, rfl⟩ | ⟨rfl, rfl⟩ | ⟨rfl, rfl⟩ | ⟨rfl, rfl⟩ | ⟨rfl, rfl⟩
      · go_wp2_with fail
        go_roundw
        case rel => exact ⟨trivial, .inr (.inl ⟨rfl, rfl⟩)⟩
        case measure => decide
      · go_wp2_with fail
        go_roundw
        case rel => exact ⟨trivial, .inr (.inr (.inl ⟨rfl, rfl⟩))⟩
        case measure => decide
      · go_wp2_with fail
        go_roundw
        case rel => exact ⟨trivial, .inr (.inr (.inr (.inl ⟨rfl, rfl⟩)))⟩
        case measure => decide
      · go_wp2_with fail
        go_roundw
        case rel => exact ⟨trivial, .inr (.inr (.inr (.inr (⟨rfl, rfl⟩))))⟩
        case measure => decide
      · go_wp2_with fail
        go_ret
        exact ⟨rfl, HB.out.alloc HB.out.size _⟩
  · go_enter Tryd.func17, Tryd.ntmps17
    go_wp2_with fail
    refine HT.out.mono ?_
    rintro e w' ⟨rfl, rfl⟩
    go_wp2_with fail
    refine HN.out.mono ?_
    rintro e w' ⟨rfl, rfl⟩
    go_wp2_with fail
    refine HF.out.mono ?_
    rintro e w' ⟨rfl, rfl⟩
    go_wp2_with fail
    refine HL.out.mono ?_
    rintro e w1 ⟨sv, rfl, hO, hb1⟩
    have HB := Lib.hid hb1
    clear hO hb1
    go_wp2_with fail
    go_loopw [13, 15, 46] (fun nv _ i wr => wr = w1.alloc (.cells #[.int .i64 70, .int .i64 70, .int .i64 70, .int .i64 0] 48) ∧ ((nv = .int .i64 0 ∧ i = .int .i64 0) ∨ (nv = .int .i64 0 ∧ i = .int .i64 1) ∨ (nv = .int .i64 0 ∧ i = .int .i64 2) ∨ (nv = .int .i64 0 ∧ i = .int .i64 3) ∨ (nv = .int .i64 1 ∧ i = .int .i64 4))) (fun _ _ i _ => 4 - (intOf i).toNat)
    case atStart => exact ⟨rfl, .inl ⟨rfl, rfl⟩⟩
    case round =>
      obtain ⟨rfl, hst⟩ := hrel
      rcases hst with ⟨rfl, rfl⟩ | ⟨rfl, rfl⟩ | ⟨rfl, rfl⟩ | ⟨rfl, rfl⟩ | ⟨rfl, rfl⟩
      · go_wp2_with fail
        go_roundw
        case rel => exact ⟨trivial, .inr (.inl ⟨rfl, rfl⟩)⟩
        case measure => decide
      · go_wp2_with fail
        go_roundw
        case rel => exact ⟨trivial, .inr (.inr (.inl ⟨rfl, rfl⟩))⟩
        case measure => decide
      · go_wp2_with fail
        go_roundw
        case rel => exact ⟨trivial, .inr (.inr (.inr (.inl ⟨rfl, rfl⟩)))⟩
        case measure => decide
      · go_wp2_with fail
        go_roundw
        case rel => exact ⟨trivial, .inr (.inr (.inr (.inr (⟨rfl, rfl⟩))))⟩
        case measure => decide
      · go_wp2_with fail
        go_ret
        exact ⟨rfl, HB.out.alloc HB.out.size _⟩
theorem kinds_any (h : BagAt w pb mb G) (n : ByteArray) (hn : n.size ≤ maxLen) :
    Calls Tryd.prog 17 #[ptr pb, .string n] w fun e w' => e = .returned (.int .i64 (if (at? pn n G).isSome then (1 : Nat) else 0 : Nat)) ∧ Below w.heap.size w w' := by
  cases ha : at? pn n G with
  | none =>
    have hx : valueAt n G = .nilIface := by unfold valueAt; rw [ha]
    exact kinds_core h n hn _ _ _ _ _ hx rfl rfl rfl rfl 0 (.inl ⟨rfl, rfl, rfl, rfl, rfl⟩)
  | some g =>
    have hx : valueAt n G = g.2 := by unfold valueAt; rw [ha]
    rcases h.tied g (at_some pn ha).1 with ⟨_, e⟩ | ⟨_, e⟩ | ⟨_, e⟩ | ⟨_, _, sv, e, _⟩
    · exact kinds_core h n hn _ _ _ _ _ (hx.trans e) rfl rfl rfl rfl 1 (.inr (.inl ⟨rfl, rfl, rfl, rfl, rfl⟩))
    · exact kinds_core h n hn _ _ _ _ _ (hx.trans e) rfl rfl rfl rfl 1 (.inr (.inr (.inl ⟨rfl, rfl, rfl, rfl, rfl⟩)))
    · exact kinds_core h n hn _ _ _ _ _ (hx.trans e) rfl rfl rfl rfl 1 (.inr (.inr (.inr (.inl ⟨rfl, rfl, rfl, rfl, rfl⟩))))
    · exact kinds_core h n hn _ _ _ _ _ (hx.trans e) rfl rfl rfl rfl 1 (.inr (.inr (.inr (.inr ⟨rfl, rfl, rfl, rfl, rfl⟩))))

/-! What is found behind a put, and behind a drop. -/
theorem at_ins {α : Type} (nm : α → ByteArray) (x : α) (n : ByteArray) : ∀ l : List α, (∀ y ∈ l, nm y ≠ nm x) → at? nm n (ins nm x l) = if nm x = n then some x else at? nm n l
  | [], _ => by
    unfold ins at?
    by_cases h : nm x = n <;> simp [h]
  | y :: r, h => by
    have hy := h y (by simp)
    unfold ins
    split
    · by_cases hx : nm x = n
      · simp [at?, hx]
      · simp [at?, hx]
    · have ih := at_ins nm x n r fun z hz => h z (by simp [hz])
      unfold at? at ih ⊢
      by_cases hyn : nm y = n
      · have hx : nm x ≠ n := fun e => hy (by rw [hyn, e])
        simp [hyn, hx]
      · simp only [List.find?_cons, decide_eq_false hyn]
        rw [ih]
theorem at_del {α : Type} (nm : α → ByteArray) (m n : ByteArray) (l : List α) : at? nm n (del nm m l) = if m = n then none else at? nm n l := by
  unfold at? del
  rw [List.find?_filter]
  split
  · rename_i h
    rw [List.find?_eq_none]
    intro x _
    rw [h]
    by_cases hx : nm x = n <;> simp [hx]
  · rename_i h
    congr 1
    funext x
    by_cases hx : nm x = n
    · have : nm x ≠ m := fun e => h (by rw [← e, hx])
      simp [hx]
      exact fun e => h e.symm
    · simp [hx]
theorem at_put {α : Type} (nm : α → ByteArray) (x : α) (n : ByteArray) (l : List α) : at? nm n (put nm x l) = if nm x = n then some x else at? nm n l := by
  unfold put
  rw [at_ins nm x n _ fun y hy => by simpa [del] using (List.mem_filter.1 hy).2, at_del]
  by_cases h : nm x = n <;> simp [h]
/-! The chapter's example. -/
def exEnt : Ent := ⟨⟨#[97]⟩, ⟨2, ⟨#[]⟩, 5, false, none, 0, 0, []⟩⟩
theorem ex_show : showS [exEnt] = [49, 58, 97, 44, 110, 49, 58, 53, 44, 10] := by
  unfold showS lineS exEnt valText putS
  simp only [List.map_cons, List.map_nil]
  rw [show (bl ⟨#[97]⟩).length = 1 from rfl, Lib.decDigits_one (by decide)]
  have e1 : Lib.itoa 5 = [53] := by rw [show (5 : Int) = ((5 : Nat) : Int) from rfl, Lib.itoa_nonneg, Lib.decDigits_one (by decide)]; rfl
  simp only [↓reduceIte]
  rw [e1, show ([53] : List UInt8).length = 1 from rfl, Lib.decDigits_one (by decide)]
  rfl
set_option maxHeartbeats 1000000 in
theorem works_any (w : World) (hT : Tab w) : Calls Tryd.prog 8 #[] w fun e w' => e = .returned (.bool true) ∧ Below w.heap.size w w' := by
  have HT := Lib.hid hT
  have hm := made w
  have h0 : Below w.heap.size w ((w.alloc (.map #[] 0)).alloc (.cells #[.map (some w.heap.size)] 54)) := ((Below.refl _ _).alloc (Nat.le_refl _) _).alloc (by simp) _
  have HM := Lib.hid (And.intro hm h0)
  clear hm h0 hT
  generalize hw1 : (w.alloc (.map #[] 0)).alloc (.cells #[.map (some w.heap.size)] 54) = w1 at HM
  go_enter Tryd.func8, Tryd.ntmps8
  go_wp2_with fail
  refine (new_any w).mono ?_
  rintro e w' ⟨rfl, rfl⟩
  rw [hw1]
  go_wp2_with fail
  refine (putNum_any HM.out.1 exEnt rfl (by decide) (by decide)).mono ?_
  rintro e w2 ⟨rfl, hB, hTn⟩
  have hb2 : Below w.heap.size w w2 := HM.out.2.grown hTn.grown HM.out.2.size (fun k hk => by cases hk; exact Nat.le_refl _)
  have HB := Lib.hid (And.intro hB hb2)
  clear hB hTn hb2
  go_wp2_with fail
  have hval : valueAt ⟨#[97]⟩ (put pn (exEnt, .iface 3 (.int .i64 exEnt.v.n)) []) = .iface 3 (.int .i64 5) := by
    unfold valueAt
    rw [at_put, if_pos (show pn (exEnt, .iface 3 (.int .i64 exEnt.v.n)) = ⟨#[97]⟩ from rfl)]
    rfl
  have HV := Lib.hid hval
  clear hval
  have HTX : Hid (Calls Tryd.prog 25 #[ptr (w.heap.size + 1), .string ⟨#[97]⟩] w2 fun e w' => e = .returned (.tuple #[.string ⟨#[]⟩, .int .i64 70]) ∧ w2 = w') := by
    have := text_any HB.out.1 ⟨#[97]⟩ (by decide)
    rw [HV.out] at this
    exact this
  refine HTX.out.mono ?_
  rintro e w' ⟨rfl, rfl⟩
  go_wp2_with fail
  refine (kind_any HB.out.1 ⟨#[97]⟩ (by decide)).mono ?_
  rintro e w' ⟨rfl, rfl⟩
  rw [HV.out, kn_n]
  have HS := Lib.hid (show_any HB.out.1 (fun g hg => by
    have : g = (exEnt, .iface 3 (.int .i64 exEnt.v.n)) := by
      rcases put_mem pn hg with h | h
      · exact h
      · cases h
    rw [this]
    exact ⟨by decide, by decide, by decide, fun x hx => (by cases hx), by decide, by decide⟩) (HT.out.below HB.out.2))
  go_wp2_with fail
  refine HS.out.mono ?_
  rintro e w3 ⟨rfl, hb3⟩
  have he : showS ((put pn (exEnt, .iface 3 (.int .i64 exEnt.v.n)) []).map (·.1)) = [49, 58, 97, 44, 110, 49, 58, 53, 44, 10] := by
    rw [put_map]
    exact ex_show
  rw [he]
  go_wp2_with fail
  go_ret
  exact ⟨rfl, HB.out.2.trans (hb3.mono HB.out.2.size)⟩
end
end Go.Proofs.YtoknflnoehmngaaDoor.Cell
