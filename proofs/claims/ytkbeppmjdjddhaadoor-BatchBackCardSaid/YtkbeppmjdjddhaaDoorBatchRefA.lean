/-
  Walks of the document's answer: Fits, Find, Texts.
-/
import Derived.Test.YtkbeppmjdjddhaaDoorBatchTexts
namespace Go.Proofs.YtkbeppmjdjddhaaDoor.Batch
open Go Go.RowKit
open Go.Proofs.YtkbeppmjdjddhaaDoor.Nets (Tab Reads str)

set_option maxHeartbeats 1000000 in
theorem fits_any (c : Chg) (w : World) (hk : c.key.size ≤ 9223372036854775807) (hv : c.val.size ≤ 9223372036854775807) (n : Nat) (hn : chk c = n) :
    Calls Tryd.prog 37 #[chV c] w fun e w' => e = .returned (.int .i64 n) ∧ Below w.heap.size w w' := by
  subst hn
  by_cases h0 : c.key.size = 0
  · have e1 : chk c = 3 := by unfold chk; rw [if_pos h0]
    have e2 := emp_true c.key h0
    rw [e1]
    clear e1
    go_enter Tryd.func37, Tryd.ntmps37
    go_wp2
    go_ret
    exact ⟨rfl, (Below.refl _ _).alloc (Nat.le_refl _) _⟩
  · have e2 := emp_false c.key (by omega)
    by_cases h1 : 200 < c.key.size
    · have e1 : chk c = 2 := by unfold chk; rw [if_neg h0, if_pos (.inl h1)]
      rw [e1]
      clear e1
      go_enter Tryd.func37, Tryd.ntmps37
      go_wp2
      go_ret
      exact ⟨rfl, (Below.refl _ _).alloc (Nat.le_refl _) _⟩
    · by_cases h2 : 1048576 < c.val.size
      · have e1 : chk c = 2 := by unfold chk; rw [if_neg h0, if_pos (.inr h2)]
        rw [e1]
        clear e1
        go_enter Tryd.func37, Tryd.ntmps37
        go_wp2
        go_ret
        exact ⟨rfl, (Below.refl _ _).alloc (Nat.le_refl _) _⟩
      · have e1 : chk c = 0 := by unfold chk; rw [if_neg h0, if_neg (by omega)]
        rw [e1]
        clear e1
        go_enter Tryd.func37, Tryd.ntmps37
        go_wp2
        go_ret
        exact ⟨rfl, (Below.refl _ _).alloc (Nat.le_refl _) _⟩

theorem find_hit (n : ByteArray) (q : List Chg) (k : Nat) (e : Chg) (hk : q[k]? = some e) (hn : ∀ x ∈ q.take k, x.key ≠ n) (he : e.key = n) : at? Chg.key n q = some e := by
  have hs : q = q.take k ++ e :: q.drop (k + 1) := by
    obtain ⟨h1, h2⟩ := List.getElem?_eq_some_iff.1 hk
    rw [← h2, List.getElem_cons_drop, List.take_append_drop]
  unfold at?
  rw [hs, List.find?_append, List.find?_eq_none.2 (fun x hx => by simpa using hn x hx)]
  simp [he]
theorem find_miss (n : ByteArray) (q : List Chg) (hn : ∀ x ∈ q, x.key ≠ n) : at? Chg.key n q = none := by
  unfold at?
  exact List.find?_eq_none.2 (fun x hx => by simpa using hn x hx)
theorem take_next {α : Type} {p : α → Prop} {q : List α} {k : Nat} {e : α} (hk : q[k]? = some e) (hn : ∀ x ∈ q.take k, p x) (he : p e) : ∀ x ∈ q.take (k + 1), p x := by
  rw [List.take_add_one, hk]
  intro x hx
  rcases List.mem_append.1 hx with hx | hx
  · exact hn x hx
  · simp at hx
    rw [hx]; exact he
set_option maxHeartbeats 2000000 in
theorem refFind_any (v : Value) (q : List Chg) (n : ByteArray) (w : World) (h : ReadsC w v q) (hf : q.length ≤ 100000) :
    Calls Tryd.prog 13 #[v, .string n] w fun e w' => e = .returned (.tuple #[chV (tells n q), .bool (at? Chg.key n q).isSome]) ∧ Below w.heap.size w w' := by
  have hz : Below w.heap.size w (w.alloc (boxC refT Chg.none)) := (Below.refl _ _).alloc (Nat.le_refl _) _
  rcases h with ⟨a, cap, rfl, rfl⟩ | ⟨h0, b, off, cap, rfl, h3, h4⟩
  · go_enter Tryd.func13, Tryd.ntmps13
    go_wp2_with fail
    go_loopw [6] (fun i wr => i = .int .i64 0 ∧ wr = w.alloc (boxC refT Chg.none)) (fun i _ => 0 - (intOf i).toNat)
    case atStart => exact ⟨rfl, rfl⟩
    case round =>
      obtain ⟨rfl, rfl⟩ := hrel
      go_wp2_with fail
      refine bodyPost_ret (results_two Tryd.results13 _ _ w.heap.size _ rfl (load_ref _ _ refT _ rfl (heap_alloc_new _ _))) rfl ?_
      exact ⟨rfl, hz⟩
  · have HR := Lib.hid h4
    have hlb : b ≠ w.heap.size := by omega
    clear h4
    go_enter Tryd.func13, Tryd.ntmps13
    go_wp2_with fail
    go_loopw [6] (fun i wr => ∃ k : Nat, k ≤ q.length ∧ i = .int .i64 k ∧ (∀ x ∈ q.take k, x.key ≠ n) ∧ wr = w.alloc (boxC refT Chg.none)) (fun i _ => q.length - (intOf i).toNat)
    case atStart => exact ⟨0, Nat.zero_le _, rfl, by simp, rfl⟩
    case round =>
      obtain ⟨k, hk, rfl, hn, rfl⟩ := hrel
      have HN := Lib.hid hn
      clear hn
      by_cases hlt : k < q.length
      · obtain ⟨e, hke⟩ : ∃ e, q[k]? = some e := ⟨q[k], List.getElem?_eq_getElem hlt⟩
        have HE := Lib.hid hke
        obtain ⟨c0, c1, c2⟩ := three (HR.out k e hke)
        clear hke
        by_cases he : e.key = n
        · have hd : (e.key.toList == n.toList) = true := by rw [key_eq]; exact decide_eq_true he
          have hF := find_hit n q k e HE.out HN.out he
          have HF := Lib.hid (And.intro hF (show tells n q = e by unfold tells; rw [hF]))
          clear he hF
          go_wp2_with fail
          rw [HF.out.1, HF.out.2]
          refine bodyPost_ret (results_two Tryd.results13 _ _ w.heap.size _ rfl (load_ref _ _ refT _ rfl (heap_alloc_new _ _))) rfl ?_
          exact ⟨rfl, (Below.refl _ _).alloc (Nat.le_refl _) _⟩
        · have hd : (e.key.toList == n.toList) = false := by rw [key_eq]; exact decide_eq_false he
          have HF := Lib.hid (take_next (p := fun x : Chg => x.key ≠ n) HE.out HN.out he)
          clear he
          go_wp2_with fail
          go_roundw
          case rel => exact ⟨k + 1, by omega, by simp, HF.out, trivial⟩
          case measure => simp [intOf]; omega
      · have hF := find_miss n q (by have h := HN.out; rw [List.take_of_length_le (by omega)] at h; exact h)
        have HF := Lib.hid (And.intro hF (show tells n q = Chg.none by unfold tells; rw [hF]))
        clear hF
        go_wp2_with fail
        rw [HF.out.1, HF.out.2]
        refine bodyPost_ret (results_two Tryd.results13 _ _ w.heap.size _ rfl (load_ref _ _ refT _ rfl (heap_alloc_new _ _))) rfl ?_
        exact ⟨rfl, hz⟩

/-- The texts so far. -/
def RefTextsAt (w : World) (q : List Chg) (v i : Value) (wr : World) : Prop :=
  ∃ k : Nat, k ≤ q.length ∧ i = .int .i64 k ∧ wr.ownsRow w.heap.size strT 1 v (q.take k).length (textV (q.take k)) ∧ Below w.heap.size w wr
set_option maxHeartbeats 2000000 in
theorem refTexts_any (v : Value) (q : List Chg) (w : World) (h : ReadsC w v q) (hl : q.length ≤ 100000) (hf : ∀ x ∈ q, Fine x) :
    Calls Tryd.prog 17 #[v] w fun e w' => ∃ v, e = .returned v ∧ w'.ownsRow w.heap.size strT 1 v q.length (textV q) ∧ Below w.heap.size w w' := by
  obtain ⟨i0, hi, hz0, hz1, hz2⟩ := info_parts Nets.infoString
  rcases h with ⟨a, cap, rfl, rfl⟩ | ⟨h0, b, off, cap, rfl, h3, h4⟩
  · go_enter Tryd.func17, Tryd.ntmps17
    go_wp2_with fail
    go_loopw [3, 4] (fun v i wr => v = .slice none 0 0 ∧ i = .int .i64 0 ∧ wr = w) (fun _ i _ => 0 - (intOf i).toNat)
    case atStart => exact ⟨rfl, rfl, rfl⟩
    case round =>
      obtain ⟨rfl, rfl, rfl⟩ := hrel
      go_wp2_with fail
      go_ret
      exact ⟨_, rfl, World.ownsRow_nil _ _ _ _, Below.refl _ _⟩
  · have HR := Lib.hid (fun (W : World) (hW : Below w.heap.size w W) (k : Nat) (x : Chg) (hx : q[k]? = some x) => three (range_below (h4 k x hx) h3 hW))
    have HF := Lib.hid hf
    clear h4 hf
    go_enter Tryd.func17, Tryd.ntmps17
    go_wp2_with fail
    go_loopw [3, 4] (fun v i wr => RefTextsAt w q v i wr) (fun _ i _ => q.length - (intOf i).toNat)
    case atStart => exact ⟨0, Nat.zero_le _, rfl, World.ownsRow_nil _ _ _ _, Below.refl _ _⟩
    case round =>
      obtain ⟨k, hk, rfl, ho, hb⟩ := hrel
      have HB := Lib.hid hb
      by_cases hlt : k < q.length
      · obtain ⟨x, hx⟩ : ∃ x, q[k]? = some x := ⟨q[k], List.getElem?_eq_getElem hlt⟩
        obtain ⟨c0, c1, c2⟩ := HR.out wr hb k x hx
        have HW := Lib.hid (fun W => refWrite_any x W (HF.out x (List.mem_of_getElem? hx)))
        have ht : q.take (k + 1) = q.take k ++ [x] := by rw [List.take_add_one, hx]; rfl
        have HT := Lib.hid ht
        have htl : (q.take k).length ≤ 100000 := by rw [List.length_take]; omega
        generalize q.take k = p at *
        obtain ⟨pa, pc, rfl⟩ := owns_slice ho
        have HO := Lib.hid ho
        clear ho hb hx ht
        go_wp2_with fail
        refine (HW.out _).mono ?_
        rintro e w2 ⟨rfl, hb2⟩
        have HO2 := Lib.hid (Nets.owns_below HO.out hb2)
        have HB2 := Lib.hid (HB.out.trans (hb2.mono HB.out.size))
        clear hb2
        obtain ⟨v', w3, hr, h5, h6, _⟩ := run_append_own (P := Tryd.prog) (w2.alloc (.cells #[str (writeS x)] strT)) w.heap.size strsT strsT strT i0 _ 1 16 Tryd.underlying38 hi hz0 hz1 hz2 rfl (by decide) _ p.length _ (HO2.out.alloc _) ⟨w2.heap.size, 0, none⟩ 1 1 [str (writeS x)] rfl
          (Nets.new_cell w2 _) (by intro u hu; simp at hu; subst hu; rfl) (by unfold maxLen; omega) (by omega) (by have := HB2.out.size; simp; omega)
        have HA := Lib.hid hr
        have hB3 : Below w.heap.size w w3 := (HB2.out.alloc HB2.out.size _).grown h6 (by have := HB2.out.size; simp; omega) (fun j hj => ((HO2.out.alloc (.cells #[str (writeS x)] strT)).lt j hj).1)
        have e5 : textV (p ++ [x]) = textV p ++ [str (writeS x)] := by simp [textV]
        have HG : Hid (RefTextsAt w q v' (.int .i64 ((k : Int) + 1)) w3) := ⟨k + 1, by omega, by simp, by rw [HT.out, e5, List.length_append]; exact h5, hB3⟩
        clear hr h5 h6 hB3 e5 htl
        go_wp2_with (at_builtin; refine Lib.wpList_append_run _ rfl _ _ _ _ rfl _ _ rfl rfl _ _ HA.out ?_)
        go_roundw
        case rel => exact HG.out
        case measure => simp [intOf]; omega
      · rw [List.take_of_length_le (by omega)] at ho
        have HO := Lib.hid ho
        clear ho hb
        go_wp2_with fail
        go_ret
        exact ⟨_, rfl, HO.out, HB.out⟩
end Go.Proofs.YtkbeppmjdjddhaaDoor.Batch
