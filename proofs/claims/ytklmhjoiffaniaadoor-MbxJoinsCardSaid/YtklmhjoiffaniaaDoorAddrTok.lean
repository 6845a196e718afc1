/-
  Walks: special, slices.Index, slices.Contains, joined, texts.
-/
import Derived.Test.YtklmhjoiffaniaaDoorAddrBuild
namespace Go.Proofs.YtklmhjoiffaniaaDoor.Addr
open Go Go.RowKit
open Go.Proofs.YtklmhjoiffaniaaDoor.Lex
open Go.Proofs.YtklmhjoiffaniaaDoor.Glyph (fd foldL foldL_foldL fold_any)
open Go.Proofs.YtklmhjoiffaniaaDoor.Sha (Kept wp_region_kept wp_region_kept_tail quiet_load_row)

set_option maxRecDepth 100000 in
set_option maxHeartbeats 1000000 in
theorem special_any (s : ByteArray) (w : World) :
    Calls Tryd.prog 98 #[.string s] w fun e w' => e = .returned (tkV ⟨3, s⟩) ∧ Below w.heap.size w w' := by
  have hl : Lies (w.alloc (.cells #[.int .i64 3, .string s] tkT)) w.heap.size #[.int .i64 3, .string s] tkT := Lies.new w _ _
  go_enter Tryd.func98, Tryd.ntmps98
  go_wp2_with fail
  exact bodyPost_ret (v := tkV ⟨3, s⟩) (results_cell_row Tryd.results98 _ _ w.heap.size tkT _ (0, 0) _ rfl hl Tryd.underlying76 rfl sizeT) rfl ⟨rfl, (Below.refl _ _).alloc (Nat.le_refl _) _⟩
theorem beq_text (a b : ByteArray) : decide (a = b) = (bl b == bl a) := by
  rw [Bool.eq_iff_iff, decide_eq_true_eq, beq_iff_eq]
  constructor
  · rintro rfl; rfl
  · intro h
    have := congrArg ba h
    rw [ba_bl, ba_bl] at this
    exact this.symm
theorem at_eq (t : Tk) : (decide (((⟨3, atS⟩ : Tk)).kind = t.kind) && decide ((⟨3, atS⟩ : Tk).text = t.text)) = atB t := by
  unfold atB
  rw [beq_text]
  congr 1
  exact decide_eq_decide.2 ⟨fun h => h.symm, fun h => h.symm⟩
theorem dot_eq (t : Tk) : (decide (t.kind = ((⟨3, dotS⟩ : Tk)).kind) && decide (t.text = (⟨3, dotS⟩ : Tk).text)) = dotB t := by
  unfold dotB
  congr 1
  rw [Bool.eq_iff_iff, decide_eq_true_eq, beq_iff_eq]
  constructor
  · intro h; rw [h]
  · intro h
    have := congrArg ba h
    rw [ba_bl] at this
    exact this
def atI (T : List Tk) : Int := if atN T < T.length then (atN T : Int) else -1
theorem at_here {T : List Tk} {k : Nat} {t : Tk} (hk : T[k]? = some t) (hall : ∀ x ∈ T.take k, atB x = false) (h : atB t = true) : atN T = k ∧ k < T.length := by
  have hlt := (List.getElem?_eq_some_iff.1 hk).1
  have he := (List.getElem?_eq_some_iff.1 hk).2
  refine ⟨?_, hlt⟩
  have e : T = T.take k ++ t :: T.drop (k + 1) := by
    rw [← he]
    simp
  have := find_at (T.take k) (T.drop (k + 1)) t hall h
  rw [← e, List.length_take] at this
  omega
theorem at_none {T : List Tk} (h : ∀ x ∈ T, atB x = false) : atN T = T.length := List.findIdx_eq_length.2 h
theorem none_take {T : List Tk} {k : Nat} {t : Tk} (hk : T[k]? = some t) (hall : ∀ x ∈ T.take k, atB x = false) (h : atB t = false) : ∀ x ∈ T.take (k + 1), atB x = false := by
  intro x hx
  rw [List.take_add_one, hk] at hx
  rcases List.mem_append.1 hx with hx | hx
  · exact hall x hx
  · have : x = t := by simpa using hx
    rw [this]; exact h
set_option maxRecDepth 100000 in
set_option maxHeartbeats 2000000 in
theorem indexT_any (v : Value) (T : List Tk) (w : World) (hv : ReadsT w v T) (hl : T.length ≤ 100000) :
    Calls Tryd.prog 97 #[v, tkV ⟨3, atS⟩] w fun e w' => e = .returned (.int .i64 (atI T)) ∧ Below w.heap.size w w' := by
  obtain ⟨va, vc, rfl⟩ := hv.shape
  obtain ⟨n, hn⟩ : ∃ n, n = T.length := ⟨_, rfl⟩
  rw [← hn] at hv hl ⊢
  have HV := Lib.hid (fun k a ha => hv.at_ k a ha)
  have HNN := Lib.hid hn
  have HNB := Lib.hid (new_boxT w tkT ⟨3, atS⟩)
  have HA : Hid (Below w.heap.size w (w.alloc (boxT tkT ⟨3, atS⟩))) := Lib.hid ((Below.refl _ _).alloc (Nat.le_refl _) _)
  have hz : (w.alloc (boxT tkT ⟨3, atS⟩)).heap.size = w.heap.size + 1 := by simp
  have HZ := Lib.hid hz
  clear hv hn hz
  go_enter Tryd.func97, Tryd.ntmps97
  go_wp2_with fail
  go_loopw [8] (fun i wr => ∃ k : Nat, k ≤ n ∧ i = .int .i64 k ∧ Hid (∀ x ∈ T.take k, atB x = false) ∧ Hid (Below (w.alloc (boxT tkT ⟨3, atS⟩)).heap.size (w.alloc (boxT tkT ⟨3, atS⟩)) wr)) (fun i _ => n - (intOf i).toNat)
  case atStart => exact ⟨0, Nat.zero_le _, rfl, Lib.hid (by simp), Lib.hid (Below.refl _ _)⟩
  case round =>
    obtain ⟨k, hk, rfl, hall, hB⟩ := hrel
    have hB2 : Hid (Below w.heap.size w wr) := Lib.hid (HA.out.trans (hB.out.mono HA.out.size))
    by_cases hlt : k < n
    · obtain ⟨a, ha⟩ : ∃ a, T[k]? = some a := ⟨T[k]'(by have := HNN.out; omega), List.getElem?_eq_getElem _⟩
      obtain ⟨b1, o1, rfl, hb1, r1⟩ := HV.out k a ha
      obtain ⟨c0, c1⟩ := two (range_below r1 hb1 hB2.out)
      obtain ⟨d0, d1⟩ := two (range_below HNB.out (by simp) hB.out)
      have hq : ∀ W, (binOp .eql tkT (tkV ⟨3, atS⟩) (tkV a)).run Tryd.prog W = .ok (.bool (atB a)) W := fun W => by rw [eql_tok, at_eq]
      cases hb : atB a
      · rw [hb] at hq
        have HN := Lib.hid (none_take ha hall.out hb)
        clear ha r1 hb
        go_wp2_with fail
        go_region
        go_wp2_with fail
        go_roundw
        case rel => exact ⟨k + 1, by omega, by simp, HN, Lib.hid hB.out.drew⟩
        case measure => simp [intOf]; omega
      · rw [hb] at hq
        have HE := Lib.hid (at_here ha hall.out hb)
        clear ha r1 hb
        go_wp2_with fail
        go_region
        go_wp2_with fail
        go_ret
        refine ⟨?_, hB2.out.drew⟩
        have hi : atI T = k := by unfold atI; rw [HE.out.1, if_pos HE.out.2]
        rw [hi]
        rfl
    · have HE : Hid (atN T = T.length) := Lib.hid (at_none (by
        have h := hall.out
        rwa [List.take_of_length_le (by have := HNN.out; omega)] at h))
      go_wp2_with fail
      go_ret
      refine ⟨?_, hB2.out⟩
      have hi : atI T = -1 := by unfold atI; rw [HE.out, if_neg (Nat.lt_irrefl _)]
      rw [hi]
      rfl

/-! Kinds. -/
def KindsAt (w : World) (b : Nat) (ks : List Int) : Prop := b < w.heap.size ∧ ∀ i k, ks[i]? = some k → w.cell? ⟨b, i, none⟩ = some (.int .i64 k)
theorem KindsAt.below {w w' : World} {b : Nat} {ks : List Int} (h : KindsAt w b ks) (hb : Below w.heap.size w w') : KindsAt w' b ks :=
  ⟨by have := hb.size; have := h.1; omega, fun i k hi => by rw [hb.cell (p := ⟨b, i, none⟩) h.1]; exact h.2 i k hi⟩
def idxI (ks : List Int) (k : Int) : Int := if ks.contains k then (ks.findIdx (· == k) : Int) else -1
theorem idx_pos (ks : List Int) (k : Int) : decide (0 ≤ idxI ks k) = ks.contains k := by
  unfold idxI
  cases ks.contains k <;> simp
theorem contains_none {ks : List Int} {k : Int} (h : ∀ x ∈ ks, (k == x) = false) : ks.contains k = false := by
  rw [← Bool.not_eq_true, List.contains_iff_mem]
  intro hm
  have := h k hm
  simp at this
theorem find_here {ks : List Int} {i : Nat} {k x : Int} (hi : ks[i]? = some x) (hall : ∀ y ∈ ks.take i, (k == y) = false) (h : (k == x) = true) : idxI ks k = i := by
  have hlt := (List.getElem?_eq_some_iff.1 hi).1
  have hk : k = x := beq_iff_eq.1 h
  subst hk
  unfold idxI
  have hm : ks.contains k = true := by rw [List.contains_iff_mem]; exact List.mem_of_getElem? hi
  rw [hm, if_pos rfl]
  have e : ks = ks.take i ++ k :: ks.drop (i + 1) := by
    have he := (List.getElem?_eq_some_iff.1 hi).2
    conv => rhs; rw [← he]
    simp
  have h2 : (ks.take i).findIdx (· == k) = (ks.take i).length := List.findIdx_eq_length.2 (fun y hy => by
    have := hall y hy
    rw [beq_eq_false_iff_ne] at this ⊢
    exact fun h => this h.symm)
  rw [e, List.findIdx_append, h2, if_neg (by omega), List.findIdx_cons]
  simp
  omega
set_option maxRecDepth 100000 in
set_option maxHeartbeats 1000000 in
theorem indexK_any (b cap : Nat) (ks : List Int) (k : Int) (w : World) (h : KindsAt w b ks) (hl : ks.length ≤ 1000) :
    Calls Tryd.prog 103 #[.slice (some ⟨b, 0, none⟩) ks.length cap, .int .i64 k] w fun e w' => e = .returned (.int .i64 (idxI ks k)) ∧ w = w' := by
  obtain ⟨n, hn⟩ : ∃ n, n = ks.length := ⟨_, rfl⟩
  rw [← hn] at hl ⊢
  have HV := Lib.hid h.2
  have HNN := Lib.hid hn
  clear h hn
  go_enter Tryd.func103, Tryd.ntmps103
  go_wp2_with fail
  go_loopw [8] (fun i wr => ∃ j : Nat, j ≤ n ∧ i = .int .i64 j ∧ Hid (∀ x ∈ ks.take j, (k == x) = false) ∧ wr = w) (fun i _ => n - (intOf i).toNat)
  case atStart => exact ⟨0, Nat.zero_le _, rfl, Lib.hid (by simp), rfl⟩
  case round =>
    obtain ⟨j, hj, rfl, hall, rfl⟩ := hrel
    by_cases hlt : j < n
    · obtain ⟨x, hx⟩ : ∃ x, ks[j]? = some x := ⟨ks[j]'(by have := HNN.out; omega), List.getElem?_eq_getElem _⟩
      have hc := HV.out j x hx
      cases hb : (k == x)
      · have HN : Hid (∀ y ∈ ks.take (j + 1), (k == y) = false) := Lib.hid (by
          intro y hy
          rw [List.take_add_one, hx] at hy
          rcases List.mem_append.1 hy with hy | hy
          · exact hall.out y hy
          · have : y = x := by simpa using hy
            rw [this]; exact hb)
        clear hx
        go_wp2_with fail
        go_roundw
        case rel => exact ⟨j + 1, by omega, by simp, HN, trivial⟩
        case measure => simp [intOf]; omega
      · have HE := Lib.hid (find_here hx hall.out hb)
        clear hx
        go_wp2_with fail
        go_ret
        rw [HE.out]
        exact ⟨rfl, rfl⟩
    · have HE : Hid (idxI ks k = -1) := Lib.hid (by
        have h := hall.out
        rw [List.take_of_length_le (by have := HNN.out; omega)] at h
        unfold idxI
        rw [contains_none h]
        rfl)
      go_wp2_with fail
      go_ret
      rw [HE.out]
      exact ⟨rfl, rfl⟩
set_option maxRecDepth 100000 in
set_option maxHeartbeats 1000000 in
theorem contains_any (b cap : Nat) (ks : List Int) (k : Int) (w : World) (h : KindsAt w b ks) (hl : ks.length ≤ 1000) :
    Calls Tryd.prog 102 #[.slice (some ⟨b, 0, none⟩) ks.length cap, .int .i64 k] w fun e w' => e = .returned (.bool (ks.contains k)) ∧ w = w' := by
  have HI := Lib.hid (indexK_any b cap ks k w h hl)
  have HX := Lib.hid (idx_pos ks k)
  generalize idxI ks k = i at *
  generalize ks.contains k = c at *
  clear h
  go_enter Tryd.func102, Tryd.ntmps102
  go_wp2_with fail
  refine HI.out.mono ?_
  rintro e w1 ⟨rfl, rfl⟩
  go_wp2_with fail
  go_ret
  exact ⟨ret_bool HX.out, rfl⟩
end Go.Proofs.YtklmhjoiffaniaaDoor.Addr
