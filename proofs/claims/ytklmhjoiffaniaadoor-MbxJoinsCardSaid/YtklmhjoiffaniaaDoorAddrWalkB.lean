/-
  Walks: isLabelByte, isLabel, Domain, Dotted.
-/
import Derived.Test.YtklmhjoiffaniaaDoorAddrSplit
namespace Go.Proofs.YtklmhjoiffaniaaDoor.Addr
open Go Go.RowKit
open Go.Proofs.YtklmhjoiffaniaaDoor.Lex
open Go.Proofs.YtklmhjoiffaniaaDoor.Glyph (fd foldL foldL_foldL fold_any)

theorem lb_eq (c : Int) (h0 : 0 ≤ c) : lbN c.toNat = ((decide (97 ≤ c) && decide (c ≤ 122)) || ((decide (65 ≤ c) && decide (c ≤ 90)) || ((decide (48 ≤ c) && decide (c ≤ 57)) || (c == 45)))) := by
  unfold lbN
  rw [Bool.eq_iff_iff]
  simp only [Bool.or_eq_true, Bool.and_eq_true, decide_eq_true_eq, beq_iff_eq]
  omega
set_option maxRecDepth 100000 in
set_option maxHeartbeats 1000000 in
theorem labelByte_any (c : Int) (w : World) (h0 : 0 ≤ c) (_h1 : c < 256) :
    Calls Tryd.prog 88 #[.int .u8 c] w fun e w' => e = .returned (.bool (lbN c.toNat)) ∧ w = w' := by
  have ea := Lib.hid (lb_eq c h0)
  by_cases k0 : 97 ≤ c <;> by_cases k1 : c ≤ 122 <;> by_cases k2 : 65 ≤ c <;> by_cases k3 : c ≤ 90 <;> by_cases k4 : 48 ≤ c <;> by_cases k5 : c ≤ 57
  all_goals first | (exfalso; omega) | skip
  all_goals
    simp only [k0, k1, k2, k3, k4, k5, decide_true, decide_false, Bool.and_true, Bool.and_false, Bool.true_or, Bool.false_or] at ea
    go_enter Tryd.func88, Tryd.ntmps88
    go_wp2_with fail
    go_ret
    exact ⟨ret_bool ea.out.symm, rfl⟩
theorem label_empty {s : ByteArray} (h : s.size = 0) : labelB (bl s) = false := by
  have : bl s = [] := List.length_eq_zero_iff.1 (by rw [bl_len]; exact h)
  rw [this]; rfl
theorem label_head {s : ByteArray} (h : 0 < s.size) : (bl s).headD 0 = s[0] := by
  rw [show bl s = (bl s).drop 0 from rfl, drop_cons s 0 h]
  rfl
theorem label_last {s : ByteArray} (h : 0 < s.size) : (bl s).getLastD 0 = s[s.size - 1] := by
  rw [List.getLastD_eq_getLast?, List.getLast?_eq_getElem?, bl_len, List.getElem?_eq_getElem (by rw [bl_len]; omega)]
  rfl
theorem label_parts {s : ByteArray} (h : 0 < s.size) : labelB (bl s) = (!(s[0] == 45) && (!(s[s.size - 1] == 45) && (bl s).all lb)) := by
  unfold labelB
  rw [label_head h, label_last h]
  have : (bl s).isEmpty = false := by
    rw [List.isEmpty_eq_false_iff]
    intro e
    rw [← bl_len, show bl s = [] from e] at h
    cases h
  rw [this]
  rfl
theorem beq45 (c : UInt8) : (c == 45) = ((c.toNat : Int) == 45) := by
  rw [Bool.eq_iff_iff, beq_iff_eq, beq_iff_eq]
  constructor
  · intro h; rw [h]; rfl
  · intro h; exact UInt8.toNat.inj (by show c.toNat = 45; omega)
set_option maxRecDepth 100000 in
set_option maxHeartbeats 1000000 in
theorem isLabel_any (s : ByteArray) (w : World) (hs : s.size ≤ 1000000) :
    Calls Tryd.prog 74 #[.string s] w fun e w' => e = .returned (.bool (labelB (bl s))) ∧ w = w' := by
  by_cases h0 : s.size = 0
  · have hq : s.toList.isEmpty = true := by
      rw [Lib.toList_data, List.isEmpty_iff]
      exact List.length_eq_zero_iff.1 (by rw [bl_len]; exact h0)
    have HE := Lib.hid (label_empty h0)
    go_enter Tryd.func74, Tryd.ntmps74
    go_wp2_with fail
    go_ret
    rw [HE.out]
    exact ⟨rfl, rfl⟩
  · have hp : 0 < s.size := by omega
    have hq : s.toList.isEmpty = false := by
      rw [Lib.toList_data, List.isEmpty_eq_false_iff]
      intro e
      exact h0 (by rw [← bl_len, show bl s = [] from e]; rfl)
    have hl := label_parts hp
    rw [beq45, beq45] at hl
    have HL := Lib.hid hl
    clear hl h0
    cases t0 : ((s[0].toNat : Int) == 45)
    · cases t1 : ((s[s.size - 1].toNat : Int) == 45)
      · rw [t0, t1] at HL
        go_enter Tryd.func74, Tryd.ntmps74
        go_wp2_with fail
        go_loopw [21] (fun i wr => ∃ k : Nat, k ≤ s.size ∧ i = .int .i64 k ∧ Hid (∀ d ∈ (bl s).take k, lb d = true) ∧ wr = w) (fun i _ => s.size - (intOf i).toNat)
        case atStart => exact ⟨0, Nat.zero_le _, rfl, Lib.hid (by simp), rfl⟩
        case round =>
          obtain ⟨k, hk, rfl, hall, rfl⟩ := hrel
          by_cases hlt : k < s.size
          · have h8 : s[k].toNat < 256 := s[k].toNat_lt
            have HA := Lib.hid (fun W => labelByte_any (s[k].toNat : Int) W (by omega) (by omega))
            have hd := drop_cons s k hlt
            cases ha : lb s[k]
            · rw [show lbN (s[k].toNat : Int).toNat = false from ha] at HA
              have HE : Hid (labelB (bl s) = false) := Lib.hid (by
                rw [HL.out]
                have : (bl s).all lb = false := by
                  rw [← Bool.not_eq_true, List.all_eq_true]
                  intro h
                  have := h s[k] (by
                    have : s[k] ∈ (bl s).drop k := by rw [hd]; simp
                    exact List.mem_of_mem_drop this)
                  rw [ha] at this
                  cases this
                rw [this]
                rfl)
              clear ha hd
              go_wp2_with fail
              refine (HA.out _).mono ?_
              rintro e' w1 ⟨rfl, rfl⟩
              go_wp2_with fail
              go_ret
              rw [HE.out]
              exact ⟨rfl, rfl⟩
            · rw [show lbN (s[k].toNat : Int).toNat = true from ha] at HA
              have HN := Lib.hid (take_all hall.out hd ha)
              clear ha hd
              go_wp2_with fail
              refine (HA.out _).mono ?_
              rintro e' w1 ⟨rfl, rfl⟩
              go_wp2_with fail
              go_roundw
              case rel => exact ⟨k + 1, by omega, by simp, HN, trivial⟩
              case measure => simp [intOf]; omega
          · have HE : Hid (labelB (bl s) = true) := Lib.hid (by
              have h := hall.out
              rw [List.take_of_length_le (by rw [bl_len]; omega)] at h
              rw [HL.out, List.all_eq_true.2 h]
              rfl)
            go_wp2_with fail
            go_ret
            rw [HE.out]
            exact ⟨rfl, rfl⟩
      · rw [t0, t1] at HL
        go_enter Tryd.func74, Tryd.ntmps74
        go_wp2_with fail
        go_ret
        rw [HL.out]
        exact ⟨rfl, rfl⟩
    · rw [t0] at HL
      go_enter Tryd.func74, Tryd.ntmps74
      go_wp2_with fail
      go_ret
      rw [HL.out]
      exact ⟨rfl, rfl⟩

/-! Domain and Dotted: piece by piece. -/
theorem mem_get {ps : List (List UInt8)} {k : Nat} {p : List UInt8} (h : ps[k]? = some p) : p ∈ ps := List.mem_of_getElem? h
theorem take_next {ps : List (List UInt8)} {k : Nat} {p : List UInt8} (h : ps[k]? = some p) : ps.take (k + 1) = ps.take k ++ [p] := by
  rw [List.take_add_one, h]
  rfl
theorem all_take {ps : List (List UInt8)} {k : Nat} {p : List UInt8} {f : List UInt8 → Bool} (h : ps[k]? = some p) (ha : (ps.take k).all f = true) (hp : f p = true) : (ps.take (k + 1)).all f = true := by
  rw [take_next h, List.all_append, ha]
  simp [hp]
theorem all_not {ps : List (List UInt8)} {k : Nat} {p : List UInt8} {f : List UInt8 → Bool} (h : ps[k]? = some p) (hp : f p = false) : ps.all f = false := by
  rw [← Bool.not_eq_true, List.all_eq_true]
  intro ha
  rw [ha p (mem_get h)] at hp
  cases hp
def longK (l : List UInt8) (k : Nat) : Bool := decide (253 < l.length) || ((pieces l).take k).any fun p => decide (63 < p.length)
theorem longK_zero (l : List UInt8) : longK l 0 = decide (253 < l.length) := by simp [longK]
theorem longK_next {l : List UInt8} {k : Nat} {p : List UInt8} (h : (pieces l)[k]? = some p) : longK l (k + 1) = (longK l k || decide (63 < p.length)) := by
  unfold longK
  rw [take_next h, List.any_append]
  simp [Bool.or_assoc]
theorem longK_end (l : List UInt8) : longK l (pieces l).length = longB l := by
  unfold longK longB
  rw [List.take_length]
theorem domC_bad {l : List UInt8} (h : (pieces l).all labelB = false) : domC l = 130 := by unfold domC; rw [if_pos h]
theorem domC_good {l : List UInt8} (h : (pieces l).all labelB = true) : domC l = if longB l = true then 2 else 0 := by unfold domC; rw [h, if_neg (by decide)]
def DomPost (l : List UInt8) (w : World) (e : Ending) (w' : World) : Prop := e = .returned (.tuple #[.string (ba (domL l)), .int .i64 (domC l)]) ∧ Below w.heap.size w w'
theorem DomPost.bad {l : List UInt8} {w w' : World} (h : (pieces l).all labelB = false) (hb : Below w.heap.size w w') : DomPost l w (.returned (.tuple #[.string ⟨#[]⟩, .int .i64 130])) w' := by
  refine ⟨?_, hb⟩
  unfold domL
  rw [domC_bad h]
  rfl
theorem DomPost.long {l : List UInt8} {w w' : World} (h : (pieces l).all labelB = true) (hl : longB l = true) (hb : Below w.heap.size w w') : DomPost l w (.returned (.tuple #[.string ⟨#[]⟩, .int .i64 2])) w' := by
  refine ⟨?_, hb⟩
  unfold domL
  rw [domC_good h, if_pos hl]
  rfl
theorem DomPost.good {l : List UInt8} {w w' : World} (h : (pieces l).all labelB = true) (hl : longB l = false) (hb : Below w.heap.size w w') : DomPost l w (.returned (.tuple #[.string (ba (foldL l)), .int .i64 0])) w' := by
  refine ⟨?_, hb⟩
  unfold domL
  rw [domC_good h, hl]
  rfl
theorem piece_size {s : ByteArray} {k : Nat} {p : List UInt8} (h : (pieces (bl s))[k]? = some p) : (ba p).size ≤ s.size := by
  rw [ba_size, ← bl_len]
  exact pieces_le (mem_get h)
set_option maxRecDepth 100000 in
set_option maxHeartbeats 2000000 in
theorem domain_any (s : ByteArray) (w : World) (hs : s.size ≤ 1000000) :
    Calls Tryd.prog 59 #[.string s] w (DomPost (bl s) w) := by
  have HS := Lib.hid (fun W => split_any s W hs)
  have HF := Lib.hid (fun W => fold_any s W hs)
  obtain ⟨n, hn⟩ : ∃ n, n = (pieces (bl s)).length := ⟨_, rfl⟩
  have hn1 : n ≤ 1000001 := by
    have := pcs_count (bl s) []
    rw [bl_len] at this
    rw [hn]
    exact Nat.le_trans this (by omega)
  obtain ⟨L0, hL0⟩ : ∃ b, decide ((253 : Int) < (s.size : Int)) = b := ⟨_, rfl⟩
  have HZ : Hid (longK (bl s) 0 = L0) := Lib.hid (by rw [longK_zero, bl_len, ← hL0]; exact decide_eq_decide.2 (by omega))
  go_enter Tryd.func59, Tryd.ntmps59
  go_wp2_with fail
  refine (HS.out _).mono ?_
  rintro e w1 ⟨v, rfl, ⟨b, cap, rfl, hc, hbl, hcell⟩, hb⟩
  rw [← hn] at hc ⊢
  have HB := Lib.hid hb
  have HC := Lib.hid hcell
  clear hb hcell
  go_wp2_with fail
  go_loopw [4, 13] (fun lo i wr => ∃ k : Nat, k ≤ n ∧ i = .int .i64 k ∧ lo = .bool (longK (bl s) k) ∧ Hid (((pieces (bl s)).take k).all labelB = true) ∧ wr = w1) (fun _ i _ => n - (intOf i).toNat)
  case atStart => exact ⟨0, Nat.zero_le _, rfl, by rw [HZ.out], Lib.hid (by simp), rfl⟩
  case round =>
    obtain ⟨k, hk, rfl, rfl, hall, rfl⟩ := hrel
    by_cases hlt : k < n
    · obtain ⟨p, hp⟩ : ∃ p, (pieces (bl s))[k]? = some p := ⟨(pieces (bl s))[k]'(by omega), List.getElem?_eq_getElem _⟩
      have hx := HC.out k p hp
      have hz := piece_size hp
      have HL := Lib.hid (fun W => isLabel_any (ba p) W (by omega))
      rw [bl_ba] at HL
      have hnx := longK_next hp
      obtain ⟨L1, hL1⟩ : ∃ b, decide ((63 : Int) < ((ba p).size : Int)) = b := ⟨_, rfl⟩
      have e1 : decide (63 < p.length) = L1 := by rw [← hL1, ba_size]; exact decide_eq_decide.2 (by omega)
      rw [e1] at hnx
      have HNX := Lib.hid hnx
      clear hnx e1
      generalize longK (bl s) k = L at *
      cases ha : labelB p
      · rw [ha] at HL
        have HE := Lib.hid (all_not hp ha)
        clear ha hp
        generalize ba p = x at *
        go_wp2_with fail
        refine (HL.out _).mono ?_
        rintro e' w2 ⟨rfl, rfl⟩
        go_wp2_with fail
        go_ret2
        exact DomPost.bad HE.out HB.out
      · rw [ha] at HL
        have HN := Lib.hid (all_take hp hall.out ha)
        clear ha hp
        generalize ba p = x at *
        cases L
        · go_wp2_with fail
          refine (HL.out _).mono ?_
          rintro e' w2 ⟨rfl, rfl⟩
          go_wp2_with fail
          go_roundw
          case rel => exact ⟨k + 1, by omega, by simp, by rw [HNX.out]; rfl, HN, trivial⟩
          case measure => simp [intOf]; omega
        · go_wp2_with fail
          refine (HL.out _).mono ?_
          rintro e' w2 ⟨rfl, rfl⟩
          go_wp2_with fail
          go_roundw
          case rel => exact ⟨k + 1, by omega, by simp, by rw [HNX.out]; rfl, HN, trivial⟩
          case measure => simp [intOf]; omega
    · obtain rfl : k = n := by omega
      have HE : Hid ((pieces (bl s)).all labelB = true) := Lib.hid (by
        have h := hall.out
        rwa [List.take_of_length_le (by omega)] at h)
      have HLL : Hid (longK (bl s) k = longB (bl s)) := Lib.hid (by rw [hn]; exact longK_end _)
      obtain ⟨L, hL⟩ : ∃ b, longB (bl s) = b := ⟨_, rfl⟩
      have HG := Lib.hid hL
      rw [HLL.out, HG.out]
      clear hL
      cases L
      · go_wp2_with fail
        refine (HF.out _).mono ?_
        rintro e' w2 ⟨rfl, hb⟩
        have HB2 := Lib.hid (HB.out.trans (hb.mono HB.out.size))
        clear hb
        go_wp2_with fail
        go_ret2
        exact DomPost.good HE.out HG.out HB2.out
      · go_wp2_with fail
        go_ret2
        exact DomPost.long HE.out HG.out HB.out
set_option maxRecDepth 100000 in
set_option maxHeartbeats 2000000 in
theorem dotted_any (s : ByteArray) (w : World) (hs : s.size ≤ 1000000) :
    Calls Tryd.prog 51 #[.string s] w fun e w' => e = .returned (.bool (dottedB (bl s))) ∧ Below w.heap.size w w' := by
  have HS := Lib.hid (fun W => split_any s W hs)
  obtain ⟨n, hn⟩ : ∃ n, n = (pieces (bl s)).length := ⟨_, rfl⟩
  have hn1 : n ≤ 1000001 := by
    have := pcs_count (bl s) []
    rw [bl_len] at this
    rw [hn]
    exact Nat.le_trans this (by omega)
  go_enter Tryd.func51, Tryd.ntmps51
  go_wp2_with fail
  refine (HS.out _).mono ?_
  rintro e w1 ⟨v, rfl, ⟨b, cap, rfl, hc, hbl, hcell⟩, hb⟩
  rw [← hn] at hc ⊢
  have HB := Lib.hid hb
  have HC := Lib.hid hcell
  clear hb hcell
  go_wp2_with fail
  go_loopw [8] (fun i wr => ∃ k : Nat, k ≤ n ∧ i = .int .i64 k ∧ Hid (((pieces (bl s)).take k).all atomB = true) ∧ wr = w1) (fun i _ => n - (intOf i).toNat)
  case atStart => exact ⟨0, Nat.zero_le _, rfl, Lib.hid (by simp), rfl⟩
  case round =>
    obtain ⟨k, hk, rfl, hall, rfl⟩ := hrel
    by_cases hlt : k < n
    · obtain ⟨p, hp⟩ : ∃ p, (pieces (bl s))[k]? = some p := ⟨(pieces (bl s))[k]'(by omega), List.getElem?_eq_getElem _⟩
      have hx := HC.out k p hp
      have hz := piece_size hp
      have HL := Lib.hid (fun W => isAtom_any (ba p) W (by omega))
      rw [bl_ba] at HL
      cases ha : atomB p
      · rw [ha] at HL
        have HE := Lib.hid (all_not hp ha)
        clear ha hp
        generalize ba p = x at *
        go_wp2_with fail
        refine (HL.out _).mono ?_
        rintro e' w2 ⟨rfl, rfl⟩
        go_wp2_with fail
        go_ret
        exact ⟨ret_bool HE.out.symm, HB.out⟩
      · rw [ha] at HL
        have HN := Lib.hid (all_take hp hall.out ha)
        clear ha hp
        generalize ba p = x at *
        go_wp2_with fail
        refine (HL.out _).mono ?_
        rintro e' w2 ⟨rfl, rfl⟩
        go_wp2_with fail
        go_roundw
        case rel => exact ⟨k + 1, by omega, by simp, HN, trivial⟩
        case measure => simp [intOf]; omega
    · obtain rfl : k = n := by omega
      have HE : Hid ((pieces (bl s)).all atomB = true) := Lib.hid (by
        have h := hall.out
        rwa [List.take_of_length_le (by omega)] at h)
      go_wp2_with fail
      go_ret
      exact ⟨ret_bool HE.out.symm, HB.out⟩
end Go.Proofs.YtklmhjoiffaniaaDoor.Addr
