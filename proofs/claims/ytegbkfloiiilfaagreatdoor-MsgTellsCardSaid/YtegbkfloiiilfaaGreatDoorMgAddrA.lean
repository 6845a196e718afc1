/-
  Walks of addr, the first part.
-/
import Derived.Test.YtegbkfloiiilfaaGreatDoorMgPlain
import Derived.Test.YtegbkfloiiilfaaGreatDoorMgLexB
import Derived.Test.YtegbkfloiiilfaaGreatDoorMgGlyph
import Derived.Lib.Split
import Derived.Deep.OwnRows
import Derived.Laws.StructEq
import Derived.Deep.CutRange
import Derived.Outline

/-
  Walks: strings.Split at a dot; a list of texts in memory.
-/
namespace Go.Proofs.YtegbkfloiiilfaaGreatDoor.Addr
open Go Go.RowKit
open Go.Proofs.YtegbkfloiiilfaaGreatDoor.Lex
open Go.Proofs.YtegbkfloiiilfaaGreatDoor.Glyph (fd foldL foldL_foldL)

abbrev dotS : ByteArray := ⟨#[46]⟩
abbrev atS : ByteArray := ⟨#[64]⟩
abbrev strT : TypeId := 9
theorem infoS : (Tryz.prog.info? strT).map (fun i => (i.zero, i.size, i.bytes)) = some (some (.string ByteArray.empty), 1, 16) := by kernel_rfl

/-- The value is a slice that reads as these texts. -/
def ReadsP (w : World) (v : Value) (ps : List (List UInt8)) : Prop :=
  ∃ b cap, v = .slice (some ⟨b, 0, none⟩) ps.length cap ∧ ps.length ≤ cap ∧ b < w.heap.size ∧ ∀ i p, ps[i]? = some p → w.cell? ⟨b, i, none⟩ = some (.string (ba p))
theorem ReadsP.below {w w' : World} {v : Value} {ps : List (List UInt8)} (h : ReadsP w v ps) (hb : Below w.heap.size w w') : ReadsP w' v ps := by
  obtain ⟨b, cap, rfl, h1, h2, h3⟩ := h
  exact ⟨b, cap, rfl, h1, by have := hb.size; omega, fun i p hi => by rw [hb.cell (p := ⟨b, i, none⟩) h2]; exact h3 i p hi⟩

/-! The first dot; how many there are. -/
theorem first_dot : ∀ l : List UInt8, (Lib.indexByte l 46 = -1 ∧ ∀ x ∈ l, x ≠ 46) ∨ ∃ a b, l = a ++ 46 :: b ∧ (∀ x ∈ a, x ≠ 46) ∧ Lib.indexByte l 46 = (a.length : Int)
  | [] => .inl ⟨rfl, by simp⟩
  | x :: t => by
    by_cases hx : x = 46
    · subst hx
      exact .inr ⟨[], t, rfl, by simp, by simp [Lib.indexByte]⟩
    · rcases first_dot t with ⟨h1, h2⟩ | ⟨a, b, h1, h2, h3⟩
      · refine .inl ⟨?_, ?_⟩
        · unfold Lib.indexByte
          simp [hx, h1]
        · intro y hy
          rcases List.mem_cons.1 hy with rfl | hy
          · exact hx
          · exact h2 y hy
      · refine .inr ⟨x :: a, b, by rw [h1]; rfl, ?_, ?_⟩
        · intro y hy
          rcases List.mem_cons.1 hy with rfl | hy
          · exact hx
          · exact h2 y hy
        · unfold Lib.indexByte
          simp [hx, h3]
theorem pieces_none {l : List UInt8} (h : ∀ x ∈ l, x ≠ 46) : pieces l = [l] := by
  have := pcs_run l [] [] h
  rw [List.append_nil] at this
  exact this
theorem pieces_some {a b : List UInt8} (h : ∀ x ∈ a, x ≠ 46) : pieces (a ++ 46 :: b) = a :: pieces b := by
  unfold pieces
  rw [pcs_run a [] _ h, pcs_hit]
  rfl
theorem count_none {l : List UInt8} (h : ∀ x ∈ l, x ≠ 46) : l.count 46 = 0 := List.count_eq_zero.2 fun hm => h 46 hm rfl
theorem count_some {a b : List UInt8} (h : ∀ x ∈ a, x ≠ 46) : (a ++ 46 :: b).count 46 = b.count 46 + 1 := by
  rw [List.count_append, count_none h]
  simp
theorem len_pieces : ∀ (n : Nat) (l : List UInt8), l.length ≤ n → (pieces l).length = l.count 46 + 1 := by
  intro n
  induction n with
  | zero =>
    intro l h
    obtain rfl := List.length_eq_zero_iff.1 (Nat.le_zero.1 h)
    rfl
  | succ n ih =>
    intro l h
    rcases first_dot l with ⟨_, h2⟩ | ⟨a, b, rfl, h2, _⟩
    · rw [pieces_none h2, count_none h2]
      rfl
    · rw [pieces_some h2, count_some h2, List.length_cons, ih b (by simp at h; omega)]

set_option maxRecDepth 100000 in
set_option maxHeartbeats 1000000 in
theorem countS_any (s : ByteArray) (w : World) :
    Calls Tryz.prog 112 #[.string s, .string dotS] w fun e w' => e = .returned (.int .i64 ((bl s).count 46)) ∧ w = w' := by
  go_enter Tryz.func112, Tryz.ntmps112
  go_wp2
  rw [run_callFunc_extern Tryz.func140 (by kernel_rfl) (by kernel_rfl) (by kernel_rfl) (e := Extern.BytealgCount.count) (by kernel_rfl), Lib.run_countString]
  simp only [Result.andThen]
  rw [Oper.upon_value]
  go_wp2
  go_ret
  exact ⟨rfl, rfl⟩
set_option maxRecDepth 100000 in
set_option maxHeartbeats 1000000 in
theorem indexLS_any (s : ByteArray) (w : World) :
    Calls Tryz.prog 123 #[.string s, .string dotS] w fun e w' => e = .returned (.int .i64 (Lib.indexByte (bl s) 46)) ∧ w = w' := by
  have HX := Lib.hid (fun W => indexL_any s 46 W)
  cases hq : ([46] == s.toList)
  · go_enter Tryz.func123, Tryz.ntmps123
    go_wp2_with fail
    refine (HX.out _).mono ?_
    rintro e w1 ⟨rfl, rfl⟩
    go_wp2_with fail
    go_ret
    exact ⟨rfl, rfl⟩
  · have HE : Hid (Lib.indexByte (bl s) 46 = 0) := Lib.hid (by
      have h := beq_iff_eq.1 hq
      rw [Lib.toList_data] at h
      show Lib.indexByte s.data.toList 46 = 0
      rw [← h]
      rfl)
    go_enter Tryz.func123, Tryz.ntmps123
    go_wp2_with fail
    go_ret
    rw [HE.out]
    exact ⟨rfl, rfl⟩
set_option maxRecDepth 100000 in
set_option maxHeartbeats 1000000 in
theorem indexS_any (s : ByteArray) (w : World) :
    Calls Tryz.prog 113 #[.string s, .string dotS] w fun e w' => e = .returned (.int .i64 (Lib.indexByte (bl s) 46)) ∧ w = w' := by
  have HX := Lib.hid (fun W => indexLS_any s W)
  go_enter Tryz.func113, Tryz.ntmps113
  go_wp2_with fail
  refine (HX.out _).mono ?_
  rintro e w1 ⟨rfl, rfl⟩
  go_wp2_with fail
  go_ret
  exact ⟨rfl, rfl⟩
/-- What has been cut off, and what is left. -/
structure Cut (l : List UInt8) (n : Nat) (done : List (List UInt8)) (rest : ByteArray) : Prop where
  eq : done ++ pieces (bl rest) = pieces l
  left : (bl rest).count 46 + done.length = n
  size : rest.size ≤ l.length
theorem Cut.start (s : ByteArray) : Cut (bl s) ((bl s).count 46) [] s := ⟨rfl, rfl, by rw [bl_len]; exact Nat.le_refl _⟩
theorem map_len (done : List (List UInt8)) : (done.map ba).length = done.length := List.length_map _
theorem Cut.next {l : List UInt8} {n : Nat} {done : List (List UInt8)} {rest : ByteArray} (h : Cut l n done rest) (hlt : done.length < n) :
    ∃ i : Nat, Lib.indexByte (bl rest) 46 = i ∧ i + 1 ≤ rest.size ∧ Cut l n (done ++ [bl (rest.extract 0 i)]) (rest.extract (i + 1) rest.size) := by
  rcases first_dot (bl rest) with ⟨_, h2⟩ | ⟨a, b, h1, h2, h3⟩
  · have := h.left
    rw [count_none h2] at this
    omega
  · have hz : rest.size = a.length + 1 + b.length := by
      rw [← bl_len, h1]; simp; omega
    have e1 : bl (rest.extract 0 a.length) = a := by rw [bl_extract, h1]; simp
    have e2 : bl (rest.extract (a.length + 1) rest.size) = b := by
      rw [bl_from, h1, List.drop_append, List.drop_eq_nil_of_le (by omega)]
      simp
    refine ⟨a.length, h3, by omega, ?_, ?_, ?_⟩
    · rw [e1, e2, ← h.eq, h1, pieces_some h2]
      simp
    · rw [e2, List.length_append, ← h.left, h1, count_some h2]
      simp
      omega
    · have := h.size
      rw [ByteArray.size_extract]
      omega
theorem Cut.last {l : List UInt8} {n : Nat} {done : List (List UInt8)} {rest : ByteArray} (h : Cut l n done rest) (hlt : ¬ done.length < n) : done.length = n ∧ done ++ [bl rest] = pieces l := by
  rcases first_dot (bl rest) with ⟨_, h2⟩ | ⟨a, b, h1, h2, h3⟩
  · have h4 := h.left
    rw [count_none h2] at h4
    have h5 := h.eq
    rw [pieces_none h2] at h5
    exact ⟨by omega, h5⟩
  · have h4 := h.left
    rw [h1, count_some h2] at h4
    omega
theorem read_cells (w : World) (ps : List (List UInt8)) : ReadsP (w.alloc (.cells (Lib.cellsOf (ps.map ba) ps.length) strT)) (.slice (some ⟨w.heap.size, 0, none⟩) ps.length ps.length) ps := by
  refine ⟨w.heap.size, ps.length, rfl, Nat.le_refl _, by simp, fun i p hi => ?_⟩
  have hb := heap_alloc_new w (.cells (Lib.cellsOf (ps.map ba) ps.length) strT)
  have hi2 := (List.getElem?_eq_some_iff.1 hi).1
  simp only [World.cell?, hb]
  unfold Lib.cellsOf
  rw [List.getElem?_toArray, List.getElem?_append_left (by simpa using hi2)]
  simp [hi]
set_option maxRecDepth 100000 in
set_option maxHeartbeats 4000000 in
theorem genSplit_any (s : ByteArray) (w : World) (hs : s.size ≤ 1000000) :
    Calls Tryz.prog 89 #[.string s, .string dotS, .int .i64 0, .int .i64 (-1)] w fun e w' => ∃ v, e = .returned v ∧ ReadsP w' v (pieces (bl s)) ∧ Below w.heap.size w w' := by
  have HC := Lib.hid (fun W => countS_any s W)
  have HX := Lib.hid (fun (r : ByteArray) W => indexS_any r W)
  have HI := Lib.hid (Cut.start s)
  obtain ⟨n, hn⟩ : ∃ n, n = (bl s).count 46 := ⟨_, rfl⟩
  have hns : n ≤ s.size := by rw [hn, ← bl_len]; exact List.count_le_length
  rw [← hn] at HC HI
  clear hn
  have hmin : min ((n : Int) + 1) ((s.size : Int) + 1) = ((n + 1 : Nat) : Int) := by omega
  have hmk : ∀ W : World, (Instr.makeSlice 57 (.int .i64 ((n : Int) + 1)) (.int .i64 ((n : Int) + 1))).run Tryz.prog W = .ok (.slice (some ⟨W.heap.size, 0, none⟩) (n + 1) (n + 1)) (W.alloc (.cells (madeCells #[.string ByteArray.empty] (n + 1)) strT)) :=
    run_make_row' (P := Tryz.prog) 57 strT (.string ByteArray.empty) 16 Tryz.underlying57 infoS rfl .i64 .i64 (n + 1) (by omega) (by omega)
  go_enter Tryz.func89, Tryz.ntmps89
  go_wp2_with fail
  refine (HC.out _).mono ?_
  rintro e w1 ⟨rfl, rfl⟩
  go_wp2_with fail
  clear hmk hmin
  go_loopw [0, 10] (fun s0 s10 wr => ∃ (done : List (List UInt8)) (rest : ByteArray), s0 = .string rest ∧ s10 = .int .i64 done.length ∧ done.length ≤ n ∧ Hid (Cut (bl s) n done rest) ∧ wr = w.alloc (.cells (Lib.cellsOf (done.map ba) (n + 1)) strT)) (fun _ i _ => n - (intOf i).toNat)
  case atStart => exact ⟨[], s, rfl, rfl, Nat.zero_le _, HI, by rw [List.map_nil, Lib.cellsOf_nil]⟩
  case round =>
    clear HI
    obtain ⟨done, rest, rfl, rfl, hd, hC, rfl⟩ := hrel
    have hrs : rest.size ≤ 1000000 := by have := hC.out.size; rw [bl_len] at this; omega
    have hnext : (Lib.cellsOf (done.map ba) (n + 1))[done.length]? = some (.string ByteArray.empty) := by
      have := Lib.cellsOf_next (done := done.map ba) (N := n + 1) (by rw [map_len]; omega)
      rwa [map_len] at this
    have hset := fun x : ByteArray => Lib.cellsOf_set (done := done.map ba) (N := n + 1) (by rw [map_len]; omega) x
    rw [map_len] at hset
    by_cases hlt : done.length < n
    · obtain ⟨i, hix, hi, hN⟩ := hC.out.next hlt
      have HXI := Lib.hid (fun W => HX.out rest W)
      rw [hix] at HXI
      have HN := Lib.hid hN
      have HS := Lib.hid hset
      have c1 : decide ((i : Int) < 0) = false := decide_eq_false (by omega)
      clear hix hN hset
      go_wp2_with fail
      refine (HXI.out _).mono ?_
      rintro e w1 ⟨rfl, rfl⟩
      go_wp2_with fail
      go_roundw
      case rel =>
        refine ⟨_, _, rfl, by simp, by simp; omega, HN, ?_⟩
        rw [List.map_append]
        have := HS.out (rest.extract 0 i)
        rw [List.map_cons, List.map_nil, ba_bl]
        rw [← this]
      case measure => simp [intOf]; omega
    · obtain ⟨h1, h2⟩ := hC.out.last hlt
      have HE := Lib.hid (And.intro h1 h2)
      have HS := Lib.hid hset
      clear h1 h2 hset
      go_wp2_with fail
      go_ret
      have hl : done.length = n := HE.out.1
      have hp : (pieces (bl s)).length = n + 1 := by rw [← HE.out.2, List.length_append, hl]; rfl
      have hm : (pieces (bl s)).map ba = done.map ba ++ [rest] := by rw [← HE.out.2, List.map_append, List.map_cons, List.map_nil, ba_bl]
      have hS := HS.out rest
      rw [← hm] at hS
      have hr := read_cells w (pieces (bl s))
      rw [hp, ← hS] at hr
      refine ⟨_, rfl, ?_, ?_⟩
      · simpa [hl] using hr
      · exact (Below.refl _ _).alloc (Nat.le_refl _) _
set_option maxRecDepth 100000 in
set_option maxHeartbeats 1000000 in
theorem split_any (s : ByteArray) (w : World) (hs : s.size ≤ 1000000) :
    Calls Tryz.prog 57 #[.string s, .string dotS] w fun e w' => ∃ v, e = .returned v ∧ ReadsP w' v (pieces (bl s)) ∧ Below w.heap.size w w' := by
  have HG := Lib.hid (genSplit_any s w hs)
  go_enter Tryz.func57, Tryz.ntmps57
  go_wp2_with fail
  refine HG.out.mono ?_
  rintro e w1 ⟨v, rfl, hr, hb⟩
  have HR := Lib.hid (And.intro hr hb)
  clear hr hb
  go_wp2_with fail
  go_ret
  exact ⟨v, rfl, HR.out⟩
end Go.Proofs.YtegbkfloiiilfaaGreatDoor.Addr

/-
  Walks: isLabelByte, isLabel, Domain, Dotted.
-/
namespace Go.Proofs.YtegbkfloiiilfaaGreatDoor.Addr
open Go Go.RowKit
open Go.Proofs.YtegbkfloiiilfaaGreatDoor.Lex
open Go.Proofs.YtegbkfloiiilfaaGreatDoor.Glyph (fd foldL foldL_foldL fold_any)

theorem lb_eq (c : Int) (h0 : 0 ≤ c) : lbN c.toNat = ((decide (97 ≤ c) && decide (c ≤ 122)) || ((decide (65 ≤ c) && decide (c ≤ 90)) || ((decide (48 ≤ c) && decide (c ≤ 57)) || (c == 45)))) := by
  unfold lbN
  rw [Bool.eq_iff_iff]
  simp only [Bool.or_eq_true, Bool.and_eq_true, decide_eq_true_eq, beq_iff_eq]
  omega
set_option maxRecDepth 100000 in
set_option maxHeartbeats 1000000 in
theorem labelByte_any (c : Int) (w : World) (h0 : 0 ≤ c) (_h1 : c < 256) :
    Calls Tryz.prog 182 #[.int .u8 c] w fun e w' => e = .returned (.bool (lbN c.toNat)) ∧ w = w' := by
  have ea := Lib.hid (lb_eq c h0)
  by_cases k0 : 97 ≤ c <;> by_cases k1 : c ≤ 122 <;> by_cases k2 : 65 ≤ c <;> by_cases k3 : c ≤ 90 <;> by_cases k4 : 48 ≤ c <;> by_cases k5 : c ≤ 57
  all_goals first | (exfalso; omega) | skip
  all_goals
    simp only [k0, k1, k2, k3, k4, k5, decide_true, decide_false, Bool.and_true, Bool.and_false, Bool.true_or, Bool.false_or] at ea
    go_enter Tryz.func182, Tryz.ntmps182
    go_wp2_with fail
    go_ret
    exact ⟨ret_bool ea.out.symm, rfl⟩
theorem label_empty {s : ByteArray} (h : s.size = 0) : labelB (bl s) = false := by
  have : bl s = [] := List.length_eq_zero_iff.1 (by rw [bl_len]; exact h)
  rw [this]; rfl
theorem label_head {s : ByteArray} (h : 0 < s.size) : (bl s).headD 0 = s[0] := by
  rw [show bl s = (bl s).drop 0 from rfl, drop_cons s 0 h]
  rfl
theorem label_last {s : ByteArray} (h : 0 < s.size) : (bl s).getLastD 0 = s[s.size - 1] := by
  rw [List.getLastD_eq_getLast?, List.getLast?_eq_getElem?, bl_len, List.getElem?_eq_getElem (by rw [bl_len]; omega)]
  rfl
theorem label_parts {s : ByteArray} (h : 0 < s.size) : labelB (bl s) = (!(s[0] == 45) && (!(s[s.size - 1] == 45) && (bl s).all lb)) := by
  unfold labelB
  rw [label_head h, label_last h]
  have : (bl s).isEmpty = false := by
    rw [List.isEmpty_eq_false_iff]
    intro e
    rw [← bl_len, show bl s = [] from e] at h
    cases h
  rw [this]
  rfl
theorem beq45 (c : UInt8) : (c == 45) = ((c.toNat : Int) == 45) := by
  rw [Bool.eq_iff_iff, beq_iff_eq, beq_iff_eq]
  constructor
  · intro h; rw [h]; rfl
  · intro h; exact UInt8.toNat.inj (by show c.toNat = 45; omega)
set_option maxRecDepth 100000 in
set_option maxHeartbeats 1000000 in
theorem isLabel_any (s : ByteArray) (w : World) (hs : s.size ≤ 1000000) :
    Calls Tryz.prog 178 #[.string s] w fun e w' => e = .returned (.bool (labelB (bl s))) ∧ w = w' := by
  by_cases h0 : s.size = 0
  · have hq : s.toList.isEmpty = true := by
      rw [Lib.toList_data, List.isEmpty_iff]
      exact List.length_eq_zero_iff.1 (by rw [bl_len]; exact h0)
    have HE := Lib.hid (label_empty h0)
    go_enter Tryz.func178, Tryz.ntmps178
    go_wp2_with fail
    go_ret
    rw [HE.out]
    exact ⟨rfl, rfl⟩
  · have hp : 0 < s.size := by omega
    have hq : s.toList.isEmpty = false := by
      rw [Lib.toList_data, List.isEmpty_eq_false_iff]
      intro e
      exact h0 (by rw [← bl_len, show bl s = [] from e]; rfl)
    have hl := label_parts hp
    rw [beq45, beq45] at hl
    have HL := Lib.hid hl
    clear hl h0
    cases t0 : ((s[0].toNat : Int) == 45)
    · cases t1 : ((s[s.size - 1].toNat : Int) == 45)
      · rw [t0, t1] at HL
        go_enter Tryz.func178, Tryz.ntmps178
        go_wp2_with fail
        go_loopw [21] (fun i wr => ∃ k : Nat, k ≤ s.size ∧ i = .int .i64 k ∧ Hid (∀ d ∈ (bl s).take k, lb d = true) ∧ wr = w) (fun i _ => s.size - (intOf i).toNat)
        case atStart => exact ⟨0, Nat.zero_le _, rfl, Lib.hid (by simp), rfl⟩
        case round =>
          obtain ⟨k, hk, rfl, hall, rfl⟩ := hrel
          by_cases hlt : k < s.size
          · have h8 : s[k].toNat < 256 := s[k].toNat_lt
            have HA := Lib.hid (fun W => labelByte_any (s[k].toNat : Int) W (by omega) (by omega))
            have hd := drop_cons s k hlt
            cases ha : lb s[k]
            · rw [show lbN (s[k].toNat : Int).toNat = false from ha] at HA
              have HE : Hid (labelB (bl s) = false) := Lib.hid (by
                rw [HL.out]
                have : (bl s).all lb = false := by
                  rw [← Bool.not_eq_true, List.all_eq_true]
                  intro h
                  have := h s[k] (by
                    have : s[k] ∈ (bl s).drop k := by rw [hd]; simp
                    exact List.mem_of_mem_drop this)
                  rw [ha] at this
                  cases this
                rw [this]
                rfl)
              clear ha hd
              go_wp2_with fail
              refine (HA.out _).mono ?_
              rintro e' w1 ⟨rfl, rfl⟩
              go_wp2_with fail
              go_ret
              rw [HE.out]
              exact ⟨rfl, rfl⟩
            · rw [show lbN (s[k].toNat : Int).toNat = true from ha] at HA
              have HN := Lib.hid (take_all hall.out hd ha)
              clear ha hd
              go_wp2_with fail
              refine (HA.out _).mono ?_
              rintro e' w1 ⟨rfl, rfl⟩
              go_wp2_with fail
              go_roundw
              case rel => exact ⟨k + 1, by omega, by simp, HN, trivial⟩
              case measure => simp [intOf]; omega
          · have HE : Hid (labelB (bl s) = true) := Lib.hid (by
              have h := hall.out
              rw [List.take_of_length_le (by rw [bl_len]; omega)] at h
              rw [HL.out, List.all_eq_true.2 h]
              rfl)
            go_wp2_with fail
            go_ret
            rw [HE.out]
            exact ⟨rfl, rfl⟩
      · rw [t0, t1] at HL
        go_enter Tryz.func178, Tryz.ntmps178
        go_wp2_with fail
        go_ret
        rw [HL.out]
        exact ⟨rfl, rfl⟩
    · rw [t0] at HL
      go_enter Tryz.func178, Tryz.ntmps178
      go_wp2_with fail
      go_ret
      rw [HL.out]
      exact ⟨rfl, rfl⟩

/-! Domain and Dotted: piece by piece. -/
theorem mem_get {ps : List (List UInt8)} {k : Nat} {p : List UInt8} (h : ps[k]? = some p) : p ∈ ps := List.mem_of_getElem? h
theorem take_next {ps : List (List UInt8)} {k : Nat} {p : List UInt8} (h : ps[k]? = some p) : ps.take (k + 1) = ps.take k ++ [p] := by
  rw [List.take_add_one, h]
  rfl
theorem all_take {ps : List (List UInt8)} {k : Nat} {p : List UInt8} {f : List UInt8 → Bool} (h : ps[k]? = some p) (ha : (ps.take k).all f = true) (hp : f p = true) : (ps.take (k + 1)).all f = true := by
  rw [take_next h, List.all_append, ha]
  simp [hp]
theorem all_not {ps : List (List UInt8)} {k : Nat} {p : List UInt8} {f : List UInt8 → Bool} (h : ps[k]? = some p) (hp : f p = false) : ps.all f = false := by
  rw [← Bool.not_eq_true, List.all_eq_true]
  intro ha
  rw [ha p (mem_get h)] at hp
  cases hp
def longK (l : List UInt8) (k : Nat) : Bool := decide (253 < l.length) || ((pieces l).take k).any fun p => decide (63 < p.length)
theorem longK_zero (l : List UInt8) : longK l 0 = decide (253 < l.length) := by simp [longK]
theorem longK_next {l : List UInt8} {k : Nat} {p : List UInt8} (h : (pieces l)[k]? = some p) : longK l (k + 1) = (longK l k || decide (63 < p.length)) := by
  unfold longK
  rw [take_next h, List.any_append]
  simp [Bool.or_assoc]
theorem longK_end (l : List UInt8) : longK l (pieces l).length = longB l := by
  unfold longK longB
  rw [List.take_length]
theorem domC_bad {l : List UInt8} (h : (pieces l).all labelB = false) : domC l = 130 := by unfold domC; rw [if_pos h]
theorem domC_good {l : List UInt8} (h : (pieces l).all labelB = true) : domC l = if longB l = true then 2 else 0 := by unfold domC; rw [h, if_neg (by decide)]
def DomPost (l : List UInt8) (w : World) (e : Ending) (w' : World) : Prop := e = .returned (.tuple #[.string (ba (domL l)), .int .i64 (domC l)]) ∧ Below w.heap.size w w'
theorem DomPost.bad {l : List UInt8} {w w' : World} (h : (pieces l).all labelB = false) (hb : Below w.heap.size w w') : DomPost l w (.returned (.tuple #[.string ⟨#[]⟩, .int .i64 130])) w' := by
  refine ⟨?_, hb⟩
  unfold domL
  rw [domC_bad h]
  rfl
theorem DomPost.long {l : List UInt8} {w w' : World} (h : (pieces l).all labelB = true) (hl : longB l = true) (hb : Below w.heap.size w w') : DomPost l w (.returned (.tuple #[.string ⟨#[]⟩, .int .i64 2])) w' := by
  refine ⟨?_, hb⟩
  unfold domL
  rw [domC_good h, if_pos hl]
  rfl
theorem DomPost.good {l : List UInt8} {w w' : World} (h : (pieces l).all labelB = true) (hl : longB l = false) (hb : Below w.heap.size w w') : DomPost l w (.returned (.tuple #[.string (ba (foldL l)), .int .i64 0])) w' := by
  refine ⟨?_, hb⟩
  unfold domL
  rw [domC_good h, hl]
  rfl
theorem piece_size {s : ByteArray} {k : Nat} {p : List UInt8} (h : (pieces (bl s))[k]? = some p) : (ba p).size ≤ s.size := by
  rw [ba_size, ← bl_len]
  exact pieces_le (mem_get h)
set_option maxRecDepth 100000 in
set_option maxHeartbeats 2000000 in
theorem domain_any (s : ByteArray) (w : World) (hs : s.size ≤ 1000000) :
    Calls Tryz.prog 174 #[.string s] w (DomPost (bl s) w) := by
  have HS := Lib.hid (fun W => split_any s W hs)
  have HF := Lib.hid (fun W => fold_any s W hs)
  obtain ⟨n, hn⟩ : ∃ n, n = (pieces (bl s)).length := ⟨_, rfl⟩
  have hn1 : n ≤ 1000001 := by
    have := pcs_count (bl s) []
    rw [bl_len] at this
    rw [hn]
    exact Nat.le_trans this (by omega)
  obtain ⟨L0, hL0⟩ : ∃ b, decide ((253 : Int) < (s.size : Int)) = b := ⟨_, rfl⟩
  have HZ : Hid (longK (bl s) 0 = L0) := Lib.hid (by rw [longK_zero, bl_len, ← hL0]; exact decide_eq_decide.2 (by omega))
  go_enter Tryz.func174, Tryz.ntmps174
  go_wp2_with fail
  refine (HS.out _).mono ?_
  rintro e w1 ⟨v, rfl, ⟨b, cap, rfl, hc, hbl, hcell⟩, hb⟩
  rw [← hn] at hc ⊢
  have HB := Lib.hid hb
  have HC := Lib.hid hcell
  clear hb hcell
  go_wp2_with fail
  go_loopw [4, 13] (fun lo i wr => ∃ k : Nat, k ≤ n ∧ i = .int .i64 k ∧ lo = .bool (longK (bl s) k) ∧ Hid (((pieces (bl s)).take k).all labelB = true) ∧ wr = w1) (fun _ i _ => n - (intOf i).toNat)
  case atStart => exact ⟨0, Nat.zero_le _, rfl, by rw [HZ.out], Lib.hid (by simp), rfl⟩
  case round =>
    obtain ⟨k, hk, rfl, rfl, hall, rfl⟩ := hrel
    by_cases hlt : k < n
    · obtain ⟨p, hp⟩ : ∃ p, (pieces (bl s))[k]? = some p := ⟨(pieces (bl s))[k]'(by omega), List.getElem?_eq_getElem _⟩
      have hx := HC.out k p hp
      have hz := piece_size hp
      have HL := Lib.hid (fun W => isLabel_any (ba p) W (by omega))
      rw [bl_ba] at HL
      have hnx := longK_next hp
      obtain ⟨L1, hL1⟩ : ∃ b, decide ((63 : Int) < ((ba p).size : Int)) = b := ⟨_, rfl⟩
      have e1 : decide (63 < p.length) = L1 := by rw [← hL1, ba_size]; exact decide_eq_decide.2 (by omega)
      rw [e1] at hnx
      have HNX := Lib.hid hnx
      clear hnx e1
      generalize longK (bl s) k = L at *
      cases ha : labelB p
      · rw [ha] at HL
        have HE := Lib.hid (all_not hp ha)
        clear ha hp
        generalize ba p = x at *
        go_wp2_with fail
        refine (HL.out _).mono ?_
        rintro e' w2 ⟨rfl, rfl⟩
        go_wp2_with fail
        go_ret2
        exact DomPost.bad HE.out HB.out
      · rw [ha] at HL
        have HN := Lib.hid (all_take hp hall.out ha)
        clear ha hp
        generalize ba p = x at *
        cases L
        · go_wp2_with fail
          refine (HL.out _).mono ?_
          rintro e' w2 ⟨rfl, rfl⟩
          go_wp2_with fail
          go_roundw
          case rel => exact ⟨k + 1, by omega, by simp, by rw [HNX.out]; rfl, HN, trivial⟩
          case measure => simp [intOf]; omega
        · go_wp2_with fail
          refine (HL.out _).mono ?_
          rintro e' w2 ⟨rfl, rfl⟩
          go_wp2_with fail
          go_roundw
          case rel => exact ⟨k + 1, by omega, by simp, by rw [HNX.out]; rfl, HN, trivial⟩
          case measure => simp [intOf]; omega
    · obtain rfl : k = n := by omega
      have HE : Hid ((pieces (bl s)).all labelB = true) := Lib.hid (by
        have h := hall.out
        rwa [List.take_of_length_le (by omega)] at h)
      have HLL : Hid (longK (bl s) k = longB (bl s)) := Lib.hid (by rw [hn]; exact longK_end _)
      obtain ⟨L, hL⟩ : ∃ b, longB (bl s) = b := ⟨_, rfl⟩
      have HG := Lib.hid hL
      rw [HLL.out, HG.out]
      clear hL
      cases L
      · go_wp2_with fail
        refine (HF.out _).mono ?_
        rintro e' w2 ⟨rfl, hb⟩
        have HB2 := Lib.hid (HB.out.trans (hb.mono HB.out.size))
        clear hb
        go_wp2_with fail
        go_ret2
        exact DomPost.good HE.out HG.out HB2.out
      · go_wp2_with fail
        go_ret2
        exact DomPost.long HE.out HG.out HB.out
set_option maxRecDepth 100000 in
set_option maxHeartbeats 2000000 in
theorem dotted_any (s : ByteArray) (w : World) (hs : s.size ≤ 1000000) :
    Calls Tryz.prog 180 #[.string s] w fun e w' => e = .returned (.bool (dottedB (bl s))) ∧ Below w.heap.size w w' := by
  have HS := Lib.hid (fun W => split_any s W hs)
  obtain ⟨n, hn⟩ : ∃ n, n = (pieces (bl s)).length := ⟨_, rfl⟩
  have hn1 : n ≤ 1000001 := by
    have := pcs_count (bl s) []
    rw [bl_len] at this
    rw [hn]
    exact Nat.le_trans this (by omega)
  go_enter Tryz.func180, Tryz.ntmps180
  go_wp2_with fail
  refine (HS.out _).mono ?_
  rintro e w1 ⟨v, rfl, ⟨b, cap, rfl, hc, hbl, hcell⟩, hb⟩
  rw [← hn] at hc ⊢
  have HB := Lib.hid hb
  have HC := Lib.hid hcell
  clear hb hcell
  go_wp2_with fail
  go_loopw [8] (fun i wr => ∃ k : Nat, k ≤ n ∧ i = .int .i64 k ∧ Hid (((pieces (bl s)).take k).all atomB = true) ∧ wr = w1) (fun i _ => n - (intOf i).toNat)
  case atStart => exact ⟨0, Nat.zero_le _, rfl, Lib.hid (by simp), rfl⟩
  case round =>
    obtain ⟨k, hk, rfl, hall, rfl⟩ := hrel
    by_cases hlt : k < n
    · obtain ⟨p, hp⟩ : ∃ p, (pieces (bl s))[k]? = some p := ⟨(pieces (bl s))[k]'(by omega), List.getElem?_eq_getElem _⟩
      have hx := HC.out k p hp
      have hz := piece_size hp
      have HL := Lib.hid (fun W => isAtom_any (ba p) W (by omega))
      rw [bl_ba] at HL
      cases ha : atomB p
      · rw [ha] at HL
        have HE := Lib.hid (all_not hp ha)
        clear ha hp
        generalize ba p = x at *
        go_wp2_with fail
        refine (HL.out _).mono ?_
        rintro e' w2 ⟨rfl, rfl⟩
        go_wp2_with fail
        go_ret
        exact ⟨ret_bool HE.out.symm, HB.out⟩
      · rw [ha] at HL
        have HN := Lib.hid (all_take hp hall.out ha)
        clear ha hp
        generalize ba p = x at *
        go_wp2_with fail
        refine (HL.out _).mono ?_
        rintro e' w2 ⟨rfl, rfl⟩
        go_wp2_with fail
        go_roundw
        case rel => exact ⟨k + 1, by omega, by simp, HN, trivial⟩
        case measure => simp [intOf]; omega
    · obtain rfl : k = n := by omega
      have HE : Hid ((pieces (bl s)).all atomB = true) := Lib.hid (by
        have h := hall.out
        rwa [List.take_of_length_le (by omega)] at h)
      go_wp2_with fail
      go_ret
      exact ⟨ret_bool HE.out.symm, HB.out⟩
end Go.Proofs.YtegbkfloiiilfaaGreatDoor.Addr

/-
  Addresses in memory; walks: Text, Key.
-/
namespace Go.Proofs.YtegbkfloiiilfaaGreatDoor.Addr
open Go Go.RowKit
open Go.Proofs.YtegbkfloiiilfaaGreatDoor.Lex
open Go.Proofs.YtegbkfloiiilfaaGreatDoor.Glyph (fd foldL foldL_foldL fold_any)
open Go.Proofs.YtegbkfloiiilfaaGreatDoor.Sha (Kept wp_region_kept wp_region_kept_tail quiet_load_row)

abbrev adT : TypeId := 44
abbrev arT : TypeId := 49
abbrev adB (l d : ByteArray) : Value := .agg #[.string l, .string d]
abbrev boxA (t : TypeId) (l d : ByteArray) : Obj := .cells #[.string l, .string d] t
def cellsA (l d : ByteArray) : List Value := [.string l, .string d]
theorem sizeA : (Tryz.prog.info? adT).map (·.size) = some 2 := by kernel_rfl
theorem sizeAR : (Tryz.prog.info? arT).map (·.size) = some 2 := by kernel_rfl
theorem twoA {w : World} {b o : Nat} {l d : ByteArray} (h : w.rangeAt b o (cellsA l d)) : w.cell? ⟨b, o, none⟩ = some (.string l) ∧ w.cell? ⟨b, o + 1, none⟩ = some (.string d) := ⟨h 0 _ rfl, h 1 _ rfl⟩
theorem new_boxA (w : World) (t : TypeId) (l d : ByteArray) : (w.alloc (boxA t l d)).rangeAt w.heap.size 0 (cellsA l d) := by
  intro j u h
  have hb := heap_alloc_new w (boxA t l d)
  simp only [World.cell?, hb, Nat.zero_add]
  match j, h with
  | 0, h => exact h
  | 1, h => exact h
  | j + 2, h => simp [cellsA] at h
theorem quiet_load_str {P : Program} {C : World → Prop} {o : Oper} {a : Act} {K : Act → Prop} (ty : TypeId) (x : Operand) (ho : o.op = .load ty x) (p : Addr) (hx : a.eval x = .pointer (some p)) (v : Value)
    (hc : ∀ w, C w → w.cell? p = some v) (hu : P.underlying ty = some .string) (h : K (a.put o.dst v)) : o.quiet P a C K :=
  ⟨_, fun w hw => by
    have h1 := hc w hw
    unfold Oper.quietAt execOp
    simp [ho, hx, Instr.loadAt, Instr.sureAddr, loadVar, isAgg, run_underlying hu, h1]
    exact ⟨rfl, rfl⟩, h⟩
theorem results_ad2 {P : Program} {fn : Func} {p u : Tmp} {ty : TypeId} (h : fn.results = #[.cell p ty, .tmp u]) (tmps : Array Value) (w : World) (g : Nat) (t : TypeId) (cs : Array Value) (fr : Nat × Nat) (d : TypeDesc)
    (hp : tmps.getD p undef = .pointer (some ⟨g, 0, none⟩)) (hg : w.heap[g]? = some (.cells cs t fr))
    (hu : P.underlying ty = some d) (hd : (match d with | .struct _ | .array _ _ => true | _ => false) = true) (hi : (P.info? ty).map (·.size) = some cs.size) :
    (results fn tmps).run P w = .ok (.tuple #[.agg cs, tmps.getD u undef]) w := by
  have hp' : tmps[p]?.getD undef = .pointer (some ⟨g, 0, none⟩) := by simpa using hp
  simp [results, h, hp', asAddr, run_loadVar_row w g t ty cs fr d hg hu hd hi]

/-! Told apart. -/
theorem str_eq (a b : ByteArray) : (a.toList == b.toList) = decide (a = b) := by
  rw [Bool.eq_iff_iff, beq_iff_eq, decide_eq_true_eq, Lib.toList_data, Lib.toList_data]
  constructor
  · intro h
    exact ByteArray.ext (Array.toList_inj.1 h)
  · rintro rfl; rfl
theorem eqIn_ad (w : World) (n : Nat) (a b c d : ByteArray) : (Op.equalIn (n + 2) adT (adB a b) (adB c d)).run Tryz.prog w = .ok (decide (a = c) && decide (b = d)) w := by
  have e : (Op.equalIn (n + 1 + 1) adT (adB a b) (adB c d)).run Tryz.prog w = _ := run_equalIn_struct w (n + 1) adT _ _ (by unfold Program.fieldsOf; rw [Tryz.underlying44]) (by kernel_rfl)
  rw [e]
  unfold Program.fieldsOf
  rw [Tryz.underlying44, ← str_eq, ← str_eq]
  simp [Op.eqFields, go_sem]
  by_cases h1 : a.toList = c.toList <;> by_cases h2 : b.toList = d.toList <;> simp [h1, h2]
theorem eqIn_ar (w : World) (n : Nat) (a b c d : ByteArray) : (Op.equalIn (n + 2) arT (adB a b) (adB c d)).run Tryz.prog w = .ok (decide (a = c) && decide (b = d)) w := by
  have e : (Op.equalIn (n + 1 + 1) arT (adB a b) (adB c d)).run Tryz.prog w = _ := run_equalIn_struct w (n + 1) arT _ _ (by unfold Program.fieldsOf; rw [Tryz.underlying49]) (by kernel_rfl)
  rw [e]
  unfold Program.fieldsOf
  rw [Tryz.underlying49, ← str_eq, ← str_eq]
  simp [Op.eqFields, go_sem]
  by_cases h1 : a.toList = c.toList <;> by_cases h2 : b.toList = d.toList <;> simp [h1, h2]
theorem eqIn_tok (w : World) (n : Nat) (a b : Tk) : (Op.equalIn (n + 2) tkT (tkV a) (tkV b)).run Tryz.prog w = .ok (decide (a.kind = b.kind) && decide (a.text = b.text)) w := by
  have e : (Op.equalIn (n + 1 + 1) tkT (tkV a) (tkV b)).run Tryz.prog w = _ := run_equalIn_struct w (n + 1) tkT _ _ (by unfold Program.fieldsOf; rw [Tryz.underlying164]) (by kernel_rfl)
  rw [e]
  unfold Program.fieldsOf
  rw [Tryz.underlying164, ← str_eq]
  simp [Op.eqFields, go_sem]
  by_cases h1 : a.kind = b.kind <;> by_cases h2 : a.text.toList = b.text.toList <;> simp [h1, h2]
theorem eql_ad (w : World) (a b c d : ByteArray) : (binOp .eql adT (adB a b) (adB c d)).run Tryz.prog w = .ok (.bool (decide (a = c) && decide (b = d))) w := by
  simp only [binOp]
  simp [Op.equal, Op.maxDepth, eqIn_ad w 9998]
theorem eql_ar (w : World) (a b c d : ByteArray) : (binOp .eql arT (adB a b) (adB c d)).run Tryz.prog w = .ok (.bool (decide (a = c) && decide (b = d))) w := by
  simp only [binOp]
  simp [Op.equal, Op.maxDepth, eqIn_ar w 9998]
theorem eql_tok (w : World) (a b : Tk) : (binOp .eql tkT (tkV a) (tkV b)).run Tryz.prog w = .ok (.bool (decide (a.kind = b.kind) && decide (a.text = b.text))) w := by
  simp only [binOp]
  simp [Op.equal, Op.maxDepth, eqIn_tok w 9998]
theorem neq_tok (w : World) (a b : Tk) : (binOp .neq tkT (tkV a) (tkV b)).run Tryz.prog w = .ok (.bool (!(decide (a.kind = b.kind) && decide (a.text = b.text)))) w := by
  simp only [binOp]
  simp [Op.equal, Op.maxDepth, eqIn_tok w 9998]

/-! Text and Key. -/
theorem ba_cat (a b : List UInt8) : ba a ++ ba b = ba (a ++ b) := Glyph.ba_append a b
theorem txt_dotted {l d : ByteArray} (h : dottedB (bl l) = true) : l ++ atS ++ d = ba (textL ⟨bl l, bl d⟩) := by
  unfold textL
  simp only
  rw [if_pos h]
  conv => lhs; rw [← ba_bl l, ← ba_bl d]
  rw [show atS = ba [64] from rfl, ba_cat, ba_cat]
  simp
theorem txt_quoted {l d : ByteArray} (h : dottedB (bl l) = false) : ba (quoteL (bl l)) ++ atS ++ d = ba (textL ⟨bl l, bl d⟩) := by
  unfold textL
  simp only
  rw [h, if_neg (by decide)]
  conv => lhs; rw [← ba_bl d]
  rw [show atS = ba [64] from rfl, ba_cat, ba_cat]
  simp
theorem textL_le (a : Ad) : (textL a).length ≤ 2 * a.l.length + a.d.length + 3 := by
  unfold textL
  have := quote_len a.l
  rw [List.length_append, List.length_cons]
  split <;> omega
set_option maxRecDepth 100000 in
set_option maxHeartbeats 2000000 in
theorem text_any (l d : ByteArray) (w : World) (hl : l.size ≤ 400000) (hd : d.size ≤ 400000) :
    Calls Tryz.prog 176 #[adB l d] w fun e w' => e = .returned (.string (ba (textL ⟨bl l, bl d⟩))) ∧ Below w.heap.size w w' := by
  have HD := Lib.hid (fun W => dotted_any l W (by omega))
  have HN := Lib.hid (new_boxA w adT l d)
  have HA : Hid (Below w.heap.size w (w.alloc (boxA adT l d))) := Lib.hid ((Below.refl _ _).alloc (Nat.le_refl _) _)
  cases hb : dottedB (bl l)
  · rw [hb] at HD
    have HX := Lib.hid (txt_quoted (d := d) hb)
    have HQ := Lib.hid (fun W => quote_any l W (by omega))
    have hq : (ba (quoteL (bl l))).size ≤ 2 * l.size + 2 := by
      rw [ba_size]
      have := quote_len (bl l)
      rwa [bl_len] at this
    clear hb
    generalize ba (quoteL (bl l)) = q at *
    go_enter Tryz.func176, Tryz.ntmps176
    go_wp2_with fail
    refine (HD.out _).mono ?_
    rintro e w1 ⟨rfl, hb⟩
    have HR := Lib.hid (range_below HN.out (by simp) hb)
    have HB := Lib.hid (HA.out.trans (hb.mono HA.out.size))
    have HL : Hid (w.heap.size < w1.heap.size) := Lib.hid (by have := hb.size; simp at this; omega)
    clear hb
    go_wp2_with fail
    refine wp_region_kept (by kernel_rfl) (by kernel_rfl) ?_
    repeat (first
      | (go_big_quiet_want
         first
           | refine quiet_load_str 9 (.tmp 12) rfl ⟨w.heap.size, 0, none⟩ rfl (.string l) (fun w' hk => (twoA (range_below HR.out HL.out hk)).1) Tryz.underlying9 ?_
           | refine quiet_load_str 9 (.tmp 16) rfl ⟨w.heap.size, 0 + 1, none⟩ rfl (.string d) (fun w' hk => (twoA (range_below HR.out HL.out hk)).2) Tryz.underlying9 ?_
         go_simp
         go_big_quiet_on)
      | (go_big_quiet_step ((first | (exact fun _ => rfl) | (intro hk; go_at_call 181; exact hk.call (HQ.out _))))))
    refine wpQuiet_nil ?_
    intro W2 hk2
    have HK2 := Lib.hid (HB.out.trans (hk2.below.mono HB.out.size))
    clear hk2
    go_wp2_with fail
    go_ret
    exact ⟨by rw [← HX.out]; rfl, HK2.out⟩
  · rw [hb] at HD
    have HX := Lib.hid (txt_dotted (d := d) hb)
    clear hb
    go_enter Tryz.func176, Tryz.ntmps176
    go_wp2_with fail
    refine (HD.out _).mono ?_
    rintro e w1 ⟨rfl, hb⟩
    have hr := range_below HN.out (by simp) hb
    obtain ⟨c0, c1⟩ := twoA hr
    have HB := Lib.hid (HA.out.trans (hb.mono HA.out.size))
    clear hb hr
    go_wp2_with fail
    go_ret
    exact ⟨by rw [← HX.out]; rfl, HB.out⟩
end Go.Proofs.YtegbkfloiiilfaaGreatDoor.Addr

/-
  Walks: build, Right.
-/
namespace Go.Proofs.YtegbkfloiiilfaaGreatDoor.Addr
open Go Go.RowKit
open Go.Proofs.YtegbkfloiiilfaaGreatDoor.Lex
open Go.Proofs.YtegbkfloiiilfaaGreatDoor.Glyph (fd foldL foldL_foldL fold_any)
open Go.Proofs.YtegbkfloiiilfaaGreatDoor.Sha (Kept wp_region_kept wp_region_kept_tail quiet_load_row)

/-! Plain signs are plain bytes. -/
theorem plain_signs : ∀ l : List UInt8, (∀ n ∈ Glyph.signs l, 32 ≤ n ∧ n ≤ 126) → ∀ c ∈ l, pl c = true := by
  refine Glyph.by_signs (by intro _ c h; cases h) ?_
  intro l hl ih h c hc
  rw [Glyph.signs_cons l hl] at h
  have h0 := h (Glyph.sg l) (by simp)
  have hb : Glyph.sg l ≠ -1 := by omega
  have hd := Glyph.sg_of_good l hb
  obtain ⟨hw, hg⟩ := Glyph.low_piece l hl (by omega)
  cases l with
  | nil => exact absurd rfl hl
  | cons x t =>
    rw [hw] at h ih
    rcases List.mem_cons.1 hc with rfl | hc
    · have hx : c.toNat = (Glyph.dec (c :: t)).1 := hg
      unfold pl
      rw [decide_eq_true_eq]
      omega
    · exact ih (fun n hn => h n (List.mem_cons_of_mem _ hn)) c hc
theorem print_all (l : List UInt8) : Glyph.printB l = l.all pl := by
  unfold Glyph.printB
  rw [Bool.eq_iff_iff, decide_eq_true_eq, List.all_eq_true]
  constructor
  · exact plain_signs l
  · intro h
    refine Glyph.signs_plain l fun c hc => ?_
    have := h c hc
    unfold pl at this
    simpa using this
theorem plain_any (s : ByteArray) (w : World) :
    Calls Tryz.prog 175 #[.string s] w fun e w' => e = .returned (.bool ((bl s).all pl)) ∧ Below w.heap.size w w' := by
  have := Glyph.print_any s w
  rwa [print_all] at this
theorem empty_any (s : ByteArray) : s.toList.isEmpty = (bl s).isEmpty := by rw [Lib.toList_data]
/-- What a call that reads an address tells. -/
def AdPost (r : Ad × Nat) (w : World) (e : Ending) (w' : World) : Prop := e = .returned (.tuple #[adB (ba r.1.l) (ba r.1.d), .int .i64 r.2]) ∧ Below w.heap.size w w'
theorem AdPost.of {r : Ad × Nat} {l d : ByteArray} {c : Nat} {w w' : World} (h1 : ba r.1.l = l) (h2 : ba r.1.d = d) (h3 : r.2 = c) (hb : Below w.heap.size w w') : AdPost r w (.returned (.tuple #[adB l d, .int .i64 c])) w' := by
  subst h1 h2 h3
  exact ⟨rfl, hb⟩
theorem AdPost.no {r : Ad × Nat} {c : Nat} {w w' : World} (h : r = (noAd, c)) (hb : Below w.heap.size w w') : AdPost r w (.returned (.tuple #[adB ⟨#[]⟩ ⟨#[]⟩, .int .i64 c])) w' := by
  subst h
  exact ⟨rfl, hb⟩
/-- A result's box among what is new. -/
structure Res (w : World) (b : Nat) (t : TypeId) (W : World) : Prop where
  lies : Lies W b #[.string ⟨#[]⟩, .string ⟨#[]⟩] t
  low : w.heap.size ≤ b
  below : Below w.heap.size w W
theorem Res.start (w : World) (t : TypeId) : Res w w.heap.size t (w.alloc (boxA t ⟨#[]⟩ ⟨#[]⟩)) := ⟨Lies.new w _ _, Nat.le_refl _, (Below.refl _ _).alloc (Nat.le_refl _) _⟩
theorem Res.on {w W W' : World} {b : Nat} {t : TypeId} (h : Res w b t W) (hb : Below W.heap.size W W') : Res w b t W' :=
  ⟨h.lies.same (hb.block _ h.lies.lt), h.low, h.below.trans (hb.mono h.below.size)⟩
theorem Res.fill {w W : World} {b : Nat} {t : TypeId} (h : Res w b t W) (l d : ByteArray) : Lies (fill2 W b (.string l) (.string d)) b #[.string l, .string d] t ∧ Below w.heap.size w (fill2 W b (.string l) (.string d)) :=
  ⟨lies_fill2 h.lies _ _, below_fill2 h.below h.low _ _⟩
theorem Res.cells {w W : World} {b : Nat} {t : TypeId} (h : Res w b t W) : W.cell? ⟨b, 0, none⟩ = some (.string ⟨#[]⟩) ∧ W.cell? ⟨b, 1, none⟩ = some (.string ⟨#[]⟩) ∧ W.frozen? ⟨b, 0, none⟩ = false ∧ W.frozen? ⟨b, 1, none⟩ = false :=
  ⟨h.lies.cell 0, h.lies.cell 1, h.lies.free 0, h.lies.free 1⟩

theorem build_form {l d : List UInt8} (h : formB l d = true) : buildL l d = (noAd, 130) := by
  have : whyC l d = 130 := by unfold whyC; rw [if_pos h]
  unfold buildL
  rw [this]
  rfl
theorem build_big {l d : List UInt8} (h : formB l d = false) (h2 : bigB l d = true) : buildL l d = (noAd, 2) := by
  have : whyC l d = 2 := by unfold whyC; rw [h, if_neg (by decide), if_pos h2]
  unfold buildL
  rw [this]
  rfl
theorem build_good {l d : List UInt8} (h : formB l d = false) (h2 : bigB l d = false) : buildL l d = (⟨l, foldL d⟩, 0) := by
  have : whyC l d = 0 := by unfold whyC; rw [h, h2]; rfl
  unfold buildL
  rw [this]
  rfl
theorem dom_good {l : List UInt8} (h : domC l = 0) : domL l = foldL l := by unfold domL; rw [if_pos h]
theorem dom_bad {l : List UInt8} (h : domC l ≠ 0) : domL l = [] := by unfold domL; rw [if_neg h]
theorem domC_size {l : List UInt8} (h : domC l = 0) : l.length ≤ 253 := by
  unfold domC at h
  split at h
  · cases h
  · split at h
    · cases h
    · rename_i h8
      unfold longB at h8
      simp only [Bool.not_eq_true, Bool.or_eq_false_iff, decide_eq_false_iff_not] at h8
      omega
set_option maxRecDepth 100000 in
set_option maxHeartbeats 4000000 in
theorem build_any (l d : ByteArray) (w : World) (hl : l.size ≤ 100000) (hd : d.size ≤ 100000) :
    Calls Tryz.prog 171 #[.string l, .string d] w (AdPost (buildL (bl l) (bl d)) w) := by
  have HD := Lib.hid (fun W => domain_any d W (by omega))
  have HP := Lib.hid (fun W => plain_any l W)
  have HR0 := Lib.hid (Res.start w adT)
  have he := empty_any l
  have HF : Hid (formB (bl l) (bl d) = ((bl l).isEmpty || (!((bl l).all pl) || domC (bl d) == 130))) := Lib.hid rfl
  cases h1 : (bl l).isEmpty
  · rw [h1] at HF he
    cases h2 : (bl l).all pl
    · rw [h2] at HF HP
      have HX := Lib.hid (build_form (l := bl l) (d := bl d) (by rw [HF.out]; rfl))
      clear HF h1 h2
      go_enter Tryz.func171, Tryz.ntmps171
      go_wp2_with fail
      refine (HD.out _).mono ?_
      rintro e w1 ⟨rfl, hb⟩
      have HR1 := Lib.hid (HR0.out.on hb)
      generalize domL (bl d) = dl at *
      generalize domC (bl d) = dc at *
      clear hb
      go_wp2_with fail
      refine (HP.out _).mono ?_
      rintro e w2 ⟨rfl, hb⟩
      have HR2 := Lib.hid (HR1.out.on hb)
      obtain ⟨c0, c1, f0, f1⟩ := HR2.out.cells
      clear hb
      go_wp2_with fail
      obtain ⟨hl2, hb2⟩ := HR2.out.fill ⟨#[]⟩ ⟨#[]⟩
      exact bodyPost_ret (v := .tuple #[adB ⟨#[]⟩ ⟨#[]⟩, .int .i64 130]) (results_ad2 Tryz.results171 _ _ w.heap.size adT _ (0, 0) _ rfl hl2 Tryz.underlying44 rfl sizeA) rfl (AdPost.no (c := 130) HX.out hb2)
    · rw [h2] at HF HP
      rcases domC_cases (bl d) with h3 | h3 | h3
      · have HX := Lib.hid (build_form (l := bl l) (d := bl d) (by rw [HF.out, h3]; rfl))
        have HE := Lib.hid h3
        clear HF h1 h2 h3
        go_enter Tryz.func171, Tryz.ntmps171
        go_wp2_with fail
        refine (HD.out _).mono ?_
        rintro e w1 ⟨rfl, hb⟩
        have HR1 := Lib.hid (HR0.out.on hb)
        rw [HE.out]
        generalize domL (bl d) = dl at *
        clear hb
        go_wp2_with fail
        refine (HP.out _).mono ?_
        rintro e w2 ⟨rfl, hb⟩
        have HR2 := Lib.hid (HR1.out.on hb)
        obtain ⟨c0, c1, f0, f1⟩ := HR2.out.cells
        clear hb
        go_wp2_with fail
        obtain ⟨hl2, hb2⟩ := HR2.out.fill ⟨#[]⟩ ⟨#[]⟩
        exact bodyPost_ret (v := .tuple #[adB ⟨#[]⟩ ⟨#[]⟩, .int .i64 130]) (results_ad2 Tryz.results171 _ _ w.heap.size adT _ (0, 0) _ rfl hl2 Tryz.underlying44 rfl sizeA) rfl (AdPost.no (c := 130) HX.out hb2)
      · have HX := Lib.hid (build_big (l := bl l) (d := bl d) (by rw [HF.out, h3]; rfl) (by unfold bigB; rw [h3]; rfl))
        have HE := Lib.hid h3
        clear HF h1 h2 h3
        go_enter Tryz.func171, Tryz.ntmps171
        go_wp2_with fail
        refine (HD.out _).mono ?_
        rintro e w1 ⟨rfl, hb⟩
        have HR1 := Lib.hid (HR0.out.on hb)
        rw [HE.out]
        generalize domL (bl d) = dl at *
        clear hb
        go_wp2_with fail
        refine (HP.out _).mono ?_
        rintro e w2 ⟨rfl, hb⟩
        have HR2 := Lib.hid ((HR1.out.on hb).on ((Below.refl _ _).alloc (Nat.le_refl _) (boxA adT l (ba dl))))
        obtain ⟨c0, c1, f0, f1⟩ := HR2.out.cells
        clear hb
        go_wp2_with fail
        obtain ⟨hl2, hb2⟩ := HR2.out.fill ⟨#[]⟩ ⟨#[]⟩
        exact bodyPost_ret (v := .tuple #[adB ⟨#[]⟩ ⟨#[]⟩, .int .i64 2]) (results_ad2 Tryz.results171 _ _ w.heap.size adT _ (0, 0) _ rfl hl2 Tryz.underlying44 rfl sizeA) rfl (AdPost.no (c := 2) HX.out hb2)
      · have HE := Lib.hid (And.intro h3 (dom_good h3))
        have hds := domC_size h3
        rw [bl_len] at hds
        have hbs : bigB (bl l) (bl d) = (decide (64 < (bl l).length) || decide (254 < (textL ⟨bl l, foldL (bl d)⟩).length)) := by unfold bigB; rw [h3]; rfl
        have hff : formB (bl l) (bl d) = false := by rw [HF.out, h3]; rfl
        rw [bl_len] at hbs
        have hzd : (ba (foldL (bl d))).size ≤ 253 := by rw [ba_size, foldL_len, bl_len]; omega
        have HT := Lib.hid (fun W => text_any l (ba (foldL (bl d))) W (by omega) (by omega))
        rw [bl_ba] at HT
        have hzt : (ba (textL ⟨bl l, foldL (bl d)⟩)).size ≤ 400000 := by
          have := textL_le ⟨bl l, foldL (bl d)⟩
          rw [ba_size]
          simp only [bl_len, foldL_len] at this
          omega
        by_cases g1 : 64 < l.size
        · have HX := Lib.hid (build_big hff (by rw [hbs, decide_eq_true g1]; rfl))
          clear HF h1 h2 h3 hbs hff
          go_enter Tryz.func171, Tryz.ntmps171
          go_wp2_with fail
          refine (HD.out _).mono ?_
          rintro e w1 ⟨rfl, hb⟩
          have HR1 := Lib.hid (HR0.out.on hb)
          rw [HE.out.1, HE.out.2]
          clear hb
          generalize ba (foldL (bl d)) = dl at *
          go_wp2_with fail
          refine (HP.out _).mono ?_
          rintro e w2 ⟨rfl, hb⟩
          have HR2 := Lib.hid ((HR1.out.on hb).on ((Below.refl _ _).alloc (Nat.le_refl _) (boxA adT l dl)))
          obtain ⟨c0, c1, f0, f1⟩ := HR2.out.cells
          clear hb
          go_wp2_with fail
          obtain ⟨hl2, hb2⟩ := HR2.out.fill ⟨#[]⟩ ⟨#[]⟩
          exact bodyPost_ret (v := .tuple #[adB ⟨#[]⟩ ⟨#[]⟩, .int .i64 2]) (results_ad2 Tryz.results171 _ _ w.heap.size adT _ (0, 0) _ rfl hl2 Tryz.underlying44 rfl sizeA) rfl (AdPost.no (c := 2) HX.out hb2)
        · by_cases g2 : 254 < (ba (textL ⟨bl l, foldL (bl d)⟩)).size
          · have HX := Lib.hid (build_big hff (by rw [hbs, ← ba_size, decide_eq_true g2]; simp))
            clear HF h1 h2 h3 hbs hff
            go_enter Tryz.func171, Tryz.ntmps171
            go_wp2_with fail
            refine (HD.out _).mono ?_
            rintro e w1 ⟨rfl, hb⟩
            have HR1 := Lib.hid (HR0.out.on hb)
            rw [HE.out.1, HE.out.2]
            clear hb
            generalize ba (textL ⟨bl l, foldL (bl d)⟩) = t at *
            generalize ba (foldL (bl d)) = dl at *
            go_wp2_with fail
            refine (HP.out _).mono ?_
            rintro e w2 ⟨rfl, hb⟩
            have HR2 := Lib.hid ((HR1.out.on hb).on ((Below.refl _ _).alloc (Nat.le_refl _) (boxA adT l dl)))
            have HN := Lib.hid (new_boxA w2 adT l dl)
            clear hb
            go_wp2_with fail
            refine (HT.out _).mono ?_
            rintro e w3 ⟨rfl, hb⟩
            have HR3 := Lib.hid (HR2.out.on hb)
            have hn := range_below HN.out (by simp) hb
            obtain ⟨a0, a1⟩ := twoA hn
            obtain ⟨c0, c1, f0, f1⟩ := HR3.out.cells
            clear hb hn
            go_wp2_with fail
            obtain ⟨hl2, hb2⟩ := HR3.out.fill ⟨#[]⟩ ⟨#[]⟩
            exact bodyPost_ret (v := .tuple #[adB ⟨#[]⟩ ⟨#[]⟩, .int .i64 2]) (results_ad2 Tryz.results171 _ _ w.heap.size adT _ (0, 0) _ rfl hl2 Tryz.underlying44 rfl sizeA) rfl (AdPost.no (c := 2) HX.out hb2)
          · have HX := Lib.hid (build_good hff (by rw [hbs, ← ba_size, decide_eq_false g1, decide_eq_false g2]; rfl))
            have HD2 := Lib.hid (rfl : ba (foldL (bl d)) = ba (foldL (bl d)))
            clear HF h1 h2 h3 hbs hff
            go_enter Tryz.func171, Tryz.ntmps171
            go_wp2_with fail
            refine (HD.out _).mono ?_
            rintro e w1 ⟨rfl, hb⟩
            have HR1 := Lib.hid (HR0.out.on hb)
            rw [HE.out.1, HE.out.2]
            clear hb
            generalize ba (textL ⟨bl l, foldL (bl d)⟩) = t at *
            generalize hdl : ba (foldL (bl d)) = dl at *
            have HDL := Lib.hid hdl
            clear hdl
            go_wp2_with fail
            refine (HP.out _).mono ?_
            rintro e w2 ⟨rfl, hb⟩
            have HR2 := Lib.hid ((HR1.out.on hb).on ((Below.refl _ _).alloc (Nat.le_refl _) (boxA adT l dl)))
            have HN := Lib.hid (new_boxA w2 adT l dl)
            clear hb
            go_wp2_with fail
            refine (HT.out _).mono ?_
            rintro e w3 ⟨rfl, hb⟩
            have HR3 := Lib.hid (HR2.out.on hb)
            have hn := range_below HN.out (by simp) hb
            obtain ⟨a0, a1⟩ := twoA hn
            obtain ⟨c0, c1, f0, f1⟩ := HR3.out.cells
            clear hb hn
            go_wp2_with fail
            obtain ⟨hl2, hb2⟩ := HR3.out.fill l dl
            exact bodyPost_ret (v := .tuple #[adB l dl, .int .i64 0]) (results_ad2 Tryz.results171 _ _ w.heap.size adT _ (0, 0) _ rfl hl2 Tryz.underlying44 rfl sizeA) rfl (AdPost.of (c := 0) (by rw [HX.out]) (by rw [HX.out]; exact HDL.out) (by rw [HX.out]) hb2)
  · rw [h1] at HF he
    have HX := Lib.hid (build_form (l := bl l) (d := bl d) (by rw [HF.out]; rfl))
    clear HF h1
    go_enter Tryz.func171, Tryz.ntmps171
    go_wp2_with fail
    refine (HD.out _).mono ?_
    rintro e w1 ⟨rfl, hb⟩
    have HR1 := Lib.hid (HR0.out.on hb)
    obtain ⟨c0, c1, f0, f1⟩ := HR1.out.cells
    generalize domL (bl d) = dl at *
    generalize domC (bl d) = dc at *
    clear hb
    go_wp2_with fail
    obtain ⟨hl2, hb2⟩ := HR1.out.fill ⟨#[]⟩ ⟨#[]⟩
    exact bodyPost_ret (v := .tuple #[adB ⟨#[]⟩ ⟨#[]⟩, .int .i64 130]) (results_ad2 Tryz.results171 _ _ w.heap.size adT _ (0, 0) _ rfl hl2 Tryz.underlying44 rfl sizeA) rfl (AdPost.no (c := 130) HX.out hb2)
/-- Is the address valid? -/
def rightB (a : Ad) : Bool := decide (whyC a.l a.d = 0) && decide (foldL a.d = a.d)
theorem rightB_iff (a : Ad) : rightB a = true ↔ Right a := by
  unfold rightB Right
  simp
theorem ba_inj {a b : List UInt8} : ba a = ba b ↔ a = b := ⟨fun h => by have := congrArg bl h; rwa [bl_ba, bl_ba] at this, fun h => by rw [h]⟩
theorem right_built (l d : ByteArray) : (decide ((buildL (bl l) (bl d)).2 = 0) && (decide (ba (buildL (bl l) (bl d)).1.l = l) && decide (ba (buildL (bl l) (bl d)).1.d = d))) = rightB ⟨bl l, bl d⟩ := by
  rw [Bool.eq_iff_iff, rightB_iff, build_iff]
  simp only [Bool.and_eq_true, decide_eq_true_eq]
  constructor
  · rintro ⟨h1, h2, h3⟩
    generalize buildL (bl l) (bl d) = r at *
    obtain ⟨⟨rl, rd⟩, rc⟩ := r
    simp only at h1 h2 h3
    rw [← h2, ← h3, h1, bl_ba, bl_ba]
  · intro h
    rw [h]
    exact ⟨rfl, ba_bl l, ba_bl d⟩
end Go.Proofs.YtegbkfloiiilfaaGreatDoor.Addr
