/-
  Walks: strings.Split at a dot; a list of texts in memory.
-/
import Derived.Test.YtklmhjoiffaniaaDoorAddrPlain
import Derived.Test.YtklmhjoiffaniaaDoorLexSame
import Derived.Test.YtklmhjoiffaniaaDoorGlyphFold
import Derived.Lib.Split
import Derived.Deep.OwnRows
namespace Go.Proofs.YtklmhjoiffaniaaDoor.Addr
open Go Go.RowKit
open Go.Proofs.YtklmhjoiffaniaaDoor.Lex
open Go.Proofs.YtklmhjoiffaniaaDoor.Glyph (fd foldL foldL_foldL)

abbrev dotS : ByteArray := ⟨#[46]⟩
abbrev atS : ByteArray := ⟨#[64]⟩
abbrev strT : TypeId := 9
theorem infoS : (Tryd.prog.info? strT).map (fun i => (i.zero, i.size, i.bytes)) = some (some (.string ByteArray.empty), 1, 16) := by kernel_rfl

/-- The value is a slice that reads as these texts. -/
def ReadsP (w : World) (v : Value) (ps : List (List UInt8)) : Prop :=
  ∃ b cap, v = .slice (some ⟨b, 0, none⟩) ps.length cap ∧ ps.length ≤ cap ∧ b < w.heap.size ∧ ∀ i p, ps[i]? = some p → w.cell? ⟨b, i, none⟩ = some (.string (ba p))
theorem ReadsP.below {w w' : World} {v : Value} {ps : List (List UInt8)} (h : ReadsP w v ps) (hb : Below w.heap.size w w') : ReadsP w' v ps := by
  obtain ⟨b, cap, rfl, h1, h2, h3⟩ := h
  exact ⟨b, cap, rfl, h1, by have := hb.size; omega, fun i p hi => by rw [hb.cell (p := ⟨b, i, none⟩) h2]; exact h3 i p hi⟩

/-! The first dot; how many there are. -/
theorem first_dot : ∀ l : List UInt8, (Lib.indexByte l 46 = -1 ∧ ∀ x ∈ l, x ≠ 46) ∨ ∃ a b, l = a ++ 46 :: b ∧ (∀ x ∈ a, x ≠ 46) ∧ Lib.indexByte l 46 = (a.length : Int)
  | [] => .inl ⟨rfl, by simp⟩
  | x :: t => by
    by_cases hx : x = 46
    · subst hx
      exact .inr ⟨[], t, rfl, by simp, by simp [Lib.indexByte]⟩
    · rcases first_dot t with ⟨h1, h2⟩ | ⟨a, b, h1, h2, h3⟩
      · refine .inl ⟨?_, ?_⟩
        · unfold Lib.indexByte
          simp [hx, h1]
        · intro y hy
          rcases List.mem_cons.1 hy with rfl | hy
          · exact hx
          · exact h2 y hy
      · refine .inr ⟨x :: a, b, by rw [h1]; rfl, ?_, ?_⟩
        · intro y hy
          rcases List.mem_cons.1 hy with rfl | hy
          · exact hx
          · exact h2 y hy
        · unfold Lib.indexByte
          simp [hx, h3]
theorem pieces_none {l : List UInt8} (h : ∀ x ∈ l, x ≠ 46) : pieces l = [l] := by
  have := pcs_run l [] [] h
  rw [List.append_nil] at this
  exact this
theorem pieces_some {a b : List UInt8} (h : ∀ x ∈ a, x ≠ 46) : pieces (a ++ 46 :: b) = a :: pieces b := by
  unfold pieces
  rw [pcs_run a [] _ h, pcs_hit]
  rfl
theorem count_none {l : List UInt8} (h : ∀ x ∈ l, x ≠ 46) : l.count 46 = 0 := List.count_eq_zero.2 fun hm => h 46 hm rfl
theorem count_some {a b : List UInt8} (h : ∀ x ∈ a, x ≠ 46) : (a ++ 46 :: b).count 46 = b.count 46 + 1 := by
  rw [List.count_append, count_none h]
  simp
theorem len_pieces : ∀ (n : Nat) (l : List UInt8), l.length ≤ n → (pieces l).length = l.count 46 + 1 := by
  intro n
  induction n with
  | zero =>
    intro l h
    obtain rfl := List.length_eq_zero_iff.1 (Nat.le_zero.1 h)
    rfl
  | succ n ih =>
    intro l h
    rcases first_dot l with ⟨_, h2⟩ | ⟨a, b, rfl, h2, _⟩
    · rw [pieces_none h2, count_none h2]
      rfl
    · rw [pieces_some h2, count_some h2, List.length_cons, ih b (by simp at h; omega)]

set_option maxRecDepth 100000 in
set_option maxHeartbeats 1000000 in
theorem countS_any (s : ByteArray) (w : World) :
    Calls Tryd.prog 72 #[.string s, .string dotS] w fun e w' => e = .returned (.int .i64 ((bl s).count 46)) ∧ w = w' := by
  go_enter Tryd.func72, Tryd.ntmps72
  go_wp2
  rw [run_callFunc_extern Tryd.func86 (by kernel_rfl) (by kernel_rfl) (by kernel_rfl) (e := Extern.BytealgCount.count) (by kernel_rfl), Lib.run_countString]
  simp only [Result.andThen]
  rw [Oper.upon_value]
  go_wp2
  go_ret
  exact ⟨rfl, rfl⟩
set_option maxRecDepth 100000 in
set_option maxHeartbeats 1000000 in
theorem indexLS_any (s : ByteArray) (w : World) :
    Calls Tryd.prog 87 #[.string s, .string dotS] w fun e w' => e = .returned (.int .i64 (Lib.indexByte (bl s) 46)) ∧ w = w' := by
  have HX := Lib.hid (fun W => indexL_any s 46 W)
  cases hq : ([46] == s.toList)
  · go_enter Tryd.func87, Tryd.ntmps87
    go_wp2_with fail
    refine (HX.out _).mono ?_
    rintro e w1 ⟨rfl, rfl⟩
    go_wp2_with fail
    go_ret
    exact ⟨rfl, rfl⟩
  · have HE : Hid (Lib.indexByte (bl s) 46 = 0) := Lib.hid (by
      have h := beq_iff_eq.1 hq
      rw [Lib.toList_data] at h
      show Lib.indexByte s.data.toList 46 = 0
      rw [← h]
      rfl)
    go_enter Tryd.func87, Tryd.ntmps87
    go_wp2_with fail
    go_ret
    rw [HE.out]
    exact ⟨rfl, rfl⟩
set_option maxRecDepth 100000 in
set_option maxHeartbeats 1000000 in
theorem indexS_any (s : ByteArray) (w : World) :
    Calls Tryd.prog 73 #[.string s, .string dotS] w fun e w' => e = .returned (.int .i64 (Lib.indexByte (bl s) 46)) ∧ w = w' := by
  have HX := Lib.hid (fun W => indexLS_any s W)
  go_enter Tryd.func73, Tryd.ntmps73
  go_wp2_with fail
  refine (HX.out _).mono ?_
  rintro e w1 ⟨rfl, rfl⟩
  go_wp2_with fail
  go_ret
  exact ⟨rfl, rfl⟩
/-- What has been cut off, and what is left. -/
structure Cut (l : List UInt8) (n : Nat) (done : List (List UInt8)) (rest : ByteArray) : Prop where
  eq : done ++ pieces (bl rest) = pieces l
  left : (bl rest).count 46 + done.length = n
  size : rest.size ≤ l.length
theorem Cut.start (s : ByteArray) : Cut (bl s) ((bl s).count 46) [] s := ⟨rfl, rfl, by rw [bl_len]; exact Nat.le_refl _⟩
theorem map_len (done : List (List UInt8)) : (done.map ba).length = done.length := List.length_map _
theorem Cut.next {l : List UInt8} {n : Nat} {done : List (List UInt8)} {rest : ByteArray} (h : Cut l n done rest) (hlt : done.length < n) :
    ∃ i : Nat, Lib.indexByte (bl rest) 46 = i ∧ i + 1 ≤ rest.size ∧ Cut l n (done ++ [bl (rest.extract 0 i)]) (rest.extract (i + 1) rest.size) := by
  rcases first_dot (bl rest) with ⟨_, h2⟩ | ⟨a, b, h1, h2, h3⟩
  · have := h.left
    rw [count_none h2] at this
    omega
  · have hz : rest.size = a.length + 1 + b.length := by
      rw [← bl_len, h1]; simp; omega
    have e1 : bl (rest.extract 0 a.length) = a := by rw [bl_extract, h1]; simp
    have e2 : bl (rest.extract (a.length + 1) rest.size) = b := by
      rw [bl_from, h1, List.drop_append, List.drop_eq_nil_of_le (by omega)]
      simp
    refine ⟨a.length, h3, by omega, ?_, ?_, ?_⟩
    · rw [e1, e2, ← h.eq, h1, pieces_some h2]
      simp
    · rw [e2, List.length_append, ← h.left, h1, count_some h2]
      simp
      omega
    · have := h.size
      rw [ByteArray.size_extract]
      omega
theorem Cut.last {l : List UInt8} {n : Nat} {done : List (List UInt8)} {rest : ByteArray} (h : Cut l n done rest) (hlt : ¬ done.length < n) : done.length = n ∧ done ++ [bl rest] = pieces l := by
  rcases first_dot (bl rest) with ⟨_, h2⟩ | ⟨a, b, h1, h2, h3⟩
  · have h4 := h.left
    rw [count_none h2] at h4
    have h5 := h.eq
    rw [pieces_none h2] at h5
    exact ⟨by omega, h5⟩
  · have h4 := h.left
    rw [h1, count_some h2] at h4
    omega
theorem read_cells (w : World) (ps : List (List UInt8)) : ReadsP (w.alloc (.cells (Lib.cellsOf (ps.map ba) ps.length) strT)) (.slice (some ⟨w.heap.size, 0, none⟩) ps.length ps.length) ps := by
  refine ⟨w.heap.size, ps.length, rfl, Nat.le_refl _, by simp, fun i p hi => ?_⟩
  have hb := heap_alloc_new w (.cells (Lib.cellsOf (ps.map ba) ps.length) strT)
  have hi2 := (List.getElem?_eq_some_iff.1 hi).1
  simp only [World.cell?, hb]
  unfold Lib.cellsOf
  rw [List.getElem?_toArray, List.getElem?_append_left (by simpa using hi2)]
  simp [hi]
set_option maxRecDepth 100000 in
set_option maxHeartbeats 4000000 in
theorem genSplit_any (s : ByteArray) (w : World) (hs : s.size ≤ 1000000) :
    Calls Tryd.prog 56 #[.string s, .string dotS, .int .i64 0, .int .i64 (-1)] w fun e w' => ∃ v, e = .returned v ∧ ReadsP w' v (pieces (bl s)) ∧ Below w.heap.size w w' := by
  have HC := Lib.hid (fun W => countS_any s W)
  have HX := Lib.hid (fun (r : ByteArray) W => indexS_any r W)
  have HI := Lib.hid (Cut.start s)
  obtain ⟨n, hn⟩ : ∃ n, n = (bl s).count 46 := ⟨_, rfl⟩
  have hns : n ≤ s.size := by rw [hn, ← bl_len]; exact List.count_le_length
  rw [← hn] at HC HI
  clear hn
  have hmin : min ((n : Int) + 1) ((s.size : Int) + 1) = ((n + 1 : Nat) : Int) := by omega
  have hmk : ∀ W : World, (Instr.makeSlice 69 (.int .i64 ((n : Int) + 1)) (.int .i64 ((n : Int) + 1))).run Tryd.prog W = .ok (.slice (some ⟨W.heap.size, 0, none⟩) (n + 1) (n + 1)) (W.alloc (.cells (madeCells #[.string ByteArray.empty] (n + 1)) strT)) :=
    run_make_row' (P := Tryd.prog) 69 strT (.string ByteArray.empty) 16 Tryd.underlying69 infoS rfl .i64 .i64 (n + 1) (by omega) (by omega)
  go_enter Tryd.func56, Tryd.ntmps56
  go_wp2_with fail
  refine (HC.out _).mono ?_
  rintro e w1 ⟨rfl, rfl⟩
  go_wp2_with fail
  clear hmk hmin
  go_loopw [0, 10] (fun s0 s10 wr => ∃ (done : List (List UInt8)) (rest : ByteArray), s0 = .string rest ∧ s10 = .int .i64 done.length ∧ done.length ≤ n ∧ Hid (Cut (bl s) n done rest) ∧ wr = w.alloc (.cells (Lib.cellsOf (done.map ba) (n + 1)) strT)) (fun _ i _ => n - (intOf i).toNat)
  case atStart => exact ⟨[], s, rfl, rfl, Nat.zero_le _, HI, by rw [List.map_nil, Lib.cellsOf_nil]⟩
  case round =>
    clear HI
    obtain ⟨done, rest, rfl, rfl, hd, hC, rfl⟩ := hrel
    have hrs : rest.size ≤ 1000000 := by have := hC.out.size; rw [bl_len] at this; omega
    have hnext : (Lib.cellsOf (done.map ba) (n + 1))[done.length]? = some (.string ByteArray.empty) := by
      have := Lib.cellsOf_next (done := done.map ba) (N := n + 1) (by rw [map_len]; omega)
      rwa [map_len] at this
    have hset := fun x : ByteArray => Lib.cellsOf_set (done := done.map ba) (N := n + 1) (by rw [map_len]; omega) x
    rw [map_len] at hset
    by_cases hlt : done.length < n
    · obtain ⟨i, hix, hi, hN⟩ := hC.out.next hlt
      have HXI := Lib.hid (fun W => HX.out rest W)
      rw [hix] at HXI
      have HN := Lib.hid hN
      have HS := Lib.hid hset
      have c1 : decide ((i : Int) < 0) = false := decide_eq_false (by omega)
      clear hix hN hset
      go_wp2_with fail
      refine (HXI.out _).mono ?_
      rintro e w1 ⟨rfl, rfl⟩
      go_wp2_with fail
      go_roundw
      case rel =>
        refine ⟨_, _, rfl, by simp, by simp; omega, HN, ?_⟩
        rw [List.map_append]
        have := HS.out (rest.extract 0 i)
        rw [List.map_cons, List.map_nil, ba_bl]
        rw [← this]
      case measure => simp [intOf]; omega
    · obtain ⟨h1, h2⟩ := hC.out.last hlt
      have HE := Lib.hid (And.intro h1 h2)
      have HS := Lib.hid hset
      clear h1 h2 hset
      go_wp2_with fail
      go_ret
      have hl : done.length = n := HE.out.1
      have hp : (pieces (bl s)).length = n + 1 := by rw [← HE.out.2, List.length_append, hl]; rfl
      have hm : (pieces (bl s)).map ba = done.map ba ++ [rest] := by rw [← HE.out.2, List.map_append, List.map_cons, List.map_nil, ba_bl]
      have hS := HS.out rest
      rw [← hm] at hS
      have hr := read_cells w (pieces (bl s))
      rw [hp, ← hS] at hr
      refine ⟨_, rfl, ?_, ?_⟩
      · simpa [hl] using hr
      · exact (Below.refl _ _).alloc (Nat.le_refl _) _
set_option maxRecDepth 100000 in
set_option maxHeartbeats 1000000 in
theorem split_any (s : ByteArray) (w : World) (hs : s.size ≤ 1000000) :
    Calls Tryd.prog 30 #[.string s, .string dotS] w fun e w' => ∃ v, e = .returned v ∧ ReadsP w' v (pieces (bl s)) ∧ Below w.heap.size w w' := by
  have HG := Lib.hid (genSplit_any s w hs)
  go_enter Tryd.func30, Tryd.ntmps30
  go_wp2_with fail
  refine HG.out.mono ?_
  rintro e w1 ⟨v, rfl, hr, hb⟩
  have HR := Lib.hid (And.intro hr hb)
  clear hr hb
  go_wp2_with fail
  go_ret
  exact ⟨v, rfl, HR.out⟩
end Go.Proofs.YtklmhjoiffaniaaDoor.Addr
