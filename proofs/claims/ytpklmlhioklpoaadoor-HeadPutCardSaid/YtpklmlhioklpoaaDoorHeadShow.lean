/-
  Walks: Show, Print.
-/
import Derived.Test.YtpklmlhioklpoaaDoorHeadPieces
namespace Go.Proofs.YtpklmlhioklpoaaDoor.Head
open Go Go.RowKit
open Go.Proofs.YtpklmlhioklpoaaDoor.Lex (wstr wend BuiltAt bstrK_any byteCells_len strCells_ba)

theorem shw_len : ∀ (ps : List (List UInt8)) (b : Bool) (k : Nat), (shw b k ps).length ≤ 2 + 2 * ps.length + ps.flatten.length
  | [], b, k => by simp [shw]
  | p :: ps, b, k => by
    rw [shw]
    have h1 := shw_len ps false p.length
    have h2 := shw_len ps false (k + p.length)
    simp only [List.length_cons, List.flatten_cons, List.length_append]
    split
    · simp only [List.length_cons, List.length_append]; omega
    · simp only [List.length_append]; omega
theorem pieces_len (v : List UInt8) : (piecesL v).length ≤ v.length + 1 ∧ (piecesL v).flatten.length ≤ v.length + 1 := by
  refine ⟨?_, ?_⟩
  · unfold piecesL
    split
    · simp
    · exact pcs_count v _ _
  · rw [pieces_flat]
    split <;> simp
theorem showL_len (n v : List UInt8) : (showL n v).length ≤ n.length + 3 * v.length + 10 := by
  unfold showL
  have h1 := shw_len (piecesL v) true (n.length + 1)
  have h2 := pieces_len v
  simp only [List.length_append, List.length_cons]
  omega
/-- What has been written, and what the rest adds; how long the line is. -/
structure ShAt (f : Fd) (W wr : World) (ps : List (List UInt8)) (acc : List UInt8) (z k : Nat) : Prop where
  built : BuiltAt W wr acc
  eq : acc ++ shw (decide (k = 0)) z (ps.drop k) = showL (bl f.n) (bl f.v)
  size : z + (ps.drop k).flatten.length ≤ f.n.size + f.v.size + 2
theorem drop_get (ps : List (List UInt8)) (k : Nat) (p : List UInt8) (h : ps[k]? = some p) : ps.drop k = p :: ps.drop (k + 1) := by
  obtain ⟨h1, h2⟩ := List.getElem?_eq_some_iff.1 h
  rw [List.drop_eq_getElem_cons h1, h2]
theorem ShAt.fold {f : Fd} {W wr wr' : World} {ps : List (List UInt8)} {acc : List UInt8} {z k : Nat} {p : List UInt8} (h : ShAt f W wr ps acc z k) (hp : ps[k]? = some p) (hk : 0 < k) (hz : 78 < z + p.length) (hb : BuiltAt W wr' (acc ++ [13, 10] ++ p)) : ShAt f W wr' ps (acc ++ [13, 10] ++ p) p.length (k + 1) := by
  refine ⟨hb, ?_, ?_⟩
  · rw [← h.eq, drop_get ps k p hp, shw, if_pos ⟨decide_eq_false (by omega), hz⟩, show decide (k + 1 = 0) = false from rfl]
    simp
  · have := h.size
    rw [drop_get ps k p hp] at this
    simp only [List.flatten_cons, List.length_append] at this
    omega
theorem ShAt.plain {f : Fd} {W wr wr' : World} {ps : List (List UInt8)} {acc : List UInt8} {z k : Nat} {p : List UInt8} (h : ShAt f W wr ps acc z k) (hp : ps[k]? = some p) (hz : ¬ (0 < k ∧ 78 < z + p.length)) (hb : BuiltAt W wr' (acc ++ p)) : ShAt f W wr' ps (acc ++ p) (z + p.length) (k + 1) := by
  refine ⟨hb, ?_, ?_⟩
  · rw [← h.eq, drop_get ps k p hp, shw, if_neg (by
      rintro ⟨h1, h2⟩
      have : ¬ k = 0 := of_decide_eq_false h1
      exact hz ⟨by omega, h2⟩), show decide (k + 1 = 0) = false from rfl]
    simp
  · have := h.size
    rw [drop_get ps k p hp] at this
    simp only [List.flatten_cons, List.length_append] at this
    omega
theorem ShAt.len {f : Fd} {W wr : World} {ps : List (List UInt8)} {acc : List UInt8} {z k : Nat} (h : ShAt f W wr ps acc z k) (hn : f.n.size ≤ 1000000) (hv : f.v.size ≤ 1000000) : acc.length ≤ 100000000 := by
  have h1 := congrArg List.length h.eq
  have h2 := showL_len (bl f.n) (bl f.v)
  rw [List.length_append] at h1
  rw [bl_len, bl_len] at h2
  omega
theorem wstrK (w wr : World) (acc : List UInt8) (s : ByteArray) (h : BuiltAt w wr acc) (hl : acc.length ≤ 1000000000) (hs : s.size ≤ 1000000000) :
    Calls Tryd.prog 46 #[.pointer (some ⟨w.heap.size, 0, none⟩), .string s] wr fun e w' => e = .returned (.tuple #[.int .i64 s.size, .nilIface]) ∧ BuiltAt w w' (acc ++ bl s) ∧ Lib.OthersKept 5 (some w.heap.size) wr w' := by
  refine (bstrK_any w.heap.size w.heap.size _ s wr h.1 (by rw [byteCells_len]; omega) h.2.size).mono ?_
  rintro e w' ⟨rfl, h1, h2, h3⟩
  refine ⟨rfl, ⟨.inr ?_, h.2.trans h2⟩, h3⟩
  rw [Lib.byteCells_append, ← strCells_ba (bl s), show Lex.ba (bl s) = s from ba_bl s]
  exact h1
/-- The texts of a list in memory, whatever is written beside. -/
def TextsAt (w2 : World) (b : Nat) (va : Option Addr) (ps : List (List UInt8)) : Prop :=
  ∀ (k : Nat) (p : List UInt8), ps[k]? = some p → ∃ g, va = some ⟨g, 0, none⟩ ∧ g ≠ b ∧ ∃ cur fz, w2.heap[g]? = some (.cells cur strT fz) ∧ cur[k]? = some (.string (ba p))
theorem TextsAt.cell {w2 wr : World} {b : Nat} {va : Option Addr} {ps : List (List UInt8)} (h : TextsAt w2 b va ps) (hk : Lib.OthersKept 5 (some b) w2 wr) {k : Nat} {p : List UInt8} (hp : ps[k]? = some p) : ∃ g, va = some ⟨g, 0, none⟩ ∧ wr.cell? ⟨g, k, none⟩ = some (.string (ba p)) := by
  obtain ⟨g, h1, h2, cur, fz, h3, h4⟩ := h k p hp
  refine ⟨g, h1, ?_⟩
  have := hk g _ h3 (fun e => h2 (Option.some.inj e)) (fun c f e => by
    have e2 := (Obj.cells.inj e).2.1
    exact absurd e2 (by decide))
  rw [cell_of_row wr g k cur _ fz this]
  exact h4
theorem texts_of {w1 w2 : World} {b n c : Nat} {va : Option Addr} {ps : List (List UInt8)} (h : TxAt w1 w2 (.slice va n c) (ps.map ba)) (hb : b < w1.heap.size) : TextsAt w2 b va ps := by
  intro k p hp
  rcases h.1.2 with ⟨_, h2⟩ | ⟨g, cap, cur, h3, h4, h5, _, _, _, h6⟩
  · have := (List.getElem?_eq_some_iff.1 hp).1
    rw [List.length_map] at h2
    omega
  · obtain ⟨rfl, _, _⟩ := Value.slice.inj h3
    refine ⟨g, rfl, by omega, cur, _, h5, ?_⟩
    have hl := (List.getElem?_eq_some_iff.1 hp).1
    have : (cur.toList.take ((ps.map ba).length * 1))[k]? = ((ps.map ba).map Value.string)[k]? := by rw [h6]
    rw [List.getElem?_take, if_pos (by rw [List.length_map]; omega)] at this
    rw [List.getElem?_map, List.getElem?_map, hp] at this
    simpa using this
set_option maxRecDepth 100000 in
set_option maxHeartbeats 4000000 in
theorem show_any (f : Fd) (w : World) (hn : f.n.size ≤ 1000000) (hv : f.v.size ≤ 1000000) :
    Calls Tryd.prog 26 #[fdV f] w fun e w' => e = .returned (.string (ba (showL (bl f.n) (bl f.v)))) ∧ Below w.heap.size w w' := by
  obtain ⟨W, hW⟩ : ∃ W, W = w.alloc (boxF fdT f) := ⟨_, rfl⟩
  have hWs : W.heap.size = w.heap.size + 1 := by rw [hW]; simp
  have HA : Hid (Below w.heap.size w W) := Lib.hid (by rw [hW]; exact (Below.refl _ _).alloc (Nat.le_refl _) _)
  obtain ⟨q0, q1⟩ := two (new_boxF w fdT f)
  rw [← hW] at q0 q1
  have HQ := Lib.hid (And.intro q0 q1)
  have HBS := Lib.hid (BuiltAt.start W)
  have HCE : Hid (∀ wr, Below W.heap.size W wr → wr.cell? ⟨w.heap.size, 0, none⟩ = some (.string f.n) ∧ wr.cell? ⟨w.heap.size, 0 + 1, none⟩ = some (.string f.v)) := Lib.hid (fun wr hb => by
    rw [hb.cell (p := ⟨w.heap.size, 0, none⟩) (by show w.heap.size < _; omega), hb.cell (p := ⟨w.heap.size, 0 + 1, none⟩) (by show w.heap.size < _; omega)]
    exact HQ.out)
  obtain ⟨B0, hB0⟩ : ∃ B0, B0 = W.alloc (.cells #[.pointer none, .slice none 0 0] 73) := ⟨_, rfl⟩
  rw [← hB0] at HBS
  obtain ⟨c0, c1⟩ := HCE.out B0 HBS.out.2
  have hcol : (f.n ++ (⟨#[58]⟩ : ByteArray)).size ≤ 1000001 := by
    rw [ByteArray.size_append]
    show f.n.size + 1 ≤ _
    omega
  have HW1 := Lib.hid (wstr W B0 [] (f.n ++ ⟨#[58]⟩) HBS.out (by simp) (by omega))
  have HPC := Lib.hid (fun W' => pieces_any f.v W' hv)
  have e1 : w.alloc (.cells #[.string f.n, .string f.v] fdT) = W := hW.symm
  have e2 : W.alloc (.cells #[.pointer none, .slice none 0 0] 73) = B0 := hB0.symm
  have HZ := Lib.hid hWs
  rw [hWs] at HW1
  clear q0 q1 hW hB0
  go_enter Tryd.func26, Tryd.ntmps26
  go_wp2_with fail
  refine HW1.out.mono ?_
  rintro e w1 ⟨rfl, hb1⟩
  clear c0 c1 e1 e2 hWs
  have HB1 := Lib.hid hb1
  obtain ⟨c0, c1⟩ := HCE.out w1 hb1.2
  clear hb1
  go_wp2_with fail
  refine (HPC.out _).mono ?_
  rintro e w2 ⟨v, rfl, hv2⟩
  obtain ⟨ps, hps⟩ : ∃ ps, ps = piecesL (bl f.v) := ⟨_, rfl⟩
  rw [← hps] at hv2
  obtain ⟨n, hn2⟩ : ∃ n, n = ps.length := ⟨_, rfl⟩
  obtain ⟨va, vc, rfl⟩ : ∃ a c, v = .slice a n c := by
    have := hv2.1
    rw [List.length_map, ← hn2] at this
    exact owns_slice this
  have HPQ := Lib.hid (And.intro hps hn2)
  have HT : Hid (TextsAt w2 W.heap.size va ps) := Lib.hid (texts_of hv2 HB1.out.lt)
  have HS : Hid (ShAt f W w2 ps (bl (f.n ++ ⟨#[58]⟩)) (f.n.size + 1) 0) := Lib.hid ⟨by
      have h := HB1.out.kept hv2.2
      rw [List.nil_append] at h
      exact h, by
      rw [List.drop_zero, hps]
      unfold showL
      rw [show bl (f.n ++ (⟨#[58]⟩ : ByteArray)) = bl f.n ++ [58] by
        show (f.n ++ (⟨#[58]⟩ : ByteArray)).data.toList = _
        rw [ByteArray.data_append]
        simp, bl_len]
      simp, by
      rw [List.drop_zero, hps]
      have := (pieces_len (bl f.v)).2
      rw [bl_len] at this
      omega⟩
  have HWK := Lib.hid (fun (wr : World) (acc : List UInt8) (x : ByteArray) (h : BuiltAt W wr acc) (hl : acc.length ≤ 200000000) (hx : x.size ≤ 10000000) => wstrK W wr acc x h (by omega) (by omega))
  have HEN := Lib.hid (fun (wr : World) (acc : List UInt8) (h : BuiltAt W wr acc) => wend W wr acc h)
  rw [HZ.out] at HWK HEN HT
  have hnb : n ≤ 1000001 := by
    have := (pieces_len (bl f.v)).1
    rw [bl_len, ← HPQ.out.1] at this
    have := HPQ.out.2
    omega
  have hfn : f.n.size + 1 ≤ 3000000 := by omega
  clear hv2 hps hn2 hcol c0 c1
  go_wp2_with fail
  go_loopw [4, 19] (fun sz i wr => ∃ (k z : Nat) (acc : List UInt8), k ≤ n ∧ i = .int .i64 k ∧ sz = .int .i64 z ∧ z ≤ 3000000 ∧ Hid (ShAt f W wr ps acc z k ∧ Lib.OthersKept 5 (some (w.heap.size + 1)) w2 wr)) (fun _ i _ => n - (intOf i).toNat)
  case atStart => exact ⟨0, f.n.size + 1, _, Nat.zero_le _, rfl, by simp, hfn, Lib.hid ⟨HS.out, Lib.OthersKept.refl _ _ _⟩⟩
  case round =>
    clear HS hfn
    obtain ⟨k, z, acc, hk, rfl, rfl, hz, hI⟩ := hrel
    have hal := hI.out.1.len hn hv
    by_cases hlt : k < n
    · obtain ⟨p, hp⟩ : ∃ p, ps[k]? = some p := ⟨ps[k]'(by have := HPQ.out.2; omega), List.getElem?_eq_getElem _⟩
      obtain ⟨g, rfl, hcell⟩ := HT.out.cell hI.out.2 hp
      have hpz : (ba p).size + z ≤ 2000002 := by
        have := hI.out.1.size
        rw [drop_get ps k p hp] at this
        simp only [List.flatten_cons, List.length_append] at this
        rw [ba_size]
        omega
      have HP := Lib.hid hp
      have hps2 : (ba p).size = p.length := ba_size p
      have hpl : ∀ a : List UInt8, a ++ bl (ba p) = a ++ p := fun a => by rw [bl_ba]
      have HPL := Lib.hid (And.intro hps2 hpl)
      generalize ba p = pb at *
      clear hp hps2 hpl
      have HW0 : Hid (∀ (wr : World) (h : BuiltAt W wr acc), Calls Tryd.prog 46 #[.pointer (some ⟨w.heap.size + 1, 0, none⟩), .string ⟨#[13, 10]⟩] wr fun e w' => e = .returned (.tuple #[.int .i64 2, .nilIface]) ∧ BuiltAt W w' (acc ++ [13, 10]) ∧ Lib.OthersKept 5 (some (w.heap.size + 1)) wr w') := Lib.hid (fun wr h => by
        have := HWK.out wr acc ⟨#[13, 10]⟩ h (by omega) (by decide)
        exact this)
      have HWP := Lib.hid (fun (wr : World) (a : List UInt8) (h : BuiltAt W wr a) (hl : a.length ≤ 200000000) => HWK.out wr a pb h hl (by omega))
      by_cases hk0 : 0 < k
      · have d0 : (0 : Int) < (k : Int) := by omega
        by_cases h78 : 78 < z + pb.size
        · have d1 : (78 : Int) < (z : Int) + (pb.size : Int) := by omega
          have hpz2 : pb.size ≤ 3000000 := by omega
          have hal2 : (acc ++ [13, 10]).length ≤ 200000000 := by
            rw [List.length_append]
            simp only [List.length_cons, List.length_nil]
            omega
          have HL2 := Lib.hid hal2
          clear hal2
          go_wp2_with fail
          refine (HW0.out _ hI.out.1.built).mono ?_
          rintro e w3 ⟨rfl, hb3, hk3⟩
          have HB3 := Lib.hid (And.intro hb3 (hI.out.2.trans hk3))
          clear hb3 hk3
          go_wp2_with fail
          refine (HWP.out _ _ HB3.out.1 HL2.out).mono ?_
          rintro e w4 ⟨rfl, hb4, hk4⟩
          have HN : Hid (ShAt f W w4 ps (acc ++ [13, 10] ++ p) pb.size (k + 1) ∧ Lib.OthersKept 5 (some (w.heap.size + 1)) w2 w4) := Lib.hid ⟨by
            rw [HPL.out.1]
            refine hI.out.1.fold HP.out hk0 (by rw [← HPL.out.1]; exact h78) ?_
            rw [← HPL.out.2]
            exact hb4, HB3.out.2.trans hk4⟩
          clear hb4 hk4
          go_wp2_with fail
          go_roundw
          case rel => exact ⟨k + 1, pb.size, _, by omega, by simp, by simp, hpz2, HN⟩
          case measure => simp [intOf]; omega
        · have d1 : ¬ (78 : Int) < (z : Int) + (pb.size : Int) := by omega
          have hpz2 : z + pb.size ≤ 3000000 := by omega
          go_wp2_with fail
          refine (HWP.out _ _ hI.out.1.built (by omega)).mono ?_
          rintro e w4 ⟨rfl, hb4, hk4⟩
          have HN : Hid (ShAt f W w4 ps (acc ++ p) (z + pb.size) (k + 1) ∧ Lib.OthersKept 5 (some (w.heap.size + 1)) w2 w4) := Lib.hid ⟨by
            rw [HPL.out.1]
            refine hI.out.1.plain HP.out (by rw [← HPL.out.1]; exact fun h => h78 h.2) ?_
            rw [← HPL.out.2]
            exact hb4, hI.out.2.trans hk4⟩
          clear hb4 hk4
          go_wp2_with fail
          go_roundw
          case rel => exact ⟨k + 1, z + pb.size, _, by omega, by simp, by simp, hpz2, HN⟩
          case measure => simp [intOf]; omega
      · have d0 : ¬ (0 : Int) < (k : Int) := by omega
        have hpz2 : z + pb.size ≤ 3000000 := by omega
        go_wp2_with fail
        refine (HWP.out _ _ hI.out.1.built (by omega)).mono ?_
        rintro e w4 ⟨rfl, hb4, hk4⟩
        have HN : Hid (ShAt f W w4 ps (acc ++ p) (z + pb.size) (k + 1) ∧ Lib.OthersKept 5 (some (w.heap.size + 1)) w2 w4) := Lib.hid ⟨by
          rw [HPL.out.1]
          refine hI.out.1.plain HP.out (fun h => hk0 h.1) ?_
          rw [← HPL.out.2]
          exact hb4, hI.out.2.trans hk4⟩
        clear hb4 hk4
        go_wp2_with fail
        go_roundw
        case rel => exact ⟨k + 1, z + pb.size, _, by omega, by simp, by simp, hpz2, HN⟩
        case measure => simp [intOf]; omega
    · have HE : Hid (acc ++ [13, 10] = showL (bl f.n) (bl f.v)) := Lib.hid (by
        have := hI.out.1.eq
        rw [List.drop_eq_nil_of_le (by have := HPQ.out.2; omega)] at this
        exact this)
      have HW0 : Hid (∀ (wr : World) (h : BuiltAt W wr acc), Calls Tryd.prog 46 #[.pointer (some ⟨w.heap.size + 1, 0, none⟩), .string ⟨#[13, 10]⟩] wr fun e w' => e = .returned (.tuple #[.int .i64 2, .nilIface]) ∧ BuiltAt W w' (acc ++ [13, 10]) ∧ Lib.OthersKept 5 (some (w.heap.size + 1)) wr w') := Lib.hid (fun wr h => by
        have := HWK.out wr acc ⟨#[13, 10]⟩ h (by omega) (by decide)
        exact this)
      go_wp2_with fail
      refine (HW0.out _ hI.out.1.built).mono ?_
      rintro e w3 ⟨rfl, hb3, hk3⟩
      have HB3 := Lib.hid hb3
      clear hb3 hk3
      go_wp2_with fail
      refine (HEN.out _ _ HB3.out).mono ?_
      rintro e w4 ⟨rfl, hb4⟩
      have HB4 := Lib.hid (HA.out.trans (hb4.mono (by have := HZ.out; omega)))
      clear hb4
      go_wp2_with fail
      go_ret
      exact ⟨by rw [← HE.out]; rfl, HB4.out⟩
/-! Print. -/
theorem printL_len : ∀ q : List Fd, (∀ f ∈ q, f.n.size ≤ 10000 ∧ f.v.size ≤ 10000) → (printL q).length ≤ 50000 * q.length
  | [], _ => by simp [printL]
  | f :: q, h => by
    have ih := printL_len q fun g hg => h g (by simp [hg])
    have h1 := showL_len (bl f.n) (bl f.v)
    have h2 := h f (by simp)
    rw [bl_len, bl_len] at h1
    have e : printL (f :: q) = showL (bl f.n) (bl f.v) ++ printL q := by unfold printL; simp
    rw [e, List.length_append, List.length_cons]
    omega
theorem printL_snoc (q : List Fd) (f : Fd) : printL (q ++ [f]) = printL q ++ showL (bl f.n) (bl f.v) := by unfold printL; simp
set_option maxRecDepth 100000 in
set_option maxHeartbeats 2000000 in
theorem print_any (v : Value) (q : List Fd) (w : World) (hv : ReadsF w v q) (hq : q.length ≤ 1000) (hs : ∀ f ∈ q, f.n.size ≤ 10000 ∧ f.v.size ≤ 10000) :
    Calls Tryd.prog 25 #[v] w fun e w' => e = .returned (.string (ba (printL q))) ∧ Below w.heap.size w w' := by
  obtain ⟨va, vc, rfl⟩ := hv.shape
  obtain ⟨n, hn⟩ : ∃ n, n = q.length := ⟨_, rfl⟩
  rw [← hn] at hv hq ⊢
  have HV := Lib.hid (fun k a ha => hv.at_ k a ha)
  have HNN := Lib.hid hn
  have HS := Lib.hid hs
  have HBS := Lib.hid (BuiltAt.start w)
  clear hv hn hs
  go_enter Tryd.func25, Tryd.ntmps25
  go_wp2_with fail
  go_loopw [8] (fun i wr => ∃ k : Nat, k ≤ n ∧ i = .int .i64 k ∧ Hid (BuiltAt w wr (printL (q.take k)))) (fun i _ => n - (intOf i).toNat)
  case atStart => exact ⟨0, Nat.zero_le _, rfl, HBS⟩
  case round =>
    clear HBS
    obtain ⟨k, hk, rfl, hB⟩ := hrel
    by_cases hlt : k < n
    · obtain ⟨f, hf⟩ : ∃ a, q[k]? = some a := ⟨q[k]'(by have := HNN.out; omega), List.getElem?_eq_getElem _⟩
      obtain ⟨b1, o1, rfl, hb1, r1⟩ := HV.out k f hf
      obtain ⟨c0, c1⟩ := two (range_below r1 hb1 hB.out.2)
      have hf2 := HS.out f (List.mem_of_getElem? hf)
      have hal : Below wr.heap.size wr (wr.alloc (boxF fdT f)) := (Below.refl _ _).alloc (Nat.le_refl _) _
      have HB1 := Lib.hid (hB.out.kept hal)
      have HSH := Lib.hid (show_any f (wr.alloc (boxF fdT f)) (by omega) (by omega))
      have HNX : Hid (printL (q.take (k + 1)) = printL (q.take k) ++ showL (bl f.n) (bl f.v)) := Lib.hid (by
        rw [List.take_add_one, hf]
        exact printL_snoc _ _)
      have hsl : (showL (bl f.n) (bl f.v)).length ≤ 50000 := by
        have := showL_len (bl f.n) (bl f.v)
        rw [bl_len, bl_len] at this
        omega
      have hpl : (printL (q.take k)).length ≤ 50000000 := by
        have h1 := printL_len (q.take k) fun g hg => HS.out g (List.mem_of_mem_take hg)
        have h2 : (q.take k).length ≤ 1000 := by rw [List.length_take]; omega
        omega
      generalize showL (bl f.n) (bl f.v) = sh at *
      clear hf hf2 r1
      go_wp2_with fail
      refine HSH.out.mono ?_
      rintro e w1 ⟨rfl, hb⟩
      have HB2 := Lib.hid (HB1.out.kept hb)
      have HW := Lib.hid (wstr w w1 (printL (q.take k)) (ba sh) HB2.out (by omega) (by rw [ba_size]; omega))
      clear hb
      go_wp2_with fail
      refine HW.out.mono ?_
      rintro e w2 ⟨rfl, hb⟩
      have HB3 : Hid (BuiltAt w w2 (printL (q.take (k + 1)))) := Lib.hid (by
        rw [HNX.out]
        rw [show Lex.bl (ba sh) = sh from bl_ba sh] at hb
        exact hb)
      clear hb
      go_wp2_with fail
      go_roundw
      case rel => exact ⟨k + 1, by omega, by simp, HB3⟩
      case measure => simp [intOf]; omega
    · have HE : Hid (printL (q.take k) = printL q) := Lib.hid (by rw [List.take_of_length_le (by have := HNN.out; omega)])
      have HEN := Lib.hid (wend w wr _ hB.out)
      rw [HE.out] at HEN
      go_wp2_with fail
      refine HEN.out.mono ?_
      rintro e w4 ⟨rfl, hb4⟩
      have HB4 := Lib.hid hb4
      clear hb4
      go_wp2_with fail
      go_ret
      exact ⟨rfl, HB4.out⟩
end Go.Proofs.YtpklmlhioklpoaaDoor.Head
