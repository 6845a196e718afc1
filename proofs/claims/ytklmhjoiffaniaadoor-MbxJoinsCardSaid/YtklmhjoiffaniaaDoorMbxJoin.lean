/-
  Walks: (*strings.Builder).grow and Grow at a builder that has not been written; strings.Join.
-/
import Derived.Test.YtklmhjoiffaniaaDoorMbxSplit
import Derived.Lib.MakeNoZero
namespace Go.Proofs.YtklmhjoiffaniaaDoor.Mbx
open Go Go.RowKit
open Go.Proofs.YtklmhjoiffaniaaDoor.Lex

theorem sizeByte : (Tryd.prog.info? 5).map (·.size) = some 1 := by kernel_rfl
theorem neB5 : (90 : TypeId) ≠ 5 := by decide
set_option maxRecDepth 1000000 in
set_option maxHeartbeats 2000000 in
theorem bgrow_fresh (B b n : Nat) (w : World) (hB : B ≤ b) (hbk : w.heap[b]? = some (.cells #[.pointer (some ⟨b, 0, none⟩), .slice none 0 0] 90 (0, 0))) (hBw : B ≤ w.heap.size) (hn : n ≤ 281474976710656) :
    Calls Tryd.prog 70 #[.pointer (some ⟨b, 0, none⟩), .int .i64 n] w fun e w' => e = .returned (.tuple #[]) ∧ (Lib.BuilderAt 90 5 B b (.pointer (some ⟨b, 0, none⟩)) [] w' ∧ Below B w w') := by
  obtain ⟨cs, hrun, hle, hmax⟩ := Lib.run_makeNoZero (P := Tryd.prog) w.drew #[3] 88 5 Tryd.underlying88 n hn
  have hw : IntKind.i64.wrap (IntKind.i64.wrap 0 + (n : Int)) = n := by
    rw [IntKind.wrap_i64, IntKind.wrap_i64]
    omega
  have hcall : (callFunc 83 #[.int .i64 (IntKind.i64.wrap (IntKind.i64.wrap 0 + (n : Int)))]).run Tryd.prog w.drew = .ok (.value (.slice (some ⟨w.drew.heap.size, 0, none⟩) n cs.size)) (w.drew.drew.drew.alloc (.cells cs 5)) := by
    rw [hw, run_callFunc_extern Tryd.func83 (by kernel_rfl) (by kernel_rfl) (by kernel_rfl) (e := Extern.BytealgMakeNoZero.makeNoZero #[3] #[88]) (by kernel_rfl), hrun]
    rfl
  have hlt : b < w.heap.size := by
    rcases Nat.lt_or_ge b w.heap.size with h' | h'
    · exact h'
    · simp [Array.getElem?_eq_none h'] at hbk
  have c1 : w.drew.cell? ⟨b, 1, none⟩ = some (.slice none 0 0) := by
    have : w.drew.heap[b]? = _ := hbk
    rw [Lib.cell_of_heap this]; rfl
  have c2 : (w.alloc (.cells cs 5)).cell? ⟨b, 1, none⟩ = some (.slice none 0 0) := by
    have : (w.alloc (.cells cs 5)).heap[b]? = _ := (Lib.alloc_old w _ b hlt).trans hbk
    rw [Lib.cell_of_heap this]; rfl
  have f2 : (w.alloc (.cells cs 5)).frozen? ⟨b, 1, none⟩ = false := Lib.frozen_of_heap ((Lib.alloc_old w _ b hlt).trans hbk) 1
  have hcopy : ∀ W : World, (Builtin.copy_ #[88, 88] 3 #[.slice (some ⟨w.heap.size, 0, none⟩) 0 cs.size, .slice none 0 0]).run Tryd.prog W = .ok (goInt 0) W :=
    fun W => run_copy_none W 88 88 3 5 _ _ 0 cs.size 0 0 Tryd.underlying88 sizeByte rfl
  clear hw hlt
  have hfin := Lib.grown_fresh (T := 90) (e := 5) (cs := cs) hB hbk hBw (hmax (by unfold maxLen; omega)) neB5
  go_enter Tryd.func70, Tryd.ntmps70
  go_wp2_with fail
  go_region
  all_goals (go_wp2; go_end0; exact ⟨rfl, hfin⟩)
set_option maxRecDepth 1000000 in
set_option maxHeartbeats 2000000 in
theorem bGrow_fresh (B b n : Nat) (w : World) (hB : B ≤ b) (hbk : w.heap[b]? = some (.cells #[.pointer none, .slice none 0 0] 90 (0, 0))) (hBw : B ≤ w.heap.size) (hn : n ≤ 281474976710656) :
    Calls Tryd.prog 53 #[.pointer (some ⟨b, 0, none⟩), .int .i64 n] w fun e w' => e = .returned (.tuple #[]) ∧ (Lib.BuilderAt 90 5 B b (.pointer (some ⟨b, 0, none⟩)) [] w' ∧ Below B w w') := by
  have hbk1 : (w.setCell ⟨b, 0, none⟩ (.pointer (some ⟨b, 0, none⟩))).heap[b]? = some (.cells #[.pointer (some ⟨b, 0, none⟩), .slice none 0 0] 90 (0, 0)) := by
    simp [World.setCell, Array.getElem?_modify, hbk]
  have c1 : (w.setCell ⟨b, 0, none⟩ (.pointer (some ⟨b, 0, none⟩))).cell? ⟨b, 1, none⟩ = some (.slice none 0 0) := by rw [Lib.cell_of_heap hbk1]; rfl
  have hb1 : Below B w (w.setCell ⟨b, 0, none⟩ (.pointer (some ⟨b, 0, none⟩))) := (Below.refl B w).setCell (p := ⟨b, 0, none⟩) hB _
  have hU : Lib.BuilderAt 90 5 B b (.pointer (some ⟨b, 0, none⟩)) [] (w.setCell ⟨b, 0, none⟩ (.pointer (some ⟨b, 0, none⟩))) := ⟨hB, .slice none 0 0, hbk1, World.ownsRow_nil _ _ _ _, by simp [Value.ownBlock]⟩
  have c1' : (w.setCell ⟨b, 0, none⟩ (.pointer (some ⟨b, 0, none⟩))).drew.cell? ⟨b, 1, none⟩ = some (.slice none 0 0) := c1
  have hCC := Lib.hid (bcheck_fresh b w (by rw [Lib.cell_of_heap hbk]; rfl) (by simp [World.shape?, hbk]) (Lib.frozen_of_heap hbk 0))
  have hGG := Lib.hid (bgrow_fresh B b n (w.setCell ⟨b, 0, none⟩ (.pointer (some ⟨b, 0, none⟩))).drew hB hbk1 (by simpa [World.setCell, World.drew, -World.drew_eq] using hBw) hn)
  go_enter Tryd.func53, Tryd.ntmps53
  go_wp2_with fail
  refine hCC.out.mono ?_
  rintro e w' ⟨rfl, rfl⟩
  go_wp2_with fail
  go_region
  all_goals go_wp2_with (go_at_call 70; refine hGG.out.mono ?_; rintro e w' ⟨rfl, h1, h2⟩)
  all_goals first
    | (go_end0; exact ⟨rfl, h1, hb1.drew.trans h2⟩)
    | (go_end0; exact ⟨rfl, hU.drew, hb1.drew⟩)
end Go.Proofs.YtklmhjoiffaniaaDoor.Mbx

namespace Go.Proofs.YtklmhjoiffaniaaDoor.Mbx
open Go Go.RowKit
open Go.Proofs.YtklmhjoiffaniaaDoor.Lex
open Go.Proofs.YtklmhjoiffaniaaDoor.Addr (strT infoS ReadsP append_str)

/-- The value is a slice that reads as these strings. -/
def ReadsS (w : World) (v : Value) (ws : List ByteArray) : Prop :=
  (∃ a cap, v = .slice a 0 cap ∧ ws = []) ∨
  (∃ b cap, v = .slice (some ⟨b, 0, none⟩) ws.length cap ∧ ws.length ≤ cap ∧ cap ≤ 9223372036854775807 ∧ b < w.heap.size ∧ ∀ i x, ws[i]? = some x → w.cell? ⟨b, i, none⟩ = some (.string x))
section
variable {w w' : World} {v : Value} {q : List ByteArray}
theorem ReadsS.below (h : ReadsS w v q) (hb : Below w.heap.size w w') : ReadsS w' v q := by
  rcases h with h | ⟨b, cap, rfl, h1, h2, h3, h4⟩
  · exact .inl h
  · exact .inr ⟨b, cap, rfl, h1, h2, by have := hb.size; omega, fun i e hi => by rw [hb.cell (p := ⟨b, i, none⟩) h3]; exact h4 i e hi⟩
theorem owns_readsS {B : Nat} (h : w.ownsRow B strT 1 v q.length (q.map Value.string)) : ReadsS w v q := by
  have hc := fun g hg => h.cells (g := g) hg
  have hlt := h.lt
  rcases h.2 with ⟨rfl, hn⟩ | ⟨g, cap, cur, rfl, hb, hg, h1, h2, _, _⟩
  · exact .inl ⟨_, _, rfl, List.length_eq_zero_iff.1 hn⟩
  · refine .inr ⟨g, cap, rfl, h1, by unfold maxLen at h2; omega, (hlt g rfl).2, fun i e hi => ?_⟩
    have e1 := hc g rfl i (.string e) (by rw [List.getElem?_map, hi]; rfl)
    rw [addr_add, Nat.zero_add] at e1
    exact e1
end
theorem joinS_snoc (sep : List UInt8) : ∀ (us : List (List UInt8)) (x : List UInt8), us ≠ [] → joinS sep (us ++ [x]) = joinS sep us ++ (sep ++ x)
  | [], _, h => absurd rfl h
  | [p], x, _ => rfl
  | p :: q :: r, x, _ => by
    have ih := joinS_snoc sep (q :: r) x (by simp)
    show p ++ (sep ++ joinS sep ((q :: r) ++ [x])) = (p ++ (sep ++ joinS sep (q :: r))) ++ (sep ++ x)
    rw [ih]
    simp
def sumS (ws : List ByteArray) : Nat := (ws.map ByteArray.size).sum
theorem sumS_snoc (us : List ByteArray) (x : ByteArray) : sumS (us ++ [x]) = sumS us + x.size := by simp [sumS]
theorem sumS_take (ws : List ByteArray) (k : Nat) : sumS (ws.take k) ≤ sumS ws := by
  have h : sumS ws = sumS (ws.take k) + sumS (ws.drop k) := by
    conv => lhs; rw [← List.take_append_drop k ws]
    unfold sumS
    rw [List.map_append, List.sum_append]
  omega
theorem mem_sumS {ws : List ByteArray} {x : ByteArray} (h : x ∈ ws) : x.size ≤ sumS ws := by
  induction ws with
  | nil => cases h
  | cons u T ih =>
    unfold sumS at *
    simp only [List.map_cons, List.sum_cons] at *
    rcases List.mem_cons.1 h with rfl | h
    · omega
    · have := ih h; omega
theorem joinS_len (sep : List UInt8) : ∀ us : List ByteArray, (joinS sep (us.map bl)).length ≤ sumS us + sep.length * us.length
  | [] => by simp [joinS, sumS]
  | [p] => by
    simp only [List.map_cons, List.map_nil, joinS, sumS, List.sum_cons, List.sum_nil, bl_len, List.length_cons, List.length_nil]
    omega
  | p :: q :: r => by
    have ih := joinS_len sep (q :: r)
    have e : joinS sep ((p :: q :: r).map bl) = bl p ++ (sep ++ joinS sep ((q :: r).map bl)) := rfl
    rw [e, List.length_append, List.length_append, bl_len]
    have e2 : sumS (p :: q :: r) = p.size + sumS (q :: r) := by simp [sumS]
    rw [e2, List.length_cons, Nat.mul_succ]
    omega
set_option maxRecDepth 100000 in
set_option maxHeartbeats 4000000 in
theorem join_any (v : Value) (ws : List ByteArray) (sep : ByteArray) (w : World) (hv : ReadsS w v ws) (hn : ws.length ≤ 1000000) (hs0 : 0 < sep.size) (hs : sep.size ≤ 100) (hz : sumS ws ≤ 100000000) :
    Calls Tryd.prog 29 #[v, .string sep] w fun e w' => e = .returned (.string (ba (joinS (bl sep) (ws.map bl)))) ∧ Below w.heap.size w w' := by
  rcases ws with _ | ⟨x, ws⟩
  · obtain ⟨a, c, rfl⟩ : ∃ a c, v = .slice a 0 c := by
      rcases hv with ⟨a, c, rfl, _⟩ | ⟨b, c, rfl, _⟩
      · exact ⟨_, _, rfl⟩
      · exact ⟨_, _, rfl⟩
    go_enter Tryd.func29, Tryd.ntmps29
    go_wp2_with fail
    go_ret
    exact ⟨rfl, Below.refl _ _⟩
  obtain ⟨b, cap, rfl, hc1, hc2, hbw, hread⟩ : ∃ b cap, v = .slice (some ⟨b, 0, none⟩) (x :: ws).length cap ∧ (x :: ws).length ≤ cap ∧ cap ≤ 9223372036854775807 ∧ b < w.heap.size ∧ ∀ i y, (x :: ws)[i]? = some y → w.cell? ⟨b, i, none⟩ = some (.string y) := by
    rcases hv with ⟨a, c, rfl, h⟩ | h
    · cases h
    · exact h
  have h0 := hread 0 x rfl
  have hx : x.size ≤ 100000000 := Nat.le_trans (mem_sumS (by simp)) hz
  rcases ws with _ | ⟨y, ws⟩
  · have HX : Hid (x = ba (joinS (bl sep) (([x] : List ByteArray).map bl))) := Lib.hid (ba_bl x).symm
    clear hv hread
    simp only [List.length_cons, List.length_nil, Nat.zero_add] at hc1 ⊢
    go_enter Tryd.func29, Tryd.ntmps29
    go_wp2_with fail
    go_ret
    exact ⟨by rw [← HX.out]; rfl, Below.refl _ _⟩
  obtain ⟨W, hW⟩ : ∃ W, W = x :: y :: ws := ⟨_, rfl⟩
  have hWx : W[0]? = some x := by rw [hW]; rfl
  rw [← hW] at hc1 hn hz hread ⊢
  have hn2 : 2 ≤ W.length := by rw [hW]; simp
  clear hv hW
  obtain ⟨n, hnn⟩ : ∃ n, n = W.length := ⟨_, rfl⟩
  rw [← hnn] at hc1 hn hn2 ⊢
  obtain ⟨m, hm⟩ : ∃ m, n = m + 1 := ⟨n - 1, by omega⟩
  subst hm
  obtain ⟨M, hM⟩ : ∃ M, M = sep.size * m := ⟨_, rfl⟩
  have hM2 : M ≤ 100000000 := by
    rw [hM]
    exact Nat.le_trans (Nat.mul_le_mul hs (show m ≤ 1000000 by omega)) (by decide)
  have hmul : (sep.size : Int) * (m : Int) = (M : Int) := by rw [hM]; simp
  have hsub : ((m + 1 : Nat) : Int) - 1 = (m : Int) := by omega
  obtain ⟨Q, hQ⟩ : ∃ Q : Nat, Q = 9223372036854775807 / m := ⟨_, rfl⟩
  have hq : (9223372036854775807 : Int).tdiv (m : Int) = (Q : Int) := by
    rw [hQ]
    rfl
  have hQ2 : sep.size < Q := by
    rw [hQ]
    have : 9223372036854775807 / m ≥ 9223372036854775807 / 1000000 := Nat.div_le_div_left (by omega) (by omega)
    omega
  have hQ3 : Q ≤ 9223372036854775807 := by
    rw [hQ]
    exact Nat.div_le_self _ _
  have HR := Lib.hid hread
  have HL := Lib.hid hnn
  have HZ := Lib.hid hz
  have HB0 := Lib.hid (fun (W' : World) (h : Below w.heap.size w W') => fun i z (hi : W[i]? = some z) => by
    have := hread i z hi
    rw [← h.cell (p := ⟨b, i, none⟩) hbw] at this
    exact this)
  have HWX := Lib.hid hWx
  clear hM hQ hread hnn hz hWx
  go_enter Tryd.func29, Tryd.ntmps29
  go_wp2_with fail
  go_loopw [5, 41] (fun t i wr => ∃ k : Nat, k ≤ m + 1 ∧ i = .int .i64 k ∧ (∃ t0 : Nat, t = .int .i64 t0 ∧ t0 ≤ 200000000 ∧ Hid (t0 = M + sumS (W.take k))) ∧ w = wr) (fun _ i _ => m + 1 - (intOf i).toNat)
  case atStart => exact ⟨0, Nat.zero_le _, rfl, ⟨M, rfl, by omega, Lib.hid (by simp [sumS])⟩, rfl⟩
  case round =>
    obtain ⟨k, hk, rfl, ⟨t0, rfl, ht0, hT⟩, rfl⟩ := hrel
    by_cases hlt : k < m + 1
    · obtain ⟨z, hzk⟩ : ∃ z, W[k]? = some z := ⟨W[k]'(by have := HL.out; omega), List.getElem?_eq_getElem _⟩
      have hcell := HR.out k z hzk
      have hzz : z.size ≤ 100000000 := Nat.le_trans (mem_sumS (List.mem_of_getElem? hzk)) HZ.out
      have hstep : sumS (W.take (k + 1)) = sumS (W.take k) + z.size := by
        rw [List.take_add_one, hzk]
        exact sumS_snoc _ _
      have hb1 := sumS_take W (k + 1)
      have ht1 : t0 + z.size ≤ 200000000 := by have := hT.out; have := HZ.out; omega
      have HT := Lib.hid hstep
      clear hstep hb1 hzk
      go_wp2_with fail
      go_roundw
      case rel => exact ⟨k + 1, by omega, by simp, ⟨t0 + z.size, by simp, by omega, Lib.hid (by rw [HT.out, hT.out]; omega)⟩, trivial⟩
      case measure => simp [intOf]; omega
    · obtain ⟨hlt0, htz⟩ : k = m + 1 ∧ t0 ≤ 281474976710656 := ⟨by omega, by omega⟩
      subst hlt0
      have hold : (w.alloc (.cells #[.pointer none, .slice none 0 0] 90)).heap[w.heap.size]? = some (.cells #[.pointer none, .slice none 0 0] 90 (0, 0)) := heap_alloc_new w _
      have HG := Lib.hid (bGrow_fresh w.heap.size w.heap.size t0 (w.alloc (.cells #[.pointer none, .slice none 0 0] 90)) (Nat.le_refl _) hold (by simp) htz)
      have HA : Hid (Below w.heap.size w (w.alloc (.cells #[.pointer none, .slice none 0 0] 90))) := Lib.hid ((Below.refl _ _).alloc (Nat.le_refl _) _)
      clear hT hold
      go_wp2_with fail
      refine HG.out.mono ?_
      rintro e w1 ⟨rfl, h1, h2⟩
      have HB1 : Hid (BuiltAt w w1 []) := Lib.hid ⟨.inr h1, HA.out.trans h2⟩
      have hc0 := HB0.out w1 (HA.out.trans h2) 0 x HWX.out
      have HW1 := Lib.hid (wstr w w1 [] x HB1.out (by simp) (by omega))
      clear h1 h2
      go_wp2_with fail
      refine HW1.out.mono ?_
      rintro e w2 ⟨rfl, h3⟩
      have HB2 : Hid (BuiltAt w w2 (joinS (bl sep) ((W.take 1).map bl))) := Lib.hid (by
        have e1 : W.take 1 = [x] := by rw [List.take_add_one, HWX.out]; rfl
        rw [e1]
        exact h3)
      clear h3 hc0
      go_wp2_with fail
      go_loopw [65] (fun i wr => ∃ j : Nat, j ≤ m ∧ i = .int .i64 j ∧ Hid (BuiltAt w wr (joinS (bl sep) ((W.take (j + 1)).map bl)))) (fun i _ => m - (intOf i).toNat)
      case atStart => exact ⟨0, Nat.zero_le _, rfl, HB2⟩
      case round =>
        obtain ⟨j, hj, rfl, hB⟩ := hrel
        by_cases hlt2 : j < m
        · obtain ⟨z, hzk⟩ : ∃ z, W[j + 1]? = some z := ⟨W[j + 1]'(by have := HL.out; omega), List.getElem?_eq_getElem _⟩
          have hcell := HB0.out wr hB.out.2 (j + 1) z hzk
          have hzz : z.size ≤ 100000000 := Nat.le_trans (mem_sumS (List.mem_of_getElem? hzk)) HZ.out
          have hacc : (joinS (bl sep) ((W.take (j + 1)).map bl)).length ≤ 500000000 := by
            have h1 := joinS_len (bl sep) (W.take (j + 1))
            have h2 := sumS_take W (j + 1)
            have h3 := HZ.out
            have h4 : (bl sep).length * (W.take (j + 1)).length ≤ 100 * 1000001 := Nat.mul_le_mul (by rw [bl_len]; exact hs) (by rw [List.length_take]; omega)
            omega
          have HN : Hid (joinS (bl sep) ((W.take (j + 1 + 1)).map bl) = joinS (bl sep) ((W.take (j + 1)).map bl) ++ (bl sep ++ bl z)) := Lib.hid (by
            rw [List.take_add_one (i := j + 1), hzk]
            show joinS (bl sep) ((W.take (j + 1) ++ [z]).map bl) = _
            rw [List.map_append]
            refine joinS_snoc _ _ _ ?_
            intro h
            have := congrArg List.length h
            rw [List.length_map, List.length_take, List.length_nil] at this
            have := HL.out
            omega)
          have HWA := Lib.hid (wstr w wr _ sep hB.out (by omega) (by omega))
          have hz3 : (joinS (bl sep) ((W.take (j + 1)).map bl) ++ bl sep).length ≤ 600000000 := by
            rw [List.length_append, bl_len]; omega
          have HZ3 := Lib.hid hz3
          rw [show j + 1 = 1 + j by omega] at hcell
          clear hzk hacc hz3
          go_wp2_with fail
          refine HWA.out.mono ?_
          rintro e w3 ⟨rfl, h4⟩
          have HWB := Lib.hid (wstr w w3 _ z h4 (by have := HZ3.out; omega) (by omega))
          clear h4
          go_wp2_with fail
          refine HWB.out.mono ?_
          rintro e w4 ⟨rfl, h5⟩
          have HB5 := Lib.hid h5
          clear h5
          go_wp2_with fail
          go_roundw
          case rel => exact ⟨j + 1, by omega, by simp, Lib.hid (by rw [HN.out, ← List.append_assoc]; exact HB5.out)⟩
          case measure => simp [intOf]; omega
        · have HE : Hid (W.take (j + 1) = W) := Lib.hid (List.take_of_length_le (by have := HL.out; omega))
          have HW3 := Lib.hid (wend w wr _ hB.out)
          rw [HE.out] at HW3
          go_wp2_with fail
          refine HW3.out.mono ?_
          rintro e w5 ⟨rfl, hb5⟩
          have HB5 := Lib.hid hb5
          clear hb5
          go_wp2_with fail
          go_ret
          exact ⟨rfl, HB5.out⟩
end Go.Proofs.YtklmhjoiffaniaaDoor.Mbx
