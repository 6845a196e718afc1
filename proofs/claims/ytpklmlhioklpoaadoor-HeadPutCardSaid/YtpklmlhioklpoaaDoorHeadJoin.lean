/-
  Walks: (*strings.Builder).grow and Grow at a builder that has not been written; strings.Join with nothing between.
-/
import Derived.Test.YtpklmlhioklpoaaDoorHeadMem
import Derived.Lib.MakeNoZero
namespace Go.Proofs.YtpklmlhioklpoaaDoor.Head
open Go Go.RowKit
open Go.Proofs.YtpklmlhioklpoaaDoor.Lex (wstr wend BuiltAt bcheck_fresh bcheck_used)

theorem sizeByte : (Tryd.prog.info? 5).map (·.size) = some 1 := by kernel_rfl
theorem neB5 : (73 : TypeId) ≠ 5 := by decide
set_option maxRecDepth 1000000 in
set_option maxHeartbeats 2000000 in
theorem bgrow_fresh (B b n : Nat) (w : World) (hB : B ≤ b) (hbk : w.heap[b]? = some (.cells #[.pointer (some ⟨b, 0, none⟩), .slice none 0 0] 73 (0, 0))) (hBw : B ≤ w.heap.size) (hn : n ≤ 281474976710656) :
    Calls Tryd.prog 77 #[.pointer (some ⟨b, 0, none⟩), .int .i64 n] w fun e w' => e = .returned (.tuple #[]) ∧ (Lib.BuilderAt 73 5 B b (.pointer (some ⟨b, 0, none⟩)) [] w' ∧ Below B w w') := by
  obtain ⟨cs, hrun, hle, hmax⟩ := Lib.run_makeNoZero (P := Tryd.prog) w.drew #[3] 32 5 Tryd.underlying32 n hn
  have hw : IntKind.i64.wrap (IntKind.i64.wrap 0 + (n : Int)) = n := by
    rw [IntKind.wrap_i64, IntKind.wrap_i64]
    omega
  have hcall : (callFunc 87 #[.int .i64 (IntKind.i64.wrap (IntKind.i64.wrap 0 + (n : Int)))]).run Tryd.prog w.drew = .ok (.value (.slice (some ⟨w.drew.heap.size, 0, none⟩) n cs.size)) (w.drew.drew.drew.alloc (.cells cs 5)) := by
    rw [hw, run_callFunc_extern Tryd.func87 (by kernel_rfl) (by kernel_rfl) (by kernel_rfl) (e := Extern.BytealgMakeNoZero.makeNoZero #[3] #[32]) (by kernel_rfl), hrun]
    rfl
  have hlt : b < w.heap.size := by
    rcases Nat.lt_or_ge b w.heap.size with h' | h'
    · exact h'
    · simp [Array.getElem?_eq_none h'] at hbk
  have c1 : w.drew.cell? ⟨b, 1, none⟩ = some (.slice none 0 0) := by
    have : w.drew.heap[b]? = _ := hbk
    rw [Lib.cell_of_heap this]; rfl
  have c2 : (w.alloc (.cells cs 5)).cell? ⟨b, 1, none⟩ = some (.slice none 0 0) := by
    have : (w.alloc (.cells cs 5)).heap[b]? = _ := (Lib.alloc_old w _ b hlt).trans hbk
    rw [Lib.cell_of_heap this]; rfl
  have f2 : (w.alloc (.cells cs 5)).frozen? ⟨b, 1, none⟩ = false := Lib.frozen_of_heap ((Lib.alloc_old w _ b hlt).trans hbk) 1
  have hcopy : ∀ W : World, (Builtin.copy_ #[32, 32] 3 #[.slice (some ⟨w.heap.size, 0, none⟩) 0 cs.size, .slice none 0 0]).run Tryd.prog W = .ok (goInt 0) W :=
    fun W => run_copy_none W 32 32 3 5 _ _ 0 cs.size 0 0 Tryd.underlying32 sizeByte rfl
  clear hw hlt
  have hfin := Lib.grown_fresh (T := 73) (e := 5) (cs := cs) hB hbk hBw (hmax (by unfold maxLen; omega)) neB5
  go_enter Tryd.func77, Tryd.ntmps77
  go_wp2_with fail
  go_region
  all_goals (go_wp2; go_end0; exact ⟨rfl, hfin⟩)
set_option maxRecDepth 1000000 in
set_option maxHeartbeats 2000000 in
theorem bGrow_fresh (B b n : Nat) (w : World) (hB : B ≤ b) (hbk : w.heap[b]? = some (.cells #[.pointer none, .slice none 0 0] 73 (0, 0))) (hBw : B ≤ w.heap.size) (hn : n ≤ 281474976710656) :
    Calls Tryd.prog 62 #[.pointer (some ⟨b, 0, none⟩), .int .i64 n] w fun e w' => e = .returned (.tuple #[]) ∧ (Lib.BuilderAt 73 5 B b (.pointer (some ⟨b, 0, none⟩)) [] w' ∧ Below B w w') := by
  have hbk1 : (w.setCell ⟨b, 0, none⟩ (.pointer (some ⟨b, 0, none⟩))).heap[b]? = some (.cells #[.pointer (some ⟨b, 0, none⟩), .slice none 0 0] 73 (0, 0)) := by
    simp [World.setCell, Array.getElem?_modify, hbk]
  have c1 : (w.setCell ⟨b, 0, none⟩ (.pointer (some ⟨b, 0, none⟩))).cell? ⟨b, 1, none⟩ = some (.slice none 0 0) := by rw [Lib.cell_of_heap hbk1]; rfl
  have hb1 : Below B w (w.setCell ⟨b, 0, none⟩ (.pointer (some ⟨b, 0, none⟩))) := (Below.refl B w).setCell (p := ⟨b, 0, none⟩) hB _
  have hU : Lib.BuilderAt 73 5 B b (.pointer (some ⟨b, 0, none⟩)) [] (w.setCell ⟨b, 0, none⟩ (.pointer (some ⟨b, 0, none⟩))) := ⟨hB, .slice none 0 0, hbk1, World.ownsRow_nil _ _ _ _, by simp [Value.ownBlock]⟩
  have c1' : (w.setCell ⟨b, 0, none⟩ (.pointer (some ⟨b, 0, none⟩))).drew.cell? ⟨b, 1, none⟩ = some (.slice none 0 0) := c1
  have hCC := Lib.hid (bcheck_fresh b w (by rw [Lib.cell_of_heap hbk]; rfl) (by simp [World.shape?, hbk]) (Lib.frozen_of_heap hbk 0))
  have hGG := Lib.hid (bgrow_fresh B b n (w.setCell ⟨b, 0, none⟩ (.pointer (some ⟨b, 0, none⟩))).drew hB hbk1 (by simpa [World.setCell, World.drew, -World.drew_eq] using hBw) hn)
  go_enter Tryd.func62, Tryd.ntmps62
  go_wp2_with fail
  refine hCC.out.mono ?_
  rintro e w' ⟨rfl, rfl⟩
  go_wp2_with fail
  go_region
  all_goals go_wp2_with (go_at_call 77; refine hGG.out.mono ?_; rintro e w' ⟨rfl, h1, h2⟩)
  all_goals first
    | (go_end0; exact ⟨rfl, h1, hb1.drew.trans h2⟩)
    | (go_end0; exact ⟨rfl, hU.drew, hb1.drew⟩)
def sumS (ws : List ByteArray) : Nat := (ws.map ByteArray.size).sum
theorem sumS_snoc (us : List ByteArray) (x : ByteArray) : sumS (us ++ [x]) = sumS us + x.size := by simp [sumS]
theorem sumS_take (ws : List ByteArray) (k : Nat) : sumS (ws.take k) ≤ sumS ws := by
  have h : sumS ws = sumS (ws.take k) + sumS (ws.drop k) := by
    conv => lhs; rw [← List.take_append_drop k ws]
    unfold sumS
    rw [List.map_append, List.sum_append]
  omega
theorem mem_sumS {ws : List ByteArray} {x : ByteArray} (h : x ∈ ws) : x.size ≤ sumS ws := by
  induction ws with
  | nil => cases h
  | cons u T ih =>
    unfold sumS at *
    simp only [List.map_cons, List.sum_cons] at *
    rcases List.mem_cons.1 h with rfl | h
    · omega
    · have := ih h; omega
def flatL (l : List (List UInt8)) : List UInt8 := l.flatten
theorem flat_one (x : ByteArray) : flatL (([x] : List ByteArray).map bl) = bl x := by simp [flatL]
theorem flat_len (us : List ByteArray) : (flatL (us.map bl)).length = sumS us := by
  unfold flatL sumS
  induction us with
  | nil => rfl
  | cons x us ih => rw [List.map_cons, List.flatten_cons, List.length_append, ih, bl_len, List.map_cons, List.sum_cons]
set_option maxRecDepth 100000 in
set_option maxHeartbeats 4000000 in
theorem joinE_any (v : Value) (ws : List ByteArray) (w : World) (hv : ReadsS w v ws) (hn : ws.length ≤ 1000000) (hz : sumS ws ≤ 100000000) :
    Calls Tryd.prog 51 #[v, .string ⟨#[]⟩] w fun e w' => e = .returned (.string (ba (flatL (ws.map bl)))) ∧ Below w.heap.size w w' := by
  rcases ws with _ | ⟨x, ws⟩
  · obtain ⟨a, c, rfl⟩ : ∃ a c, v = .slice a 0 c := by
      rcases hv with ⟨a, c, rfl, _⟩ | ⟨b, c, rfl, _⟩
      · exact ⟨_, _, rfl⟩
      · exact ⟨_, _, rfl⟩
    go_enter Tryd.func51, Tryd.ntmps51
    go_wp2_with fail
    go_ret
    exact ⟨rfl, Below.refl _ _⟩
  obtain ⟨b, cap, rfl, hc1, hc2, hbw, hread⟩ : ∃ b cap, v = .slice (some ⟨b, 0, none⟩) (x :: ws).length cap ∧ (x :: ws).length ≤ cap ∧ cap ≤ 9223372036854775807 ∧ b < w.heap.size ∧ ∀ i y, (x :: ws)[i]? = some y → w.cell? ⟨b, i, none⟩ = some (.string y) := by
    rcases hv with ⟨a, c, rfl, h⟩ | h
    · cases h
    · exact h
  have h0 := hread 0 x rfl
  have hx : x.size ≤ 100000000 := Nat.le_trans (mem_sumS (by simp)) hz
  rcases ws with _ | ⟨y, ws⟩
  · have HX : Hid (x = ba (flatL (([x] : List ByteArray).map bl))) := Lib.hid (by rw [flat_one, ba_bl])
    clear hv hread
    simp only [List.length_cons, List.length_nil, Nat.zero_add] at hc1 ⊢
    go_enter Tryd.func51, Tryd.ntmps51
    go_wp2_with fail
    go_ret
    exact ⟨by rw [← HX.out]; rfl, Below.refl _ _⟩
  obtain ⟨W, hW⟩ : ∃ W, W = x :: y :: ws := ⟨_, rfl⟩
  have hWx : W[0]? = some x := by rw [hW]; rfl
  rw [← hW] at hc1 hn hz hread ⊢
  have hn2 : 2 ≤ W.length := by rw [hW]; simp
  clear hv hW
  obtain ⟨n, hnn⟩ : ∃ n, n = W.length := ⟨_, rfl⟩
  rw [← hnn] at hc1 hn hn2 ⊢
  obtain ⟨m, hm⟩ : ∃ m, n = m + 1 := ⟨n - 1, by omega⟩
  subst hm
  have HR := Lib.hid hread
  have HL := Lib.hid hnn
  have HZ := Lib.hid hz
  have HB0 := Lib.hid (fun (W' : World) (h : Below w.heap.size w W') => fun i z (hi : W[i]? = some z) => by
    have := hread i z hi
    rw [← h.cell (p := ⟨b, i, none⟩) hbw] at this
    exact this)
  have HWX := Lib.hid hWx
  clear hread hnn hz hWx
  go_enter Tryd.func51, Tryd.ntmps51
  go_wp2_with fail
  go_loopw [5, 41] (fun t i wr => ∃ k : Nat, k ≤ m + 1 ∧ i = .int .i64 k ∧ (∃ t0 : Nat, t = .int .i64 t0 ∧ t0 ≤ 200000000 ∧ Hid (t0 = sumS (W.take k))) ∧ w = wr) (fun _ i _ => m + 1 - (intOf i).toNat)
  case atStart => exact ⟨0, Nat.zero_le _, rfl, ⟨0, rfl, by omega, Lib.hid (by simp [sumS])⟩, rfl⟩
  case round =>
    obtain ⟨k, hk, rfl, ⟨t0, rfl, ht0, hT⟩, rfl⟩ := hrel
    by_cases hlt : k < m + 1
    · obtain ⟨z, hzk⟩ : ∃ z, W[k]? = some z := ⟨W[k]'(by have := HL.out; omega), List.getElem?_eq_getElem _⟩
      have hcell := HR.out k z hzk
      have hzz : z.size ≤ 100000000 := Nat.le_trans (mem_sumS (List.mem_of_getElem? hzk)) HZ.out
      have hstep : sumS (W.take (k + 1)) = sumS (W.take k) + z.size := by
        rw [List.take_add_one, hzk]
        exact sumS_snoc _ _
      have hb1 := sumS_take W (k + 1)
      have ht1 : t0 + z.size ≤ 200000000 := by have := hT.out; have := HZ.out; omega
      have HT := Lib.hid hstep
      clear hstep hb1 hzk
      go_wp2_with fail
      go_roundw
      case rel => exact ⟨k + 1, by omega, by simp, ⟨t0 + z.size, by simp, by omega, Lib.hid (by rw [HT.out, hT.out])⟩, trivial⟩
      case measure => simp [intOf]; omega
    · obtain ⟨hlt0, htz⟩ : k = m + 1 ∧ t0 ≤ 281474976710656 := ⟨by omega, by omega⟩
      subst hlt0
      have hold : (w.alloc (.cells #[.pointer none, .slice none 0 0] 73)).heap[w.heap.size]? = some (.cells #[.pointer none, .slice none 0 0] 73 (0, 0)) := heap_alloc_new w _
      have HG := Lib.hid (bGrow_fresh w.heap.size w.heap.size t0 (w.alloc (.cells #[.pointer none, .slice none 0 0] 73)) (Nat.le_refl _) hold (by simp) htz)
      have HA : Hid (Below w.heap.size w (w.alloc (.cells #[.pointer none, .slice none 0 0] 73))) := Lib.hid ((Below.refl _ _).alloc (Nat.le_refl _) _)
      clear hT hold
      go_wp2_with fail
      refine HG.out.mono ?_
      rintro e w1 ⟨rfl, h1, h2⟩
      have HB1 : Hid (BuiltAt w w1 []) := Lib.hid ⟨.inr h1, HA.out.trans h2⟩
      have hc0 := HB0.out w1 (HA.out.trans h2) 0 x HWX.out
      have HW1 := Lib.hid (wstr w w1 [] x HB1.out (by simp) (by omega))
      clear h1 h2
      go_wp2_with fail
      refine HW1.out.mono ?_
      rintro e w2 ⟨rfl, h3⟩
      have HB2 : Hid (BuiltAt w w2 (flatL ((W.take 1).map bl))) := Lib.hid (by
        have e1 : W.take 1 = [x] := by rw [List.take_add_one, HWX.out]; rfl
        rw [e1, flat_one]
        exact h3)
      clear h3 hc0
      go_wp2_with fail
      go_loopw [65] (fun i wr => ∃ j : Nat, j ≤ m ∧ i = .int .i64 j ∧ Hid (BuiltAt w wr (flatL ((W.take (j + 1)).map bl)))) (fun i _ => m - (intOf i).toNat)
      case atStart => exact ⟨0, Nat.zero_le _, rfl, HB2⟩
      case round =>
        obtain ⟨j, hj, rfl, hB⟩ := hrel
        by_cases hlt2 : j < m
        · obtain ⟨z, hzk⟩ : ∃ z, W[j + 1]? = some z := ⟨W[j + 1]'(by have := HL.out; omega), List.getElem?_eq_getElem _⟩
          have hcell := HB0.out wr hB.out.2 (j + 1) z hzk
          have hzz : z.size ≤ 100000000 := Nat.le_trans (mem_sumS (List.mem_of_getElem? hzk)) HZ.out
          have hacc : (flatL ((W.take (j + 1)).map bl)).length ≤ 500000000 := by
            have h1 := flat_len (W.take (j + 1))
            have h2 := sumS_take W (j + 1)
            have h3 := HZ.out
            omega
          have HN : Hid (flatL ((W.take (j + 1 + 1)).map bl) = flatL ((W.take (j + 1)).map bl) ++ bl z) := Lib.hid (by
            rw [List.take_add_one (i := j + 1), hzk]
            show flatL ((W.take (j + 1) ++ [z]).map bl) = _
            rw [List.map_append]
            simp [flatL])
          have HWA := Lib.hid (wstr w wr _ ⟨#[]⟩ hB.out (by omega) (by decide))
          have hz3 : (flatL ((W.take (j + 1)).map bl) ++ Lex.bl ⟨#[]⟩).length ≤ 600000000 := by
            rw [List.length_append]
            exact Nat.le_trans hacc (by decide)
          have HZ3 := Lib.hid hz3
          rw [show j + 1 = 1 + j by omega] at hcell
          clear hzk hacc hz3
          go_wp2_with fail
          refine HWA.out.mono ?_
          rintro e w3 ⟨rfl, h4⟩
          have HWB := Lib.hid (wstr w w3 _ z h4 (by have := HZ3.out; omega) (by omega))
          clear h4
          go_wp2_with fail
          refine HWB.out.mono ?_
          rintro e w4 ⟨rfl, h5⟩
          have HB5 := Lib.hid h5
          clear h5
          go_wp2_with fail
          go_roundw
          case rel => exact ⟨j + 1, by omega, by simp, Lib.hid (by
            rw [HN.out]
            have h6 := HB5.out
            rw [show Lex.bl ⟨#[]⟩ = [] from rfl, List.append_nil] at h6
            exact h6)⟩
          case measure => simp [intOf]; omega
        · have HE : Hid (W.take (j + 1) = W) := Lib.hid (List.take_of_length_le (by have := HL.out; omega))
          have HW3 := Lib.hid (wend w wr _ hB.out)
          rw [HE.out] at HW3
          go_wp2_with fail
          refine HW3.out.mono ?_
          rintro e w5 ⟨rfl, hb5⟩
          have HB5 := Lib.hid hb5
          clear hb5
          go_wp2_with fail
          go_ret
          exact ⟨rfl, HB5.out⟩
end Go.Proofs.YtpklmlhioklpoaaDoor.Head
