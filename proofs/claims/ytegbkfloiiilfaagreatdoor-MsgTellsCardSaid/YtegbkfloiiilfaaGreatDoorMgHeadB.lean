/-
  Walks of head, the second part.
-/
import Derived.Test.YtegbkfloiiilfaaGreatDoorMgHeadA
import Derived.Lib.MakeNoZero

/-
  Walks: (*strings.Builder).grow and Grow at a builder that has not been written; strings.Join with nothing between.
-/
namespace Go.Proofs.YtegbkfloiiilfaaGreatDoor.Head
open Go Go.RowKit
open Go.Proofs.YtegbkfloiiilfaaGreatDoor.Lex (wstr wend BuiltAt bcheck_fresh bcheck_used)

theorem sizeByte : (Tryz.prog.info? 5).map (·.size) = some 1 := by kernel_rfl
theorem neB5 : (103 : TypeId) ≠ 5 := by decide
set_option maxRecDepth 1000000 in
set_option maxHeartbeats 2000000 in
theorem bgrow_fresh (B b n : Nat) (w : World) (hB : B ≤ b) (hbk : w.heap[b]? = some (.cells #[.pointer (some ⟨b, 0, none⟩), .slice none 0 0] 103 (0, 0))) (hBw : B ≤ w.heap.size) (hn : n ≤ 281474976710656) :
    Calls Tryz.prog 144 #[.pointer (some ⟨b, 0, none⟩), .int .i64 n] w fun e w' => e = .returned (.tuple #[]) ∧ (Lib.BuilderAt 103 5 B b (.pointer (some ⟨b, 0, none⟩)) [] w' ∧ Below B w w') := by
  obtain ⟨cs, hrun, hle, hmax⟩ := Lib.run_makeNoZero (P := Tryz.prog) w.drew #[3] 38 5 Tryz.underlying38 n hn
  have hw : IntKind.i64.wrap (IntKind.i64.wrap 0 + (n : Int)) = n := by
    rw [IntKind.wrap_i64, IntKind.wrap_i64]
    omega
  have hcall : (callFunc 159 #[.int .i64 (IntKind.i64.wrap (IntKind.i64.wrap 0 + (n : Int)))]).run Tryz.prog w.drew = .ok (.value (.slice (some ⟨w.drew.heap.size, 0, none⟩) n cs.size)) (w.drew.drew.drew.alloc (.cells cs 5)) := by
    rw [hw, run_callFunc_extern Tryz.func159 (by kernel_rfl) (by kernel_rfl) (by kernel_rfl) (e := Extern.BytealgMakeNoZero.makeNoZero #[3] #[38]) (by kernel_rfl), hrun]
    rfl
  have hlt : b < w.heap.size := by
    rcases Nat.lt_or_ge b w.heap.size with h' | h'
    · exact h'
    · simp [Array.getElem?_eq_none h'] at hbk
  have c1 : w.drew.cell? ⟨b, 1, none⟩ = some (.slice none 0 0) := by
    have : w.drew.heap[b]? = _ := hbk
    rw [Lib.cell_of_heap this]; rfl
  have c2 : (w.alloc (.cells cs 5)).cell? ⟨b, 1, none⟩ = some (.slice none 0 0) := by
    have : (w.alloc (.cells cs 5)).heap[b]? = _ := (Lib.alloc_old w _ b hlt).trans hbk
    rw [Lib.cell_of_heap this]; rfl
  have f2 : (w.alloc (.cells cs 5)).frozen? ⟨b, 1, none⟩ = false := Lib.frozen_of_heap ((Lib.alloc_old w _ b hlt).trans hbk) 1
  have hcopy : ∀ W : World, (Builtin.copy_ #[38, 38] 3 #[.slice (some ⟨w.heap.size, 0, none⟩) 0 cs.size, .slice none 0 0]).run Tryz.prog W = .ok (goInt 0) W :=
    fun W => run_copy_none W 38 38 3 5 _ _ 0 cs.size 0 0 Tryz.underlying38 sizeByte rfl
  clear hw hlt
  have hfin := Lib.grown_fresh (T := 103) (e := 5) (cs := cs) hB hbk hBw (hmax (by unfold maxLen; omega)) neB5
  go_enter Tryz.func144, Tryz.ntmps144
  go_wp2_with fail
  go_region
  all_goals (go_wp2; go_end0; exact ⟨rfl, hfin⟩)
set_option maxRecDepth 1000000 in
set_option maxHeartbeats 2000000 in
theorem bGrow_fresh (B b n : Nat) (w : World) (hB : B ≤ b) (hbk : w.heap[b]? = some (.cells #[.pointer none, .slice none 0 0] 103 (0, 0))) (hBw : B ≤ w.heap.size) (hn : n ≤ 281474976710656) :
    Calls Tryz.prog 124 #[.pointer (some ⟨b, 0, none⟩), .int .i64 n] w fun e w' => e = .returned (.tuple #[]) ∧ (Lib.BuilderAt 103 5 B b (.pointer (some ⟨b, 0, none⟩)) [] w' ∧ Below B w w') := by
  have hbk1 : (w.setCell ⟨b, 0, none⟩ (.pointer (some ⟨b, 0, none⟩))).heap[b]? = some (.cells #[.pointer (some ⟨b, 0, none⟩), .slice none 0 0] 103 (0, 0)) := by
    simp [World.setCell, Array.getElem?_modify, hbk]
  have c1 : (w.setCell ⟨b, 0, none⟩ (.pointer (some ⟨b, 0, none⟩))).cell? ⟨b, 1, none⟩ = some (.slice none 0 0) := by rw [Lib.cell_of_heap hbk1]; rfl
  have hb1 : Below B w (w.setCell ⟨b, 0, none⟩ (.pointer (some ⟨b, 0, none⟩))) := (Below.refl B w).setCell (p := ⟨b, 0, none⟩) hB _
  have hU : Lib.BuilderAt 103 5 B b (.pointer (some ⟨b, 0, none⟩)) [] (w.setCell ⟨b, 0, none⟩ (.pointer (some ⟨b, 0, none⟩))) := ⟨hB, .slice none 0 0, hbk1, World.ownsRow_nil _ _ _ _, by simp [Value.ownBlock]⟩
  have c1' : (w.setCell ⟨b, 0, none⟩ (.pointer (some ⟨b, 0, none⟩))).drew.cell? ⟨b, 1, none⟩ = some (.slice none 0 0) := c1
  have hCC := Lib.hid (bcheck_fresh b w (by rw [Lib.cell_of_heap hbk]; rfl) (by simp [World.shape?, hbk]) (Lib.frozen_of_heap hbk 0))
  have hGG := Lib.hid (bgrow_fresh B b n (w.setCell ⟨b, 0, none⟩ (.pointer (some ⟨b, 0, none⟩))).drew hB hbk1 (by simpa [World.setCell, World.drew, -World.drew_eq] using hBw) hn)
  go_enter Tryz.func124, Tryz.ntmps124
  go_wp2_with fail
  refine hCC.out.mono ?_
  rintro e w' ⟨rfl, rfl⟩
  go_wp2_with fail
  go_region
  all_goals go_wp2_with (go_at_call 144; refine hGG.out.mono ?_; rintro e w' ⟨rfl, h1, h2⟩)
  all_goals first
    | (go_end0; exact ⟨rfl, h1, hb1.drew.trans h2⟩)
    | (go_end0; exact ⟨rfl, hU.drew, hb1.drew⟩)
def sumS (ws : List ByteArray) : Nat := (ws.map ByteArray.size).sum
theorem sumS_snoc (us : List ByteArray) (x : ByteArray) : sumS (us ++ [x]) = sumS us + x.size := by simp [sumS]
theorem sumS_take (ws : List ByteArray) (k : Nat) : sumS (ws.take k) ≤ sumS ws := by
  have h : sumS ws = sumS (ws.take k) + sumS (ws.drop k) := by
    conv => lhs; rw [← List.take_append_drop k ws]
    unfold sumS
    rw [List.map_append, List.sum_append]
  omega
theorem mem_sumS {ws : List ByteArray} {x : ByteArray} (h : x ∈ ws) : x.size ≤ sumS ws := by
  induction ws with
  | nil => cases h
  | cons u T ih =>
    unfold sumS at *
    simp only [List.map_cons, List.sum_cons] at *
    rcases List.mem_cons.1 h with rfl | h
    · omega
    · have := ih h; omega
def flatL (l : List (List UInt8)) : List UInt8 := l.flatten
theorem flat_one (x : ByteArray) : flatL (([x] : List ByteArray).map bl) = bl x := by simp [flatL]
theorem flat_len (us : List ByteArray) : (flatL (us.map bl)).length = sumS us := by
  unfold flatL sumS
  induction us with
  | nil => rfl
  | cons x us ih => rw [List.map_cons, List.flatten_cons, List.length_append, ih, bl_len, List.map_cons, List.sum_cons]
set_option maxRecDepth 100000 in
set_option maxHeartbeats 4000000 in
theorem joinE_any (v : Value) (ws : List ByteArray) (w : World) (hv : ReadsS w v ws) (hn : ws.length ≤ 1000000) (hz : sumS ws ≤ 100000000) :
    Calls Tryz.prog 96 #[v, .string ⟨#[]⟩] w fun e w' => e = .returned (.string (ba (flatL (ws.map bl)))) ∧ Below w.heap.size w w' := by
  rcases ws with _ | ⟨x, ws⟩
  · obtain ⟨a, c, rfl⟩ : ∃ a c, v = .slice a 0 c := by
      rcases hv with ⟨a, c, rfl, _⟩ | ⟨b, c, rfl, _⟩
      · exact ⟨_, _, rfl⟩
      · exact ⟨_, _, rfl⟩
    go_enter Tryz.func96, Tryz.ntmps96
    go_wp2_with fail
    go_ret
    exact ⟨rfl, Below.refl _ _⟩
  obtain ⟨b, cap, rfl, hc1, hc2, hbw, hread⟩ : ∃ b cap, v = .slice (some ⟨b, 0, none⟩) (x :: ws).length cap ∧ (x :: ws).length ≤ cap ∧ cap ≤ 9223372036854775807 ∧ b < w.heap.size ∧ ∀ i y, (x :: ws)[i]? = some y → w.cell? ⟨b, i, none⟩ = some (.string y) := by
    rcases hv with ⟨a, c, rfl, h⟩ | h
    · cases h
    · exact h
  have h0 := hread 0 x rfl
  have hx : x.size ≤ 100000000 := Nat.le_trans (mem_sumS (by simp)) hz
  rcases ws with _ | ⟨y, ws⟩
  · have HX : Hid (x = ba (flatL (([x] : List ByteArray).map bl))) := Lib.hid (by rw [flat_one, ba_bl])
    clear hv hread
    simp only [List.length_cons, List.length_nil, Nat.zero_add] at hc1 ⊢
    go_enter Tryz.func96, Tryz.ntmps96
    go_wp2_with fail
    go_ret
    exact ⟨by rw [← HX.out]; rfl, Below.refl _ _⟩
  obtain ⟨W, hW⟩ : ∃ W, W = x :: y :: ws := ⟨_, rfl⟩
  have hWx : W[0]? = some x := by rw [hW]; rfl
  rw [← hW] at hc1 hn hz hread ⊢
  have hn2 : 2 ≤ W.length := by rw [hW]; simp
  clear hv hW
  obtain ⟨n, hnn⟩ : ∃ n, n = W.length := ⟨_, rfl⟩
  rw [← hnn] at hc1 hn hn2 ⊢
  obtain ⟨m, hm⟩ : ∃ m, n = m + 1 := ⟨n - 1, by omega⟩
  subst hm
  have HR := Lib.hid hread
  have HL := Lib.hid hnn
  have HZ := Lib.hid hz
  have HB0 := Lib.hid (fun (W' : World) (h : Below w.heap.size w W') => fun i z (hi : W[i]? = some z) => by
    have := hread i z hi
    rw [← h.cell (p := ⟨b, i, none⟩) hbw] at this
    exact this)
  have HWX := Lib.hid hWx
  clear hread hnn hz hWx
  go_enter Tryz.func96, Tryz.ntmps96
  go_wp2_with fail
  go_loopw [5, 41] (fun t i wr => ∃ k : Nat, k ≤ m + 1 ∧ i = .int .i64 k ∧ (∃ t0 : Nat, t = .int .i64 t0 ∧ t0 ≤ 200000000 ∧ Hid (t0 = sumS (W.take k))) ∧ w = wr) (fun _ i _ => m + 1 - (intOf i).toNat)
  case atStart => exact ⟨0, Nat.zero_le _, rfl, ⟨0, rfl, by omega, Lib.hid (by simp [sumS])⟩, rfl⟩
  case round =>
    obtain ⟨k, hk, rfl, ⟨t0, rfl, ht0, hT⟩, rfl⟩ := hrel
    by_cases hlt : k < m + 1
    · obtain ⟨z, hzk⟩ : ∃ z, W[k]? = some z := ⟨W[k]'(by have := HL.out; omega), List.getElem?_eq_getElem _⟩
      have hcell := HR.out k z hzk
      have hzz : z.size ≤ 100000000 := Nat.le_trans (mem_sumS (List.mem_of_getElem? hzk)) HZ.out
      have hstep : sumS (W.take (k + 1)) = sumS (W.take k) + z.size := by
        rw [List.take_add_one, hzk]
        exact sumS_snoc _ _
      have hb1 := sumS_take W (k + 1)
      have ht1 : t0 + z.size ≤ 200000000 := by have := hT.out; have := HZ.out; omega
      have HT := Lib.hid hstep
      clear hstep hb1 hzk
      go_wp2_with fail
      go_roundw
      case rel => exact ⟨k + 1, by omega, by simp, ⟨t0 + z.size, by simp, by omega, Lib.hid (by rw [HT.out, hT.out])⟩, trivial⟩
      case measure => simp [intOf]; omega
    · obtain ⟨hlt0, htz⟩ : k = m + 1 ∧ t0 ≤ 281474976710656 := ⟨by omega, by omega⟩
      subst hlt0
      have hold : (w.alloc (.cells #[.pointer none, .slice none 0 0] 103)).heap[w.heap.size]? = some (.cells #[.pointer none, .slice none 0 0] 103 (0, 0)) := heap_alloc_new w _
      have HG := Lib.hid (bGrow_fresh w.heap.size w.heap.size t0 (w.alloc (.cells #[.pointer none, .slice none 0 0] 103)) (Nat.le_refl _) hold (by simp) htz)
      have HA : Hid (Below w.heap.size w (w.alloc (.cells #[.pointer none, .slice none 0 0] 103))) := Lib.hid ((Below.refl _ _).alloc (Nat.le_refl _) _)
      clear hT hold
      go_wp2_with fail
      refine HG.out.mono ?_
      rintro e w1 ⟨rfl, h1, h2⟩
      have HB1 : Hid (BuiltAt w w1 []) := Lib.hid ⟨.inr h1, HA.out.trans h2⟩
      have hc0 := HB0.out w1 (HA.out.trans h2) 0 x HWX.out
      have HW1 := Lib.hid (wstr w w1 [] x HB1.out (by simp) (by omega))
      clear h1 h2
      go_wp2_with fail
      refine HW1.out.mono ?_
      rintro e w2 ⟨rfl, h3⟩
      have HB2 : Hid (BuiltAt w w2 (flatL ((W.take 1).map bl))) := Lib.hid (by
        have e1 : W.take 1 = [x] := by rw [List.take_add_one, HWX.out]; rfl
        rw [e1, flat_one]
        exact h3)
      clear h3 hc0
      go_wp2_with fail
      go_loopw [65] (fun i wr => ∃ j : Nat, j ≤ m ∧ i = .int .i64 j ∧ Hid (BuiltAt w wr (flatL ((W.take (j + 1)).map bl)))) (fun i _ => m - (intOf i).toNat)
      case atStart => exact ⟨0, Nat.zero_le _, rfl, HB2⟩
      case round =>
        obtain ⟨j, hj, rfl, hB⟩ := hrel
        by_cases hlt2 : j < m
        · obtain ⟨z, hzk⟩ : ∃ z, W[j + 1]? = some z := ⟨W[j + 1]'(by have := HL.out; omega), List.getElem?_eq_getElem _⟩
          have hcell := HB0.out wr hB.out.2 (j + 1) z hzk
          have hzz : z.size ≤ 100000000 := Nat.le_trans (mem_sumS (List.mem_of_getElem? hzk)) HZ.out
          have hacc : (flatL ((W.take (j + 1)).map bl)).length ≤ 500000000 := by
            have h1 := flat_len (W.take (j + 1))
            have h2 := sumS_take W (j + 1)
            have h3 := HZ.out
            omega
          have HN : Hid (flatL ((W.take (j + 1 + 1)).map bl) = flatL ((W.take (j + 1)).map bl) ++ bl z) := Lib.hid (by
            rw [List.take_add_one (i := j + 1), hzk]
            show flatL ((W.take (j + 1) ++ [z]).map bl) = _
            rw [List.map_append]
            simp [flatL])
          have HWA := Lib.hid (wstr w wr _ ⟨#[]⟩ hB.out (by omega) (by decide))
          have hz3 : (flatL ((W.take (j + 1)).map bl) ++ Lex.bl ⟨#[]⟩).length ≤ 600000000 := by
            rw [List.length_append]
            exact Nat.le_trans hacc (by decide)
          have HZ3 := Lib.hid hz3
          rw [show j + 1 = 1 + j by omega] at hcell
          clear hzk hacc hz3
          go_wp2_with fail
          refine HWA.out.mono ?_
          rintro e w3 ⟨rfl, h4⟩
          have HWB := Lib.hid (wstr w w3 _ z h4 (by have := HZ3.out; omega) (by omega))
          clear h4
          go_wp2_with fail
          refine HWB.out.mono ?_
          rintro e w4 ⟨rfl, h5⟩
          have HB5 := Lib.hid h5
          clear h5
          go_wp2_with fail
          go_roundw
          case rel => exact ⟨j + 1, by omega, by simp, Lib.hid (by
            rw [HN.out]
            have h6 := HB5.out
            rw [show Lex.bl ⟨#[]⟩ = [] from rfl, List.append_nil] at h6
            exact h6)⟩
          case measure => simp [intOf]; omega
        · have HE : Hid (W.take (j + 1) = W) := Lib.hid (List.take_of_length_le (by have := HL.out; omega))
          have HW3 := Lib.hid (wend w wr _ hB.out)
          rw [HE.out] at HW3
          go_wp2_with fail
          refine HW3.out.mono ?_
          rintro e w5 ⟨rfl, hb5⟩
          have HB5 := Lib.hid hb5
          clear hb5
          go_wp2_with fail
          go_ret
          exact ⟨rfl, HB5.out⟩
end Go.Proofs.YtegbkfloiiilfaaGreatDoor.Head

/-
  Walks: join, Parse.
-/
namespace Go.Proofs.YtegbkfloiiilfaaGreatDoor.Head
open Go Go.RowKit

def rawL (ls : List ByteArray) : List UInt8 := flatL (ls.map bl)
def joinF (F : List (List ByteArray)) : List Fd := F.map fun ls => fld (rawL ls)
/-- A list of fields that the call has made; what lay there before. -/
def FdsAt (w wr : World) (v : Value) (q : List Fd) : Prop := wr.ownsRow w.heap.size fdT 2 v q.length (q.flatMap fdC) ∧ Below w.heap.size w wr
theorem FdsAt.start (w : World) : FdsAt w w (.slice none 0 0) [] := ⟨World.ownsRow_nil _ _ _ _, Below.refl _ _⟩
theorem FdsAt.on {w wr w' : World} {v : Value} {q : List Fd} (h : FdsAt w wr v q) (hb : Below wr.heap.size wr w') : FdsAt w w' v q := ⟨owns_below h.1 hb, h.2.trans (hb.mono h.2.size)⟩
theorem pre_le (l : List UInt8) : (pre l).length ≤ l.length := (List.takeWhile_sublist _).length_le
theorem post_le (l : List UInt8) : (post l).length ≤ l.length := by
  unfold post
  have := (List.dropWhile_sublist (fun x : UInt8 => x != 58) (l := l)).length_le
  rw [List.length_drop]
  omega
set_option maxRecDepth 100000 in
set_option maxHeartbeats 2000000 in
theorem join_any (ov : Value) (F : List (List ByteArray)) (w : World) (hv : ReadsG w ov F) (hm : MaxAt w) (hF : F.length ≤ 1000000) (hc : ∀ ls ∈ F, ls.length ≤ 1000000 ∧ sumS ls ≤ 100000000) :
    Calls Tryz.prog 65 #[ov] w fun e w' => ∃ v, e = .returned v ∧ FdsAt w w' v (joinF F) := by
  obtain ⟨n, hn⟩ : ∃ n, n = F.length := ⟨_, rfl⟩
  obtain ⟨oa, oc, rfl⟩ : ∃ a c, ov = .slice a n c := by
    rcases hv with ⟨a, c, rfl, rfl⟩ | ⟨b, c, rfl, _⟩
    · exact ⟨a, c, by rw [hn]; rfl⟩
    · exact ⟨_, c, by rw [hn]⟩
  have HV : Hid (∀ i ls, F[i]? = some ls → ∃ b, oa = some ⟨b, 0, none⟩ ∧ b < w.heap.size ∧ ∃ v, w.cell? ⟨b, i, none⟩ = some v ∧ ReadsS w v ls) := Lib.hid (by
    intro i ls hi
    rcases hv with ⟨a, c, _, h⟩ | ⟨b, c, h, h1, h2⟩
    · rw [h] at hi; simp at hi
    · obtain ⟨rfl, _, _⟩ := Value.slice.inj h
      exact ⟨b, rfl, h1, h2 i ls hi⟩)
  have HS := Lib.hid (FdsAt.start w)
  have HC := Lib.hid hc
  have HM := Lib.hid hm
  have HN := Lib.hid hn
  have hn1 : n ≤ 1000000 := by omega
  clear hv hc hm hn hF
  go_enter Tryz.func65, Tryz.ntmps65
  go_wp2_with fail
  go_loopw [3, 11] (fun u i wr => ∃ k : Nat, k ≤ n ∧ i = .int .i64 k ∧ Hid (FdsAt w wr u ((joinF F).take k))) (fun _ i _ => n - (intOf i).toNat)
  case atStart => exact ⟨0, Nat.zero_le _, rfl, HS⟩
  case round =>
    clear HS
    obtain ⟨k, hk, rfl, hB⟩ := hrel
    obtain ⟨ua, uc, rfl⟩ := owns_slice hB.out.1
    have hlk : ((joinF F).take k).length = k := by rw [List.length_take]; unfold joinF; rw [List.length_map]; have := HN.out; omega
    rw [hlk] at hB ⊢
    by_cases hlt : k < n
    · obtain ⟨ls, hls⟩ : ∃ a, F[k]? = some a := ⟨F[k]'(by have := HN.out; omega), List.getElem?_eq_getElem _⟩
      obtain ⟨b, rfl, hb, v, hcv, hrv⟩ := HV.out k ls hls
      have hcell : wr.cell? ⟨b, k, none⟩ = some v := by rw [hB.out.2.cell (p := ⟨b, k, none⟩) hb]; exact hcv
      have hc := HC.out ls (List.mem_of_getElem? hls)
      have hraw : (rawL ls).length ≤ 100000000 := by
        unfold rawL
        rw [flat_len]
        exact hc.2
      have hne : (joinF F).take (k + 1) = (joinF F).take k ++ [⟨ba (pre (rawL ls)), ba (trimL (post (rawL ls)))⟩] := by
        rw [List.take_add_one]
        congr 1
        unfold joinF
        rw [List.getElem?_map, hls]
        rfl
      have HJ := Lib.hid (joinE_any v ls wr (hrv.below hB.out.2) hc.1 hc.2)
      rw [show flatL (ls.map bl) = rawL ls from rfl] at HJ
      have HNE := Lib.hid hne
      obtain ⟨r, hr⟩ : ∃ r, r = rawL ls := ⟨_, rfl⟩
      rw [← hr] at HJ HNE hraw
      clear hcv hrv hc hls hne hr
      go_wp2_with fail
      refine HJ.out.mono ?_
      rintro e w1 ⟨rfl, hb1⟩
      have HB1 := Lib.hid (hB.out.on hb1)
      have HCU := Lib.hid (cutC_any (ba r) w1 (by rw [ba_size]; omega) (HM.out.below HB1.out.2))
      rw [bl_ba] at HCU
      have HT := Lib.hid (fun W => trim_any (ba (post r)) W (by rw [ba_size]; have := post_le r; omega))
      rw [bl_ba] at HT
      clear hb1
      generalize r.contains 58 = cb at *
      generalize ba (post r) = pr at *
      generalize ba (pre r) = nm at *
      generalize ba (trimL (post r)) = vl at *
      generalize ba r = br at *
      clear hraw
      go_wp2_with fail
      refine HCU.out.mono ?_
      rintro e w2 ⟨rfl, hb2⟩
      have HB2 := Lib.hid (HB1.out.on hb2)
      clear hb2
      go_wp2_with fail
      refine (HT.out _).mono ?_
      rintro e w3 ⟨rfl, hb3⟩
      have HB3 := Lib.hid (HB2.out.on hb3)
      clear hb3
      obtain ⟨a', c', w4, hr, hh⟩ := append_oneF k (us := (joinF F).take k) hlk w3 w.heap.size (.slice ua k uc) ⟨nm, vl⟩ (by have := HB3.out.1; rw [hlk] at this; exact this) (by omega) HB3.out.2.size
      have HR := Lib.hid hr
      have HN2 : Hid (FdsAt w w4 (.slice a' (k + 1) c') ((joinF F).take (k + 1))) := Lib.hid (by
        rw [HNE.out]
        refine ⟨?_, HB3.out.2.trans hh.out.2⟩
        rw [List.length_append, hlk]
        exact hh.out.1)
      clear hr hh hlk
      go_wp2_with (at_builtin; refine Lib.wpList_append_run _ rfl _ _ _ _ rfl _ _ rfl rfl _ _ HR.out ?_)
      go_roundw
      case rel => exact ⟨k + 1, by omega, by simp, HN2⟩
      case measure => simp [intOf]; omega
    · have HE : Hid (FdsAt w wr (.slice ua k uc) (joinF F)) := Lib.hid (by
        have e : (joinF F).take k = joinF F := List.take_of_length_le (by unfold joinF; rw [List.length_map]; have := HN.out; omega)
        have h := hB.out
        rw [e] at h
        exact h)
      clear hlk
      go_wp2_with fail
      go_ret
      exact ⟨_, rfl, HE.out⟩

/-! Parse. -/
def costF (F : List (List ByteArray)) : Nat := (F.map fun ls => ls.length + sumS ls).sum
theorem mem_cost {F : List (List ByteArray)} {ls : List ByteArray} (h : ls ∈ F) : ls.length + sumS ls ≤ costF F := by
  unfold costF
  induction F with
  | nil => cases h
  | cons u T ih =>
    simp only [List.map_cons, List.sum_cons]
    rcases List.mem_cons.1 h with rfl | h
    · omega
    · have := ih h; omega
theorem cost_push (F : List (List ByteArray)) (x : ByteArray) : costF (F ++ [[x]]) = costF F + x.size + 1 := by
  unfold costF
  simp [sumS]
  omega
theorem cost_last (G : List (List ByteArray)) (us : List ByteArray) (x : ByteArray) : costF (G ++ [us ++ [x]]) = costF (G ++ [us]) + x.size + 1 := by
  unfold costF
  simp [sumS]
  omega
theorem raw_push (F : List (List ByteArray)) (x : ByteArray) (h : hdB (bl x) = false) : (F ++ [[x]]).map rawL = add (F.map rawL) (bl x) := by
  unfold add
  rw [h, if_neg (by decide)]
  simp [rawL, flatL]
theorem raw_last (G : List (List ByteArray)) (us : List ByteArray) (x : ByteArray) (h : hdB (bl x) = true) : (G ++ [us ++ [x]]).map rawL = add ((G ++ [us]).map rawL) (bl x) := by
  unfold add
  rw [h, if_pos rfl]
  simp [rawL, flatL]
theorem joinF_map (F : List (List ByteArray)) : joinF F = (F.map rawL).map fld := by
  unfold joinF
  rw [List.map_map]
  rfl
structure PsAt (s : ByteArray) (w wr : World) (rest : ByteArray) (ov : Value) (vs : List Value) (F : List (List ByteArray)) : Prop where
  eq : prsA [] (bl s) = prsA (F.map rawL) (bl rest)
  grid : GridAt w.heap.size wr ov vs F
  cost : costF F + rest.size ≤ s.size
  few : F.length ≤ 100
  below : Below w.heap.size w wr
/-- What Parse answers. -/
def PsPost (s : ByteArray) (w : World) : Ending → World → Prop := fun e w' => ∃ v, e = .returned (.tuple #[v, .string (ba (parseB (bl s))), .int .i64 (parseC (bl s))]) ∧ FdsAt w w' v (parseF (bl s))
theorem PsPost.bad {s : ByteArray} {w w' : World} {c : Nat} (h : prsA [] (bl s) = (c, [], [])) (hb : Below w.heap.size w w') : PsPost s w (.returned (.tuple #[.slice none 0 0, .string ⟨#[]⟩, .int .i64 c])) w' := by
  refine ⟨.slice none 0 0, ?_, ?_⟩
  · unfold parseB parseC
    rw [h]
  · unfold parseF
    rw [h]
    exact ⟨World.ownsRow_nil _ _ _ _, hb⟩
theorem PsPost.good {s : ByteArray} {w w1 w' : World} {F : List (List ByteArray)} {b : List UInt8} {v : Value} (h : prsA [] (bl s) = (0, F.map rawL, b)) (hw : Below w.heap.size w w1) (hf : FdsAt w1 w' v (joinF F)) : PsPost s w (.returned (.tuple #[v, .string (ba b), .int .i64 0])) w' := by
  refine ⟨v, ?_, ?_⟩
  · unfold parseB parseC
    rw [h]
    rfl
  · unfold parseF
    rw [h]
    simp only
    rw [← joinF_map]
    refine ⟨?_, hw.trans (hf.2.mono hw.size)⟩
    rcases hf.1 with ⟨h1, h2⟩
    refine ⟨h1, ?_⟩
    rcases h2 with h2 | ⟨g, cap, cur, h3, h4, h5⟩
    · exact .inl h2
    · exact .inr ⟨g, cap, cur, h3, Nat.le_trans hw.size h4, h5⟩
set_option maxRecDepth 100000 in
set_option maxHeartbeats 4000000 in
theorem parse_any (s : ByteArray) (w : World) (hs : s.size ≤ 1000000) (hm : MaxAt w) :
    Calls Tryz.prog 37 #[.string s] w (PsPost s w) := by
  have HI : Hid (PsAt s w w s (.slice none 0 0) [] []) := Lib.hid ⟨rfl, GridAt.start _ _, by simp [costF], by simp, Below.refl _ _⟩
  have HM := Lib.hid hm
  clear hm
  go_enter Tryz.func37, Tryz.ntmps37
  go_wp2_with fail
  go_loopw [0, 5] (fun s0 ov wr => ∃ (rest : ByteArray) (vs : List Value) (F : List (List ByteArray)), s0 = .string rest ∧ Hid (PsAt s w wr rest ov vs F)) (fun s0 _ _ => Lib.strSize s0)
  case atStart => exact ⟨s, [], [], rfl, HI⟩
  case round =>
    clear HI
    obtain ⟨rest, vs, F, rfl, hP⟩ := hrel
    obtain ⟨oa, oc, rfl⟩ := owns_slice hP.out.grid.outer
    obtain ⟨n, hn⟩ : ∃ n, n = F.length := ⟨_, rfl⟩
    have hn1 : n ≤ 100 := by rw [hn]; exact hP.out.few
    have hrs : rest.size ≤ 1000000 := by have := hP.out.cost; omega
    have hq := empty_any rest
    have HJ : Hid (∀ w1, Below wr.heap.size wr w1 → Calls Tryz.prog 65 #[.slice oa n oc] w1 fun e w' => ∃ v, e = .returned v ∧ FdsAt w1 w' v (joinF F)) := Lib.hid (fun w1 hb => by
      have hg := hP.out.grid.reads.below hb
      rw [← hn] at hg
      refine join_any _ F w1 hg (HM.out.below (hP.out.below.trans (hb.mono hP.out.below.size))) (by omega) fun ls hls => ?_
      have h1 := mem_cost hls
      have h2 := hP.out.cost
      omega)
    rw [← hn]
    have HNN := Lib.hid hn
    clear hn
    cases hr : bl rest with
    | nil =>
      rw [hr] at hq
      rw [show ([] : List UInt8).isEmpty = true from rfl] at hq
      have HE : Hid (prsA [] (bl s) = (0, F.map rawL, [])) := Lib.hid (by rw [hP.out.eq, hr, prsA_nil])
      have HJ0 := Lib.hid (HJ.out wr (Below.refl _ _))
      clear hr
      go_wp2_with fail
      refine HJ0.out.mono ?_
      rintro e w1 ⟨v, rfl, hf⟩
      have HF := Lib.hid hf
      clear hf
      go_wp2_with fail
      go_ret3
      exact PsPost.good HE.out hP.out.below HF.out
    | cons c0 t0 =>
      have hne : bl rest ≠ [] := by rw [hr]; simp
      rw [hr] at hq
      rw [show (c0 :: t0 : List UInt8).isEmpty = false from rfl] at hq
      clear hr
      cases hc : cut2 (bl rest) with
      | none =>
        have HE : Hid (prsA [] (bl s) = (9, [], [])) := Lib.hid (by rw [hP.out.eq, prsA_short hne hc])
        have HC := Lib.hid (cutN_any rest wr (by omega) (HM.out.below hP.out.below) hc)
        clear hne hc
        go_wp2_with fail
        refine HC.out.mono ?_
        rintro e w1 ⟨rfl, hb⟩
        have HB := Lib.hid (hP.out.below.trans (hb.mono hP.out.below.size))
        clear hb
        go_wp2_with fail
        go_ret3
        exact PsPost.bad HE.out HB.out
      | some p =>
        obtain ⟨t, r⟩ := p
        have HC := Lib.hid (cutS_any rest t r wr (by omega) (HM.out.below hP.out.below) hc)
        have hlen := cut2_len hc
        rw [bl_len] at hlen
        have htq := empty_any (ba t)
        rw [bl_ba] at htq
        by_cases htn : t = []
        · subst htn
          rw [show ([] : List UInt8).isEmpty = true from rfl] at htq
          have HE : Hid (prsA [] (bl s) = (0, F.map rawL, r)) := Lib.hid (by rw [hP.out.eq, prsA_end hc])
          clear hne hc
          go_wp2_with fail
          refine HC.out.mono ?_
          rintro e w1 ⟨rfl, hb⟩
          have HJ1 := Lib.hid (HJ.out w1 hb)
          have HB := Lib.hid (hP.out.below.trans (hb.mono hP.out.below.size))
          clear hb
          go_wp2_with fail
          refine HJ1.out.mono ?_
          rintro e w2 ⟨v, rfl, hf⟩
          have HF := Lib.hid hf
          clear hf
          go_wp2_with fail
          go_ret3
          exact PsPost.good HE.out HB.out HF.out
        · have hte : t.isEmpty = false := by
            cases t with
            | nil => exact absurd rfl htn
            | cons c1 t1 => rfl
          rw [hte] at htq
          clear hte
          have hts : 0 < (ba t).size := by rw [ba_size]; exact List.length_pos_iff.2 htn
          have hts2 : (ba t).size ≤ 1000000 := by rw [ba_size]; omega
          have HK : Hid (∀ W, MaxAt W → Calls Tryz.prog 66 #[.string (ba t), .int .i64 n] W fun e w' => e = .returned (.int .i64 (chk t n)) ∧ Below W.heap.size W w') := Lib.hid (fun W h => by
            have := check_any (ba t) n W hts (by omega) (by omega) h
            rw [bl_ba] at this
            exact this)
          by_cases hk : chk t n = 0
          · have hcz := chk_zero hk
            have hnext : prsA [] (bl s) = prsA (add (F.map rawL) t) r := by
              rw [hP.out.eq, prsA_next hc htn (by rw [List.length_map, ← HNN.out]; exact hk)]
            have HBL := Lib.hid (fun W => blank_any ((ba t)[0]'hts) W)
            have hhd := hd_get (ba t) hts
            rw [bl_ba] at hhd
            rw [← hhd] at HBL
            rw [hk] at HK
            cases hh : hdB t
            · rw [hh] at HBL
              have hfew : n + 1 ≤ 100 := by
                have := (hcz.2.2.2 hh).2
                omega
              have HNX : Hid (prsA [] (bl s) = prsA ((F ++ [[ba t]]).map rawL) (bl (ba r)) ∧ costF (F ++ [[ba t]]) + (ba r).size ≤ s.size) := Lib.hid (by
                refine ⟨?_, ?_⟩
                · rw [raw_push F (ba t) (by rw [bl_ba]; exact hh), bl_ba, bl_ba, hnext]
                · rw [cost_push, ba_size, ba_size]
                  have := hP.out.cost
                  omega)
              have hrr : (ba r).size < rest.size := by rw [ba_size]; omega
              clear hne hc htn hcz hnext hhd hh hlen
              generalize ba t = bt at *
              generalize ba r = br at *
              clear hk
              go_wp2_with fail
              refine HC.out.mono ?_
              rintro e w1 ⟨rfl, hb⟩
              have HP1 := Lib.hid (And.intro (hP.out.grid.on hb) (hP.out.below.trans (hb.mono hP.out.below.size)))
              clear hb
              go_wp2_with fail
              refine (HK.out _ (HM.out.below HP1.out.2)).mono ?_
              rintro e w2 ⟨rfl, hb⟩
              have HP2 := Lib.hid (And.intro (HP1.out.1.on hb) (HP1.out.2.trans (hb.mono HP1.out.2.size)))
              clear hb
              go_wp2_with fail
              refine (HBL.out _).mono ?_
              rintro e w3 ⟨rfl, rfl⟩
              have hg := HP2.out.1
              rw [← HNN.out] at hg
              obtain ⟨a', c', w4, hr2, hh2⟩ := hg.push n HNN.out.symm bt (by omega) HP2.out.2.size
              have HR := Lib.hid hr2
              have HN2 : Hid (PsAt s w w4 br (.slice a' (n + 1) c') (vs ++ [.slice (some ⟨w2.heap.size, 0, none⟩) 1 1]) (F ++ [[bt]])) := Lib.hid ⟨HNX.out.1, hh2.out.1, HNX.out.2, by rw [List.length_append, ← HNN.out]; exact hfew, HP2.out.2.trans hh2.out.2⟩
              clear hr2 hh2 hg
              go_wp2_with (at_builtin; refine Lib.wpList_append_run _ rfl _ _ _ _ rfl _ _ rfl rfl _ _ HR.out ?_)
              go_roundw
              case rel => exact ⟨br, _, _, rfl, HN2⟩
              case measure => exact hrr
            · rw [hh] at HBL
              have hn0 : n ≠ 0 := hcz.2.2.1 hh
              obtain ⟨k, hkn⟩ : ∃ k, n = k + 1 := ⟨n - 1, by omega⟩
              obtain ⟨G, us, hGu⟩ : ∃ G us, F = G ++ [us] := by
                have : F ≠ [] := by intro e; have h9 := HNN.out; rw [e] at h9; exact hn0 h9
                exact ⟨F.dropLast, F.getLast this, (List.dropLast_concat_getLast this).symm⟩
              subst hGu
              have hGk : G.length = k := by have h9 := HNN.out; simp at h9; omega
              have HNX : Hid (prsA [] (bl s) = prsA ((G ++ [us ++ [ba t]]).map rawL) (bl (ba r)) ∧ costF (G ++ [us ++ [ba t]]) + (ba r).size ≤ s.size) := Lib.hid (by
                refine ⟨?_, ?_⟩
                · rw [raw_last G us (ba t) (by rw [bl_ba]; exact hh), bl_ba, bl_ba, hnext]
                · rw [cost_last, ba_size, ba_size]
                  have := hP.out.cost
                  omega)
              have hus : us.length ≤ 1000000 := by
                have h1 := mem_cost (F := G ++ [us]) (ls := us) (by simp)
                have h2 := hP.out.cost
                omega
              have hrr : (ba r).size < rest.size := by rw [ba_size]; omega
              clear hne hc htn hcz hnext hhd hh hlen
              generalize ba t = bt at *
              generalize ba r = br at *
              clear hk
              subst hkn
              have hsub : ((k + 1 : Nat) : Int) - 1 = (k : Int) := by omega
              go_wp2_with fail
              refine HC.out.mono ?_
              rintro e w1 ⟨rfl, hb⟩
              have HP1 := Lib.hid (And.intro (hP.out.grid.on hb) (hP.out.below.trans (hb.mono hP.out.below.size)))
              clear hb
              go_wp2_with fail
              refine (HK.out _ (HM.out.below HP1.out.2)).mono ?_
              rintro e w2 ⟨rfl, hb⟩
              have HP2 := Lib.hid (And.intro (HP1.out.1.on hb) (HP1.out.2.trans (hb.mono HP1.out.2.size)))
              clear hb
              go_wp2_with fail
              refine (HBL.out _).mono ?_
              rintro e w3 ⟨rfl, rfl⟩
              have hg := HP2.out.1
              rw [← HNN.out] at hg
              obtain ⟨b, c, v, a, d, w4, he, hbB, hcell, ⟨va, vc, rfl⟩, hr2, hfro, hcell4, hh2⟩ := hg.last bt hus HP2.out.2.size k hGk
              obtain ⟨rfl, _, rfl⟩ := Value.slice.inj he
              have hcell2 : (w2.alloc (.cells #[.string bt] strT)).cell? ⟨b, k, none⟩ = some (.slice va us.length vc) := by
                rw [((Below.refl w2.heap.size w2).alloc (Nat.le_refl _) (.cells #[.string bt] strT)).cell (p := ⟨b, k, none⟩) (cell_lt hcell)]
                exact hcell
              have HR := Lib.hid hr2
              have HN2 : Hid (PsAt s w (w4.setCell ⟨b, k, none⟩ (.slice a (us.length + 1) d)) br (.slice (some ⟨b, 0, none⟩) (k + 1) oc) (vs.set k (.slice a (us.length + 1) d)) (G ++ [us ++ [bt]])) := Lib.hid ⟨HNX.out.1, hh2.out.1, HNX.out.2, by have := hP.out.few; simpa using this, HP2.out.2.trans hh2.out.2⟩
              clear hr2 hh2 hg he
              go_wp2_with (at_builtin; refine Lib.wpList_append_run _ rfl _ _ _ _ rfl _ _ rfl rfl _ _ HR.out ?_)
              go_roundw
              case rel => exact ⟨br, _, _, rfl, HN2⟩
              case measure => exact hrr
          · have HE : Hid (prsA [] (bl s) = (chk t n, [], [])) := Lib.hid (by
              rw [hP.out.eq, prsA_bad hc htn (by rw [List.length_map, ← HNN.out]; exact hk), List.length_map, ← HNN.out])
            have hkq : ((chk t n : Int) != 0) = true := by rw [bne_iff_ne]; omega
            have hcl : chk t n ≤ 1000 := by unfold chk; (repeat' split) <;> omega
            clear hne hc htn hk
            generalize chk t n = ck at *
            generalize ba t = bt at *
            generalize ba r = br at *
            go_wp2_with fail
            refine HC.out.mono ?_
            rintro e w1 ⟨rfl, hb⟩
            have HB := Lib.hid (hP.out.below.trans (hb.mono hP.out.below.size))
            clear hb
            go_wp2_with fail
            refine (HK.out _ (HM.out.below HB.out)).mono ?_
            rintro e w2 ⟨rfl, hb⟩
            have HB2 := Lib.hid (HB.out.trans (hb.mono HB.out.size))
            clear hb
            go_wp2_with fail
            go_ret3
            exact PsPost.bad HE.out HB2.out
end Go.Proofs.YtegbkfloiiilfaaGreatDoor.Head
