/-
  The document's digest.
-/
import Derived.Test.YtnndifkilcommaaDoorShaPad
import Derived.Test.YtnndifkilcommaaDoorShaOneA
import Derived.Test.YtnndifkilcommaaDoorShaWalkC
namespace Go.Proofs.YtnndifkilcommaaDoor.Sha
open Go Go.RowKit

theorem padded_mod (m : List UInt8) : (padded m).length % 64 = 0 := by
  unfold padded padOf
  have : (lenBytes (8 * m.length)).length = 8 := rfl
  simp [this]
  omega
theorem padded_le (m : List UInt8) : (padded m).length ≤ m.length + 72 := by
  unfold padded padOf
  have : (lenBytes (8 * m.length)).length = 8 := rfl
  simp [this]
  omega
theorem init_okB : initSt.Ok := ⟨by decide, by decide, by decide, by decide, by decide, by decide, by decide, by decide⟩
theorem comp_okB (m : List UInt8) : ∀ n, (comp m n).Ok
  | 0 => init_okB
  | _ + 1 => blockSt_ok _ _
/- Four bytes of a row that was just laid. -/
theorem four_laid (w : World) (a b c d : Nat) : (convert 30 9 (.slice (some ⟨w.heap.size, 0, none⟩) 4 4)).run Tryd.prog (w.alloc (.cells #[.int .u8 a, .int .u8 b, .int .u8 c, .int .u8 d] 5)) = .ok (.string (ba [byt a, byt b, byt c, byt d])) (w.alloc (.cells #[.int .u8 a, .int .u8 b, .int .u8 c, .int .u8 d] 5)) := by
  have hN := Holds.new w #[.int .u8 a, .int .u8 b, .int .u8 c, .int .u8 d] 5
  have h := run_convert_bytes_arg (P := Tryd.prog) (w.alloc (.cells #[.int .u8 a, .int .u8 b, .int .u8 c, .int .u8 d] 5)) 30 5 Tryd.underlying30 Tryd.underlying5 w.heap.size 0 4 4 [(a : Int), b, c, d] rfl (fun i hi => by
    rw [hN.cell]
    match i, hi with
    | 0, _ => rfl
    | 1, _ => rfl
    | 2, _ => rfl
    | 3, _ => rfl) 9 Tryd.underlying9
  rw [h]
  rfl
theorem four_word (x : Nat) : ba [byt (x / 16777216), byt (x / 65536 % 256), byt (x / 256 % 256), byt (x % 256)] = ba (wordBytes x) := by
  have hb : ∀ y, byt (y % 256) = byt y := fun y => by
    unfold byt
    apply UInt8.toNat.inj
    simp
  rw [hb, hb, hb]; rfl
theorem out_next (v : St) (i : Nat) (hi : i < 8) : ba ((stBytes v).take (4 * i)) ++ ba (wordBytes (stAt v i)) = ba ((stBytes v).take (4 * (i + 1))) := by
  have e : ∀ l m : List UInt8, ba l ++ ba m = ba (l ++ m) := fun l m => by
    apply ByteArray.ext
    rw [ByteArray.data_append]
    simp
  rw [e]
  match i, hi with
  | 0, _ => rfl
  | 1, _ => rfl
  | 2, _ => rfl
  | 3, _ => rfl
  | 4, _ => rfl
  | 5, _ => rfl
  | 6, _ => rfl
  | 7, _ => rfl
theorem out_size (v : St) (k : Nat) : (ba ((stBytes v).take k)).size ≤ 32 := by
  have h : (stBytes v).length = 32 := rfl
  show ((stBytes v).take k).toArray.size ≤ 32
  simp [h]
  omega
def BlockAt (t : List UInt8) (A B : Nat) (w : World) (i : Value) (wr : World) : Prop :=
  ∃ j : Nat, 64 * j ≤ t.length ∧ i = .int .i64 ((64 * j : Nat) : Int) ∧ Holds wr A (rowOf .u32 8 (stAt (comp t j))) 37 ∧ Holds wr B (rowOf .u32 64 kAt) 39 ∧ Below w.heap.size w wr
def OutAtB (v : St) (A : Nat) (w : World) (o i : Value) (wr : World) : Prop :=
  ∃ k : Nat, k ≤ 8 ∧ i = .int .i64 k ∧ o = .string (ba ((stBytes v).take (4 * k))) ∧ Holds wr A (rowOf .u32 8 (stAt v)) 37 ∧ Below w.heap.size w wr
theorem block_next {t : List UInt8} {A B j : Nat} {w wr : World} (hj : 64 * (j + 1) ≤ t.length) (hA : w.heap.size ≤ A) (hne : B ≠ A) (h2 : Holds wr B (rowOf .u32 64 kAt) 39) (h1 : Holds wr A (rowOf .u32 8 (stAt (comp t j))) 37) (h3 : Below w.heap.size w wr) :
    BlockAt t A B w (.int .i64 (((64 * j : Nat) : Int) + 64)) (wr.setRow A (rowOf .u32 8 (stAt (blockSt (comp t j) ((t.drop (64 * j)).take 64))))) := by
  refine ⟨j + 1, hj, ?_, h1.row _, h2.row_other _ hne, below_row h3 _ _ hA⟩
  congr 1
/-- A new row, filled at once. -/
theorem laidB (w : World) (cs cs' : Array Value) (t : TypeId) : Holds ((w.alloc (.cells cs t)).setRow w.heap.size cs') w.heap.size cs' t := (Holds.new w cs t).row cs'
theorem below_laidB (w : World) (cs cs' : Array Value) (t : TypeId) : Below w.heap.size w ((w.alloc (.cells cs t)).setRow w.heap.size cs') := below_row ((Below.refl _ _).alloc (Nat.le_refl _) _) _ _ (Nat.le_refl _)

theorem range_row {w : World} {b n : Nat} {k : IntKind} {g : Nat → Nat} {t : TypeId} (h : Holds w b (rowOf k n g) t) : w.rangeAt b 0 (rowOf k n g).toList := fun j v hv => by
  rw [h.cell, Nat.zero_add, ← hv, Array.getElem?_toList]
set_option maxRecDepth 100000 in
set_option maxHeartbeats 1000000 in
theorem refSum_any (s : ByteArray) (w : World) (hs : s.size ≤ 1000000) : Calls Tryd.prog 12 #[.string s] w fun e w' => e = .returned (.string (ba (digest (bl s)))) ∧ Below w.heap.size w w' := by
  have hlen : (bl s).length = s.size := by show s.data.toList.length = _; rw [← Lib.size_eq]
  go_enter Tryd.func12, Tryd.ntmps12
  go_wp2_with fail
  refine (begin_any _).mono ?_
  rintro e W1 ⟨rfl, hb1⟩
  go_wp2_with (first | (refine wpList_store_row rfl 37 (.tmp 3) (.tmp 10) rfl _ (rowOf .u32 8 (stAt initSt)) rfl rfl 37 _ (heap_alloc_new _ _) (rsize34 _ _) (by rw [rowOf_size]; rfl) (rowOf_one _ _ _) ?_) | fail)
  have hA := laidB W1 (rowOf .u32 8 fun _ => 0) (rowOf .u32 8 (stAt initSt)) 37
  have hB := hb1.trans ((below_laidB W1 (rowOf .u32 8 fun _ => 0) (rowOf .u32 8 (stAt initSt)) 37).mono hb1.size)
  have hz : ((W1.alloc (.cells (rowOf .u32 8 fun _ => 0) 37)).setRow W1.heap.size (rowOf .u32 8 (stAt initSt))).heap.size = W1.heap.size + 1 := by simp
  generalize hw5 : World.setRow _ _ _ = w5
  have hA : Holds w5 W1.heap.size (rowOf .u32 8 (stAt initSt)) 37 := by rw [← hw5]; exact hA
  have hB : Below w.heap.size w w5 := by rw [← hw5]; exact hB
  have hz : w5.heap.size = W1.heap.size + 1 := by rw [← hw5]; exact hz
  clear hw5
  obtain ⟨A, hAe⟩ : ∃ A, W1.heap.size = A := ⟨_, rfl⟩
  rw [hAe] at hA hz ⊢
  have hs1 := hb1.size
  rw [hAe] at hs1
  clear hAe hb1
  refine (constants_any _).mono ?_
  rintro e W2 ⟨rfl, hb2⟩
  go_wp2_with (first | (refine wpList_store_row rfl 39 (.tmp 4) (.tmp 11) rfl _ (rowOf .u32 64 kAt) rfl rfl 39 _ (heap_alloc_new _ _) (rsize36 _ _) (by rw [rowOf_size]; rfl) (rowOf_one _ _ _) ?_) | fail)
  have hs2 := hb2.size
  have hA2 : Holds ((W2.alloc (.cells (rowOf .u32 64 fun _ => 0) 39)).setRow W2.heap.size (rowOf .u32 64 kAt)) A (rowOf .u32 8 (stAt initSt)) 37 := (hA.below hb2 (by omega)).below (below_laidB W2 _ _ 39) (by omega)
  have hC2 := laidB W2 (rowOf .u32 64 fun _ => 0) (rowOf .u32 64 kAt) 39
  have hB1 := hB.trans (hb2.mono hB.size)
  have hB2 := hB1.trans ((below_laidB W2 (rowOf .u32 64 fun _ => 0) (rowOf .u32 64 kAt) 39).mono hB1.size)
  have hne : W2.heap.size ≠ A := by omega
  generalize hw6 : World.setRow _ _ _ = w6
  have HI : Hid (Holds w6 A (rowOf .u32 8 (stAt initSt)) 37 ∧ Holds w6 W2.heap.size (rowOf .u32 64 kAt) 39 ∧ Below w.heap.size w w6) := by
    rw [← hw6]
    exact ⟨hA2, hC2, hB2⟩
  clear hw6 hA2 hC2 hB1 hB2 hA hB hb2 hs2 hz
  generalize W2.heap.size = B at HI hne ⊢
  refine (refPadded_any _ _ hs).mono ?_
  rintro e W3 ⟨rfl, hb3⟩
  have hmod := padded_mod (bl s)
  have hple := padded_le (bl s)
  rw [hlen] at hple
  have HD : Hid (stBytes (comp (padded (bl s)) ((padded (bl s)).length / 64)) = digest (bl s)) := Lib.hid rfl
  have hTs : (ba (padded (bl s))).size = (padded (bl s)).length := by show (padded (bl s)).toArray.size = _; simp
  have hTb : bl (ba (padded (bl s))) = padded (bl s) := by show (padded (bl s)).toArray.toList = _; simp
  generalize padded (bl s) = T at hmod hple HD hTs hTb ⊢
  generalize ba T = t at hTs hTb ⊢
  have HTb := Lib.hid hTb
  clear hTb
  have HI : Hid (BlockAt T A B w (.int .i64 0) W3) := by
    obtain ⟨i1, i2, i3⟩ := HI.out
    exact ⟨0, by omega, rfl, i1.below hb3 i1.lt, i2.below hb3 i2.lt, i3.trans (hb3.mono i3.size)⟩
  clear hb3
  go_wp2
  go_loopw [6] (fun i wr => BlockAt T A B w i wr) (fun i _ => T.length - (intOf i).toNat)
  case atStart => exact HI.out
  case round =>
    clear HI
    obtain ⟨j, hj, rfl, hA, hC, hB⟩ := hrel
    by_cases hjl : 64 * j < T.length
    · have hj1 : 64 * (j + 1) ≤ T.length := by omega
      have HN := Lib.hid (fun W (h2 : Holds W B (rowOf .u32 64 kAt) 39) (h1 : Holds W A (rowOf .u32 8 (stAt (comp T j))) 37) (h3 : Below w.heap.size w W) => block_next hj1 hs1 hne h2 h1 h3)
      have hV := comp_okB T j
      generalize comp T j = V at HN hA hV
      obtain ⟨p, hp⟩ : ∃ p, 64 * j = p := ⟨_, rfl⟩
      have hx : bl (t.extract p (p + 64)) = (T.drop p).take 64 := by
        have := Lib.extract_data t p (p + 64)
        rw [Nat.add_sub_cancel_left] at this
        rw [← HTb.out]
        exact this
      have hj2 : p + 64 ≤ T.length := by omega
      rw [hp] at HN hjl ⊢
      have hx2 : (t.extract p (p + 64)).size = 64 := by
        rw [ByteArray.size_extract, hTs]; omega
      have hO := fun W => one_any V (t.extract p (p + 64)) W hV hx2
      rw [hx] at hO
      generalize (T.drop p).take 64 = X at hO HN
      have HB := Lib.hid (And.intro hA (And.intro hC hB))
      have lA := hA.lt
      have lC := hC.lt
      clear hA hC hB hx hp
      have hp2 : ((p : Int) + 64).toNat = p + 64 := by omega
      go_wp2
      refine wp_region_kept_tail 8 (by kernel_rfl) (by kernel_rfl) ?_
      simp only [List.take_succ_cons, List.take_zero, List.drop_succ_cons, List.drop_zero]
      go_big_quiet_want
      refine quiet_load_arr 37 (.tmp 3) rfl A 0 rfl (rowOf .u32 8 (stAt V)) _ (fun w' hk => range_row (HB.out.1.below hk.below lA)) Tryd.underlying37 rfl (rsize34 _ _) ?_
      go_simp
      go_big_quiet_on
      go_big_quiet_want
      refine quiet_load_arr 39 (.tmp 4) rfl B 0 rfl (rowOf .u32 64 kAt) _ (fun w' hk => range_row (HB.out.2.1.below hk.below lC)) Tryd.underlying39 rfl (rsize36 _ _) ?_
      go_simp
      go_big_quiet_on
      repeat (go_big_quiet_step ((first | (exact fun _ => rfl) | (intro hk; go_at_call 20; exact hk.call (hO _)))))
      refine wpQuiet_nil ?_
      intro W4 hk4
      have hA4 := HB.out.1.below hk4.below lA
      have HK := Lib.hid (And.intro (HB.out.2.1.below hk4.below lC) (And.intro hA4 (HB.out.2.2.trans (hk4.below.mono HB.out.2.2.size))))
      clear hk4
      go_wp2_with (refine wpList_store_row rfl 37 (.tmp 3) (.tmp 27) rfl A (rowOf .u32 8 (stAt (blockSt V X))) rfl rfl 37 _ hA4 (rsize34 _ _) (by rw [rowOf_size, rowOf_size]) (rowOf_one _ _ _) ?_)
      go_roundw
      case rel => exact HN.out W4 HK.out.1 HK.out.2.1 HK.out.2.2
      case measure => simp [intOf]; omega
    · have hje : j = T.length / 64 := by omega
      rw [hje] at hA
      have hV := comp_okB T (T.length / 64)
      generalize comp T (T.length / 64) = V at hA HD hV
      have HI : Hid (OutAtB V A w (.string ⟨#[]⟩) (.int .i64 0) wr) := ⟨0, by omega, rfl, rfl, hA, hB⟩
      have hjT : ((64 * j : Nat) : Int) = (T.length : Int) := by omega
      clear hA hC hB hje
      go_wp2
      go_loopw [7, 8, 9] (fun o i _ wr => OutAtB V A w o i wr) (fun _ i _ _ => 8 - (intOf i).toNat)
      case atStart => exact HI.out
      case round =>
        clear HI
        obtain ⟨k, hk, rfl, rfl, hA, hB⟩ := hrel
        by_cases hk8 : k < 8
        · have cA := hA.num hk8
          have lx := stAt_lt2 hV k
          have HN := Lib.hid (out_next V k hk8)
          have ho := out_size V (4 * k)
          have hA2 := fun o => (hA.alloc o)
          have hB2 := fun o => (hB.alloc hB.size o)
          have HH := Lib.hid (And.intro hA2 hB2)
          clear hA hB hA2 hB2
          generalize stAt V k = x at cA lx HN
          have hc := four_laid wr (x / 16777216) (x / 65536 % 256) (x / 256 % 256) (x % 256)
          rw [four_word] at hc
          have hws : (ba (wordBytes x)).size = 4 := rfl
          generalize ba (wordBytes x) = wb at HN hc hws
          generalize ba ((stBytes V).take (4 * k)) = o at HN ho ⊢
          rw [show ((x / 16777216 : Nat) : Int) = (x : Int) / 16777216 by omega, show ((x / 65536 % 256 : Nat) : Int) = (x : Int) / 65536 % 256 by omega, show ((x / 256 % 256 : Nat) : Int) = (x : Int) / 256 % 256 by omega, show ((x % 256 : Nat) : Int) = (x : Int) % 256 by omega] at hc
          go_wp2
          go_roundw
          case rel => exact ⟨k + 1, by omega, by go_num, by rw [← HN.out], HH.out.1 _, HH.out.2 _⟩
          case measure => simp [intOf]; omega
        · obtain rfl : k = 8 := by omega
          have HO : Hid (ba ((stBytes V).take (4 * 8)) = ba (digest (bl s))) := by
            show _ = _
            rw [← HD.out]
            rfl
          have HH := Lib.hid hB
          clear hA hB
          generalize ba ((stBytes V).take (4 * 8)) = o at HO ⊢
          go_wp2
          go_ret
          exact ⟨by rw [← HO.out]; rfl, HH.out⟩
end Go.Proofs.YtnndifkilcommaaDoor.Sha
