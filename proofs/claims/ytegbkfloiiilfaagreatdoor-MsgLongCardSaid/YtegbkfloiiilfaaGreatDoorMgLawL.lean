/-
  The law walk: MsgLong.
-/
import Derived.Test.YtegbkfloiiilfaaGreatDoorMgLawA
import Derived.Test.YtegbkfloiiilfaaGreatDoorMgGlyph

/-
  The law's walk: MsgLong.
-/
namespace Go.Proofs.YtegbkfloiiilfaaGreatDoor.Msg
open Go Go.RowKit
open Go.Proofs.YtegbkfloiiilfaaGreatDoor.Head
open Go.Proofs.YtegbkfloiiilfaaGreatDoor.Glyph (Row8 foldL strOf_bytes)

theorem infoU : (Tryz.prog.info? 5).map (fun i => (i.zero, i.size, i.bytes)) = some (some (.int .u8 0), 1, 1) := by kernel_rfl
theorem row_made (w : World) (n : Nat) : Row8 (w.alloc (.cells (madeCells #[.int .u8 0] n) 5)) w.heap.size (List.replicate n 0) := by
  have hz : (madeCells #[.int .u8 0] n).toList = List.replicate n (.int .u8 0) := by
    unfold madeCells
    apply List.ext_getElem
    · simp
    · intro i h1 h2
      simp [Nat.mod_one]
  have hs : (madeCells #[.int .u8 0] n).size = n := by rw [← Array.length_toList, hz]; simp
  refine ⟨_, _, heap_alloc_new w _, by rw [hs]; simp, .inr rfl, ?_⟩
  rw [hz, List.length_replicate]
  simp [Lib.byteCells]
theorem row_from {w : World} {g cap k : Nat} {l : List UInt8} (h : Row8 w g l) :
    (convert 38 9 (.slice (some ⟨g, k, none⟩) (l.length - k) cap)).run Tryz.prog w = .ok (.string (Glyph.ba (l.drop k))) w := by
  have e := run_convert_bytes_arg (P := Tryz.prog) w 38 5 Tryz.underlying38 Tryz.underlying5 g k (l.length - k) cap ((l.drop k).map fun b => (b.toNat : Int)) (by simp) (fun i hi => by
    rw [h.cell (by omega)]
    simp [hi]) 9 Tryz.underlying9
  rw [e, strOf_bytes]
set_option maxRecDepth 100000 in
set_option maxHeartbeats 4000000 in
theorem msgLong_any (n : Int) (name : ByteArray) (w : World) (hm : MaxAt w) : Calls Tryz.prog 4 #[.int .i64 n, .string name] w (TrueP w) := by
  have HW := Lib.hid (fun W (h : MaxAt W) => works_any W h)
  have HM := Lib.hid hm
  have HW0 := Lib.hid (HW.out w hm)
  clear hm
  by_cases h1 : n < 4
  · go_enter Tryz.func4, Tryz.ntmps4
    go_wp2_with fail
    refine HW0.out.mono ?_
    rintro e w1 ⟨rfl, hb⟩
    have HB := Lib.hid hb
    clear hb
    go_wp2_with fail
    go_ret
    exact ⟨rfl, HB.out⟩
  by_cases h2 : 66000 < n
  · go_enter Tryz.func4, Tryz.ntmps4
    go_wp2_with fail
    refine HW0.out.mono ?_
    rintro e w1 ⟨rfl, hb⟩
    have HB := Lib.hid hb
    clear hb
    go_wp2_with fail
    go_ret
    exact ⟨rfl, HB.out⟩
  by_cases h3 : 100 < name.size
  · have d3 : (100 : Int) < (name.size : Int) := by omega
    go_enter Tryz.func4, Tryz.ntmps4
    go_wp2_with fail
    refine HW0.out.mono ?_
    rintro e w1 ⟨rfl, hb⟩
    have HB := Lib.hid hb
    clear hb
    go_wp2_with fail
    go_ret
    exact ⟨rfl, HB.out⟩
  have d3 : ¬ (100 : Int) < (name.size : Int) := by omega
  obtain ⟨N, rfl⟩ : ∃ N : Nat, n = (N : Int) := ⟨n.toNat, by omega⟩
  have hmk : ∀ W : World, (Instr.makeSlice 38 (.int .i64 (N : Int)) (.int .i64 (N : Int))).run Tryz.prog W = .ok (.slice (some ⟨W.heap.size, 0, none⟩) N N) (W.alloc (.cells (madeCells #[.int .u8 0] N) 5)) :=
    run_make_row' (P := Tryz.prog) 38 5 (.int .u8 0) 1 Tryz.underlying38 infoU rfl .i64 .i64 N (by omega) (by omega)
  have HR0 : Hid (Row8 (w.alloc (.cells (madeCells #[.int .u8 0] N) 5)) w.heap.size (List.replicate N 0) ∧ Below w.heap.size w (w.alloc (.cells (madeCells #[.int .u8 0] N) 5))) := Lib.hid ⟨row_made w N, (Below.refl _ _).alloc (Nat.le_refl _) _⟩
  have HPA : Hid (∀ (x : ByteArray) (W : World), x.size + 2 = N → MaxAt W → Calls Tryz.prog 11 #[.string ((⟨#[13, 10]⟩ : ByteArray) ++ x)] W fun e w' => ∃ ua uc b c, e = .returned (.tuple #[msV (.slice ua 0 uc) b, .int .i64 c]) ∧ Below W.heap.size W w' ∧ (65536 < N → b = ⟨#[]⟩ ∧ c = (2 : Nat)) ∧ (¬ 65536 < N → b = x ∧ c = (0 : Nat))) := Lib.hid (fun x W hx hmx => by
    have hbx : bl ((⟨#[13, 10]⟩ : ByteArray) ++ x) = 13 :: 10 :: bl x := by rw [bl_app]; rfl
    have hp := parse_line (bl x)
    rw [bl_len, hx] at hp
    refine (parse_any ((⟨#[13, 10]⟩ : ByteArray) ++ x) W (by rw [← bl_len, hbx, List.length_cons, List.length_cons, bl_len]; omega) hmx).mono ?_
    rintro e w' ⟨u, he, hf⟩
    rw [hbx, hp] at he hf
    by_cases hN : 65536 < N
    · rw [if_pos hN] at he hf
      obtain ⟨ua, uc, rfl⟩ := owns_slice hf.1
      exact ⟨ua, uc, _, _, he, hf.2, fun _ => ⟨rfl, rfl⟩, fun h => absurd hN h⟩
    · rw [if_neg hN] at he hf
      obtain ⟨ua, uc, rfl⟩ := owns_slice hf.1
      simp only [ba_bl] at he
      exact ⟨ua, uc, x, 0, he, hf.2, fun h => absurd h hN, fun _ => ⟨rfl, rfl⟩⟩)
  have HG : Hid (∀ a c b W, Calls Tryz.prog 16 #[msV (.slice a 0 c) b, .string name] W fun e w' => e = .returned (.string ⟨#[]⟩) ∧ Below W.heap.size W w') := Lib.hid (fun a c b W => mget_any (.slice a 0 c) [] b name W (.inl ⟨_, _, rfl, rfl⟩) (by decide) (fun f hf => by cases hf) (by omega))
  have te : ((⟨#[]⟩ : ByteArray).toList.isEmpty) = true := by rw [Lib.toList_data]; rfl
  clear HW0
  go_enter Tryz.func4, Tryz.ntmps4
  go_wp2_with fail
  clear hmk
  go_loopw [25] (fun i wr => ∃ (k : Nat) (l : List UInt8), k ≤ N ∧ i = .int .i64 k ∧ l.length = N ∧ Hid (Row8 wr w.heap.size l ∧ Below w.heap.size w wr)) (fun i _ => N - (intOf i).toNat)
  case atStart => exact ⟨0, List.replicate N 0, Nat.zero_le _, rfl, by simp, HR0⟩
  case round =>
    clear HR0
    obtain ⟨k, l, hk, rfl, hl, hR⟩ := hrel
    by_cases hlt : k < N
    · have hcell := hR.out.1.cell (j := k) (by omega)
      have hfree := hR.out.1.free (j := k) (by omega)
      have HN : Hid (Row8 (wr.setCell ⟨w.heap.size, k, none⟩ (.int .u8 120)) w.heap.size (l.set k 120) ∧ Below w.heap.size w (wr.setCell ⟨w.heap.size, k, none⟩ (.int .u8 120))) := Lib.hid ⟨hR.out.1.set k 120, hR.out.2.setCell (p := ⟨w.heap.size, k, none⟩) (Nat.le_refl _) _⟩
      go_wp2_with fail
      go_roundw
      case rel => exact ⟨k + 1, l.set k 120, by omega, by simp, by rw [List.length_set]; exact hl, HN⟩
      case measure => simp [intOf]; omega
    · have h2N : 2 < N := by omega
      have hst := row_from (cap := N - 2) (k := 2) hR.out.1
      rw [hl] at hst
      obtain ⟨x, hx⟩ : ∃ x : ByteArray, x = Glyph.ba (l.drop 2) := ⟨_, rfl⟩
      have hxz : x.size + 2 = N := by rw [hx, Glyph.ba_size, List.length_drop, hl]; omega
      rw [← hx] at hst
      have hxz2 : x.size ≤ 66000 := by omega
      have HB := Lib.hid hR.out.2
      have HP := Lib.hid (HPA.out x wr hxz (HM.out.below HB.out))
      have hxn : ((x.size : Int) == (N : Int) - 2) = true := by rw [beq_iff_eq]; omega
      clear hx hl hR hxz
      by_cases hN : 65536 < N
      · have dN : (65536 : Int) < (N : Int) := by omega
        have HP2 : Hid (Calls Tryz.prog 11 #[.string ((⟨#[13, 10]⟩ : ByteArray) ++ x)] wr fun e w' => ∃ ua uc, e = .returned (.tuple #[msV (.slice ua 0 uc) ⟨#[]⟩, .int .i64 2]) ∧ Below wr.heap.size wr w') := Lib.hid (HP.out.mono fun e w' he => by
          obtain ⟨ua, uc, b, c, he, hb, h1, _⟩ := he
          obtain ⟨rfl, rfl⟩ := h1 hN
          exact ⟨ua, uc, he, hb⟩)
        clear HP
        go_wp2_with fail
        refine HP2.out.mono ?_
        rintro e w1 ⟨ua, uc, rfl, hb⟩
        have hal : Below w1.heap.size w1 (w1.alloc (boxM msT (.slice ua 0 uc) ⟨#[]⟩)) := (Below.refl _ _).alloc (Nat.le_refl _) _
        have HB1 := Lib.hid (HB.out.trans ((hb.trans (hal.mono hb.size)).mono HB.out.size))
        have HW1 := Lib.hid (HW.out _ (HM.out.below HB1.out))
        clear hb hal
        go_wp2_with fail
        refine HW1.out.mono ?_
        rintro e w2 ⟨rfl, hb⟩
        have HB2 := Lib.hid (HB1.out.trans (hb.mono HB1.out.size))
        clear hb
        go_wp2_with fail
        go_ret
        exact ⟨rfl, HB2.out⟩
      · have dN : ¬ (65536 : Int) < (N : Int) := by omega
        have HP2 : Hid (Calls Tryz.prog 11 #[.string ((⟨#[13, 10]⟩ : ByteArray) ++ x)] wr fun e w' => ∃ ua uc, e = .returned (.tuple #[msV (.slice ua 0 uc) x, .int .i64 0]) ∧ Below wr.heap.size wr w') := Lib.hid (HP.out.mono fun e w' he => by
          obtain ⟨ua, uc, b, c, he, hb, _, h1⟩ := he
          obtain ⟨rfl, rfl⟩ := h1 hN
          exact ⟨ua, uc, he, hb⟩)
        clear HP
        go_wp2_with fail
        refine HP2.out.mono ?_
        rintro e w1 ⟨ua, uc, rfl, hb⟩
        have hal : Below w1.heap.size w1 (w1.alloc (boxM msT (.slice ua 0 uc) x)) := (Below.refl _ _).alloc (Nat.le_refl _) _
        have HB1 := Lib.hid (HB.out.trans ((hb.trans (hal.mono hb.size)).mono HB.out.size))
        have HG1 := Lib.hid (HG.out ua uc x (w1.alloc (boxM msT (.slice ua 0 uc) x)))
        clear hb hal
        go_wp2_with fail
        refine HG1.out.mono ?_
        rintro e w2 ⟨rfl, hb⟩
        have HB2 := Lib.hid (HB1.out.trans (hb.mono HB1.out.size))
        have HW2 := Lib.hid (HW.out _ (HM.out.below HB2.out))
        clear hb
        go_wp2_with fail
        refine HW2.out.mono ?_
        rintro e w3 ⟨rfl, hb⟩
        have HB3 := Lib.hid (HB2.out.trans (hb.mono HB2.out.size))
        clear hb
        go_wp2_with fail
        go_ret
        exact ⟨rfl, HB3.out⟩
end Go.Proofs.YtegbkfloiiilfaaGreatDoor.Msg
