/-
  Walks of what the laws share: tells.
-/
import Derived.Test.YtoknflnoehmngaaDoorCellRefShow
namespace Go.Proofs.YtoknflnoehmngaaDoor.Cell
open Go Go.RowKit
open Go.Proofs.YtoknflnoehmngaaDoor.Sha (Kept wp_region_kept wp_region_kept_tail quiet_load_row)

theorem rowV (v : Val) : (valC v).toArray = #[.int .i64 v.kind, .string v.s, .int .i64 v.n, .bool v.is, v.lv] := rfl
theorem frozen_box {W : World} {H : Nat} {v : Val} (h : W.heap[H]? = some (boxV v)) (j : Nat) : W.frozen? ⟨H, j, none⟩ = false := Lib.frozen_of_heap h j
theorem cell_box {W : World} {H : Nat} {v : Val} (h : W.heap[H]? = some (boxV v)) : W.rangeAt H 0 (valC v) := by
  intro j x hx
  simp only [World.cell?, h, Nat.zero_add]
  unfold valC at hx
  match j, hx with
  | 0, h => simpa using h
  | 1, h => simpa using h
  | 2, h => simpa using h
  | 3, h => simpa using h
  | 4, h => simpa using h
  | j + 5, h => simp at h
theorem grown_set {w w' : World} {g : Nat} (h : w.grownBy w' (some g)) (i : Nat) (u : Value) : w.grownBy (w'.setCell ⟨g, i, none⟩ u) (some g) :=
  ⟨h.os, h.tape, h.output, by simpa [World.setCell] using h.size, fun k hk hne => by
    rw [Below.heap_setCell _ _ _ _ (fun e => hne (by rw [e]))]
    exact h.block k hk hne⟩
set_option maxHeartbeats 4000000 in
theorem tells_core (w : World) (pb : Nat) (n : ByteArray) (v : Val) (sx : ByteArray) (nx : Int) (bx : Bool) (ls : List ByteArray) (c1 c2 c3 c4 : Int) (NS : ByteArray)
    (hT : ∀ W, Below w.heap.size w W → Calls Tryd.prog 25 #[ptr pb, .string n] W fun e w' => e = .returned (.tuple #[.string sx, .int .i64 c1]) ∧ W = w')
    (hN : ∀ W, Below w.heap.size w W → Calls Tryd.prog 28 #[ptr pb, .string n] W fun e w' => e = .returned (.tuple #[.int .i64 nx, .int .i64 c2]) ∧ W = w')
    (hF : ∀ W, Below w.heap.size w W → Calls Tryd.prog 29 #[ptr pb, .string n] W fun e w' => e = .returned (.tuple #[.bool bx, .int .i64 c3]) ∧ W = w')
    (hL : ∀ W, Below w.heap.size w W → Calls Tryd.prog 23 #[ptr pb, .string n] W fun e w' => ∃ sv, e = .returned (.tuple #[sv, .int .i64 c4]) ∧ w'.ownsRow W.heap.size 9 1 sv ls.length (ls.map Value.string) ∧ Below W.heap.size W w')
    (hK : ∀ W, Below w.heap.size w W → Calls Tryd.prog 26 #[ptr pb, .string n] W fun e w' => e = .returned (.string NS) ∧ W = w')
    (hW1 : ∀ W, Calls Tryd.prog 30 #[valV v, .int .i64 1] W fun e w' => e = .returned (.int .i64 c1) ∧ Below W.heap.size W w')
    (hW2 : ∀ W, Calls Tryd.prog 30 #[valV v, .int .i64 2] W fun e w' => e = .returned (.int .i64 c2) ∧ Below W.heap.size W w')
    (hW3 : ∀ W, Calls Tryd.prog 30 #[valV v, .int .i64 3] W fun e w' => e = .returned (.int .i64 c3) ∧ Below W.heap.size W w')
    (hW4 : ∀ W, Calls Tryd.prog 30 #[valV v, .int .i64 4] W fun e w' => e = .returned (.int .i64 c4) ∧ Below W.heap.size W w')
    (hM : ∀ W, Calls Tryd.prog 31 #[.int .i64 v.kind] W fun e w' => e = .returned (.string NS) ∧ Below W.heap.size W w')
    (hsx : sx = if v.kind = 1 then v.s else ⟨#[]⟩) (hnx : nx = if v.kind = 2 then v.n else 0) (hbx : bx = (decide (v.kind = 3) && v.is)) (hls : ls = if v.kind = 4 then v.ls else [])
    (hr : Reads w v.lv v.ls) (hl : ls.length ≤ 1000) :
    Calls Tryd.prog 12 #[ptr pb, valV v, .string n] w fun e w' => e = .returned (.bool true) ∧ Below w.heap.size w w' := by
  have b0 : Below w.heap.size w (w.alloc (boxV v)) := (Below.refl _ _).alloc (Nat.le_refl _) _
  have HT := Lib.hid (hT _ b0)
  have HN := Lib.hid (hN _ b0)
  have HF := Lib.hid (hF _ b0)
  have HL := Lib.hid (hL _ b0)
  have HK := Lib.hid hK
  have H1 := Lib.hid hW1
  have H2 := Lib.hid hW2
  have H3 := Lib.hid hW3
  have H4 := Lib.hid hW4
  have HM := Lib.hid hM
  have HR := Lib.hid hr
  have HB0 := Lib.hid b0
  have hH := heap_alloc_new w (boxV v)
  have HH := Lib.hid hH
  have HLL := Lib.hid hl
  have HLS := Lib.hid hls
  have HSX := Lib.hid hsx
  have HNX := Lib.hid hnx
  have HBX := Lib.hid hbx
  clear hsx hnx hbx
  clear hT hN hF hL hK hW1 hW2 hW3 hW4 hM hr b0 hH hl hls
  go_enter Tryd.func12, Tryd.ntmps12
  go_wp2_with fail
  refine HT.out.mono ?_
  rintro e w' ⟨rfl, rfl⟩
  go_wp2_with fail
  refine HN.out.mono ?_
  rintro e w' ⟨rfl, rfl⟩
  go_wp2_with fail
  refine HF.out.mono ?_
  rintro e w' ⟨rfl, rfl⟩
  go_wp2_with fail
  refine HL.out.mono ?_
  rintro e w1 ⟨sv, rfl, hO, hb1⟩
  have hBW : Below w.heap.size w w1 := HB0.out.trans (hb1.mono HB0.out.size)
  have hHW : w1.heap[w.heap.size]? = some (boxV v) := (hb1.block _ (by simp)).trans HH.out
  have HO := Lib.hid (And.intro hO (And.intro hBW hHW))
  have HC : Hid (∀ w', Kept w1 w' → w'.heap[w.heap.size]? = some (boxV v)) := fun w' hk => (hk.below.block _ (Array.getElem?_eq_some_iff.1 HO.out.2.2).1).trans HO.out.2.2
  clear hO hb1 hBW hHW HH
  go_wp2_with fail
  refine wp_region_kept (by kernel_rfl) (by kernel_rfl) ?_
  repeat (first
    | (go_big_quiet_want
       first
         | refine quiet_load_row 30 (.tmp 4) rfl w.heap.size 0 rfl [.int .i64 v.kind, .string v.s, .int .i64 v.n, .bool v.is, v.lv] _ (fun w' hk => cell_box (HC.out w' hk)) Tryd.underlying30 rfl sizeVal ?_
         | refine quiet_load_int 3 (.tmp 65) rfl ⟨w.heap.size, 0, none⟩ rfl (.int .i64 v.kind) .i64 (fun w' hk => cell_box (HC.out w' hk) 0 _ rfl) Tryd.underlying3 ?_
       go_simp
       go_big_quiet_on)
    | (go_big_quiet_step (exact fun _ => rfl)))
  go_big_quiet_step ((intro hk; go_at_call 30; exact hk.call (H1.out _)))
  repeat (first
    | (go_big_quiet_want
       first
         | refine quiet_load_row 30 (.tmp 4) rfl w.heap.size 0 rfl [.int .i64 v.kind, .string v.s, .int .i64 v.n, .bool v.is, v.lv] _ (fun w' hk => cell_box (HC.out w' hk)) Tryd.underlying30 rfl sizeVal ?_
         | refine quiet_load_int 3 (.tmp 65) rfl ⟨w.heap.size, 0, none⟩ rfl (.int .i64 v.kind) .i64 (fun w' hk => cell_box (HC.out w' hk) 0 _ rfl) Tryd.underlying3 ?_
       go_simp
       go_big_quiet_on)
    | (go_big_quiet_step (exact fun _ => rfl)))
  go_big_quiet_step ((intro hk; go_at_call 30; exact hk.call (H2.out _)))
  repeat (first
    | (go_big_quiet_want
       first
         | refine quiet_load_row 30 (.tmp 4) rfl w.heap.size 0 rfl [.int .i64 v.kind, .string v.s, .int .i64 v.n, .bool v.is, v.lv] _ (fun w' hk => cell_box (HC.out w' hk)) Tryd.underlying30 rfl sizeVal ?_
         | refine quiet_load_int 3 (.tmp 65) rfl ⟨w.heap.size, 0, none⟩ rfl (.int .i64 v.kind) .i64 (fun w' hk => cell_box (HC.out w' hk) 0 _ rfl) Tryd.underlying3 ?_
       go_simp
       go_big_quiet_on)
    | (go_big_quiet_step (exact fun _ => rfl)))
  go_big_quiet_step ((intro hk; go_at_call 30; exact hk.call (H3.out _)))
  repeat (first
    | (go_big_quiet_want
       first
         | refine quiet_load_row 30 (.tmp 4) rfl w.heap.size 0 rfl [.int .i64 v.kind, .string v.s, .int .i64 v.n, .bool v.is, v.lv] _ (fun w' hk => cell_box (HC.out w' hk)) Tryd.underlying30 rfl sizeVal ?_
         | refine quiet_load_int 3 (.tmp 65) rfl ⟨w.heap.size, 0, none⟩ rfl (.int .i64 v.kind) .i64 (fun w' hk => cell_box (HC.out w' hk) 0 _ rfl) Tryd.underlying3 ?_
       go_simp
       go_big_quiet_on)
    | (go_big_quiet_step (exact fun _ => rfl)))
  go_big_quiet_step ((intro hk; go_at_call 30; exact hk.call (H4.out _)))
  repeat (first
    | (go_big_quiet_want
       first
         | refine quiet_load_row 30 (.tmp 4) rfl w.heap.size 0 rfl [.int .i64 v.kind, .string v.s, .int .i64 v.n, .bool v.is, v.lv] _ (fun w' hk => cell_box (HC.out w' hk)) Tryd.underlying30 rfl sizeVal ?_
         | refine quiet_load_int 3 (.tmp 65) rfl ⟨w.heap.size, 0, none⟩ rfl (.int .i64 v.kind) .i64 (fun w' hk => cell_box (HC.out w' hk) 0 _ rfl) Tryd.underlying3 ?_
       go_simp
       go_big_quiet_on)
    | (go_big_quiet_step (exact fun _ => rfl)))
  go_big_quiet_step ((intro hk; go_at_call 26; exact hk.call_same (HK.out _ (HO.out.2.1.trans (hk.below.mono HO.out.2.1.size)))))
  repeat (first
    | (go_big_quiet_want
       first
         | refine quiet_load_row 30 (.tmp 4) rfl w.heap.size 0 rfl [.int .i64 v.kind, .string v.s, .int .i64 v.n, .bool v.is, v.lv] _ (fun w' hk => cell_box (HC.out w' hk)) Tryd.underlying30 rfl sizeVal ?_
         | refine quiet_load_int 3 (.tmp 65) rfl ⟨w.heap.size, 0, none⟩ rfl (.int .i64 v.kind) .i64 (fun w' hk => cell_box (HC.out w' hk) 0 _ rfl) Tryd.underlying3 ?_
       go_simp
       go_big_quiet_on)
    | (go_big_quiet_step (exact fun _ => rfl)))
  go_big_quiet_step ((intro hk; go_at_call 31; exact hk.call (HM.out _)))
  repeat (first
    | (go_big_quiet_want
       first
         | refine quiet_load_row 30 (.tmp 4) rfl w.heap.size 0 rfl [.int .i64 v.kind, .string v.s, .int .i64 v.n, .bool v.is, v.lv] _ (fun w' hk => cell_box (HC.out w' hk)) Tryd.underlying30 rfl sizeVal ?_
         | refine quiet_load_int 3 (.tmp 65) rfl ⟨w.heap.size, 0, none⟩ rfl (.int .i64 v.kind) .i64 (fun w' hk => cell_box (HC.out w' hk) 0 _ rfl) Tryd.underlying3 ?_
       go_simp
       go_big_quiet_on)
    | (go_big_quiet_step (exact fun _ => rfl)))
  refine wpQuiet_nil ?_
  intro W2 hk2
  have hB2 : Below w.heap.size w W2 := HO.out.2.1.trans (hk2.below.mono HO.out.2.1.size)
  have hbx := HC.out W2 hk2
  have HW : Hid (∀ W3, W2.grownBy W3 (some w.heap.size) → Below w.heap.size w W3) := fun W3 hg => hB2.grown hg hB2.size (fun k hk => by cases hk; exact Nat.le_refl _)
  have HSV : Hid (∀ W3, W2.grownBy W3 (some w.heap.size) → Reads W3 sv ls) := fun W3 hg => ((reads_owns HO.out.1).below hk2.below).apart hg (fun e => by
    have := (HO.out.1.lt _ e).1
    simp at this
    omega)
  have HSame : Hid (∀ W3 u us, W2.grownBy W3 (some w.heap.size) → Reads W3 u us → ls = us → Calls Tryd.prog 13 #[sv, u] W3 fun r w' => r = .returned (.bool true) ∧ Below w.heap.size w w') := fun W3 u us hg hu he => by
    subst he
    have := Nets.same_any sv u ls ls W3 (HSV.out W3 hg) hu (by have := HLL.out; omega) (by have := HLL.out; omega)
    rw [decide_eq_true rfl] at this
    have h3 := HW.out W3 hg
    exact this.mono fun r w' hh => ⟨hh.1, h3.trans (hh.2.mono h3.size)⟩
  have f1 := frozen_box hbx 1
  have f2 := frozen_box hbx 2
  have f4 := frozen_box hbx 4
  have hcb := cell_box hbx
  have d0 := hcb 0 _ rfl
  have d1 := hcb 1 _ rfl
  have d2 := hcb 2 _ rfl
  have d3 := hcb 3 _ rfl
  have d4 := hcb 4 _ rfl
  simp only [Nat.zero_add] at d0 d1 d2 d3 d4
  obtain ⟨sa, sn, sc, rfl⟩ : ∃ a n c, sv = .slice a n c := by
    rcases HO.out.1.2 with ⟨hv, _⟩ | ⟨g, cap, cur, hv, _⟩
    · exact ⟨_, _, _, hv⟩
    · exact ⟨_, _, _, hv⟩
  clear hk2 hB2 hbx hcb HC HO H1 H2 H3 H4 HM HK HT HN HF HL
  by_cases hk1 : v.kind = 1
  · have g1 : (v.kind != 1) = false := by rw [hk1]; rfl
    have g2 : (v.kind != 2) = true := by rw [hk1]; rfl
    have g3 : (v.kind == 3) = false := by rw [hk1]; rfl
    have g4 : (v.kind != 4) = true := by rw [hk1]; rfl
    have es : sx = v.s := by rw [HSX.out, if_pos hk1]
    have en : nx = 0 := by rw [HNX.out, if_neg (by omega)]
    have eb : bx = false := by rw [HBX.out, hk1]; rfl
    have el : ls = [] := by rw [HLS.out, if_neg (by omega)]
    have EL := Lib.hid el
    subst es en eb
    clear el HSX HNX HBX HLS hk1
    go_wp2_with fail
    refine (HSame.out _ _ _ (by first | exact World.grownBy.refl _ _ | exact grown_set (World.grownBy.refl _ _) _ _ | exact grown_set (grown_set (World.grownBy.refl _ _) _ _) _ _ | exact grown_set (grown_set (grown_set (World.grownBy.refl _ _) _ _) _ _) _ _) (nil_reads _) EL.out).mono ?_
    rintro r W4 ⟨rfl, hb4⟩
    have HB := Lib.hid hb4
    clear hb4
    go_wp2_with fail
    go_ret
    exact ⟨rfl, HB.out⟩
  · by_cases hk2 : v.kind = 2
    · have g1 : (v.kind != 1) = true := by rw [hk2]; rfl
      have g2 : (v.kind != 2) = false := by rw [hk2]; rfl
      have g3 : (v.kind == 3) = false := by rw [hk2]; rfl
      have g4 : (v.kind != 4) = true := by rw [hk2]; rfl
      have es : sx = ⟨#[]⟩ := by rw [HSX.out, if_neg (by omega)]
      have en : nx = v.n := by rw [HNX.out, if_pos hk2]
      have eb : bx = false := by rw [HBX.out, hk2]; rfl
      have el : ls = [] := by rw [HLS.out, if_neg (by omega)]
      have EL := Lib.hid el
      subst es en eb
      clear el HSX HNX HBX HLS hk1 hk2
      go_wp2_with fail
      refine (HSame.out _ _ _ (by first | exact World.grownBy.refl _ _ | exact grown_set (World.grownBy.refl _ _) _ _ | exact grown_set (grown_set (World.grownBy.refl _ _) _ _) _ _ | exact grown_set (grown_set (grown_set (World.grownBy.refl _ _) _ _) _ _) _ _) (nil_reads _) EL.out).mono ?_
      rintro r W4 ⟨rfl, hb4⟩
      have HB := Lib.hid hb4
      clear hb4
      go_wp2_with fail
      go_ret
      exact ⟨rfl, HB.out⟩
    · by_cases hk3 : v.kind = 3
      · have g1 : (v.kind != 1) = true := by rw [hk3]; rfl
        have g2 : (v.kind != 2) = true := by rw [hk3]; rfl
        have g3 : (v.kind == 3) = true := by rw [hk3]; rfl
        have g4 : (v.kind != 4) = true := by rw [hk3]; rfl
        have es : sx = ⟨#[]⟩ := by rw [HSX.out, if_neg (by omega)]
        have en : nx = 0 := by rw [HNX.out, if_neg (by omega)]
        have eb : bx = v.is := by rw [HBX.out, hk3]; rfl
        have el : ls = [] := by rw [HLS.out, if_neg (by omega)]
        have EL := Lib.hid el
        subst es en eb
        clear el HSX HNX HBX HLS hk1 hk2 hk3
        go_wp2_with fail
        refine (HSame.out _ _ _ (by first | exact World.grownBy.refl _ _ | exact grown_set (World.grownBy.refl _ _) _ _ | exact grown_set (grown_set (World.grownBy.refl _ _) _ _) _ _ | exact grown_set (grown_set (grown_set (World.grownBy.refl _ _) _ _) _ _) _ _) (nil_reads _) EL.out).mono ?_
        rintro r W4 ⟨rfl, hb4⟩
        have HB := Lib.hid hb4
        clear hb4
        go_wp2_with fail
        go_ret
        exact ⟨rfl, HB.out⟩
      · by_cases hk4 : v.kind = 4
        · have g1 : (v.kind != 1) = true := by rw [hk4]; rfl
          have g2 : (v.kind != 2) = true := by rw [hk4]; rfl
          have g3 : (v.kind == 3) = false := by rw [hk4]; rfl
          have g4 : (v.kind != 4) = false := by rw [hk4]; rfl
          have es : sx = ⟨#[]⟩ := by rw [HSX.out, if_neg (by omega)]
          have en : nx = 0 := by rw [HNX.out, if_neg (by omega)]
          have eb : bx = false := by rw [HBX.out, hk4]; rfl
          have el : ls = v.ls := by rw [HLS.out, if_pos hk4]
          have EL := Lib.hid el
          subst es en eb
          clear el HSX HNX HBX HLS hk1 hk2 hk3 hk4
          go_wp2_with fail
          refine (HSame.out _ _ _ (by first | exact World.grownBy.refl _ _ | exact grown_set (World.grownBy.refl _ _) _ _ | exact grown_set (grown_set (World.grownBy.refl _ _) _ _) _ _ | exact grown_set (grown_set (grown_set (World.grownBy.refl _ _) _ _) _ _) _ _) (HR.out.below (HW.out _ (by first | exact World.grownBy.refl _ _ | exact grown_set (World.grownBy.refl _ _) _ _ | exact grown_set (grown_set (World.grownBy.refl _ _) _ _) _ _ | exact grown_set (grown_set (grown_set (World.grownBy.refl _ _) _ _) _ _) _ _))) EL.out).mono ?_
          rintro r W4 ⟨rfl, hb4⟩
          have HB := Lib.hid hb4
          clear hb4
          go_wp2_with fail
          go_ret
          exact ⟨rfl, HB.out⟩
        · have g1 : (v.kind != 1) = true := by simpa using hk1
          have g2 : (v.kind != 2) = true := by simpa using hk2
          have g3 : (v.kind == 3) = false := by simpa using hk3
          have g4 : (v.kind != 4) = true := by simpa using hk4
          have es : sx = ⟨#[]⟩ := by rw [HSX.out, if_neg (by omega)]
          have en : nx = 0 := by rw [HNX.out, if_neg (by omega)]
          have eb : bx = false := by rw [HBX.out, decide_eq_false hk3]; rfl
          have el : ls = [] := by rw [HLS.out, if_neg (by omega)]
          have EL := Lib.hid el
          subst es en eb
          clear el HSX HNX HBX HLS hk1 hk2 hk3 hk4
          go_wp2_with fail
          refine (HSame.out _ _ _ (by first | exact World.grownBy.refl _ _ | exact grown_set (World.grownBy.refl _ _) _ _ | exact grown_set (grown_set (World.grownBy.refl _ _) _ _) _ _ | exact grown_set (grown_set (grown_set (World.grownBy.refl _ _) _ _) _ _) _ _) (nil_reads _) EL.out).mono ?_
          rintro r W4 ⟨rfl, hb4⟩
          have HB := Lib.hid hb4
          clear hb4
          go_wp2_with fail
          go_ret
          exact ⟨rfl, HB.out⟩

section
variable {w : World} {pb mb : Nat} {G : List Pair}
/-- What is under a name, as the document finds it. -/
def Under (n : ByteArray) (G : List Pair) (v : Val) : Prop := (at? pn n G = none ∧ v = Val.zero) ∨ ∃ g, at? pn n G = some g ∧ v = g.1.v
theorem tells_any (h : BagAt w pb mb G) (n : ByteArray) (hn : n.size ≤ maxLen) (v : Val) (hv : Under n G v) (hr : Reads w v.lv v.ls) :
    Calls Tryd.prog 12 #[ptr pb, valV v, .string n] w fun e w' => e = .returned (.bool true) ∧ Below w.heap.size w w' := by
  have hT := fun W hb => text_any (h.below (w' := W) hb) n hn
  have hN := fun W hb => num_any (h.below (w' := W) hb) n hn
  have hF := fun W hb => flag_any (h.below (w' := W) hb) n hn
  have hL := fun W hb => list_any (h.below (w' := W) hb) n hn
  have hK := fun W hb => kind_any (h.below (w' := W) hb) n hn
  have hW1 := fun W => why_any v 1 W
  have hW2 := fun W => why_any v 2 W
  have hW3 := fun W => why_any v 3 W
  have hW4 := fun W => why_any v 4 W
  have hM := fun W => name_any v.kind W
  rcases hv with ⟨ha, rfl⟩ | ⟨g, ha, rfl⟩
  · have hx : valueAt n G = .nilIface := by unfold valueAt; rw [ha]
    have hl : listAt n G = [] := by unfold listAt; rw [ha]
    rw [hx] at hT hN hF hL hK
    rw [hl] at hL
    exact tells_core w pb n Val.zero ⟨#[]⟩ 0 false [] 6 6 6 6 ⟨#[]⟩ hT hN hF hL hK hW1 hW2 hW3 hW4 hM rfl rfl rfl rfl hr (by simp)
  · have hx : valueAt n G = g.2 := by unfold valueAt; rw [ha]
    have hl : listAt n G = if g.1.v.kind = 4 then g.1.v.ls else [] := by unfold listAt; rw [ha]
    rw [hx] at hT hN hF hL hK
    rw [hl] at hL
    rcases h.tied g (at_some pn ha).1 with ⟨k, e⟩ | ⟨k, e⟩ | ⟨k, e⟩ | ⟨k, k0, sv, e, _⟩
    · rw [e] at hT hN hF hL hK
      rw [k] at hW1 hW2 hW3 hW4
      have hM' : ∀ W, Calls Tryd.prog 31 #[.int .i64 g.1.v.kind] W fun e w' => e = .returned (.string ⟨#[116, 101, 120, 116]⟩) ∧ Below W.heap.size W w' := fun W => by have := hM W; rw [k] at this ⊢; exact this
      exact tells_core w pb n g.1.v g.1.v.s 0 false _ 0 70 70 70 ⟨#[116, 101, 120, 116]⟩ hT hN hF hL hK hW1 hW2 hW3 hW4 hM' (by rw [k]; rfl) (by rw [k]; rfl) (by rw [k]; rfl) rfl hr (by rw [k, if_neg (by decide)]; exact Nat.zero_le _)
    · rw [e] at hT hN hF hL hK
      rw [k] at hW1 hW2 hW3 hW4
      have hM' : ∀ W, Calls Tryd.prog 31 #[.int .i64 g.1.v.kind] W fun e w' => e = .returned (.string ⟨#[110, 117, 109, 98, 101, 114]⟩) ∧ Below W.heap.size W w' := fun W => by have := hM W; rw [k] at this ⊢; exact this
      exact tells_core w pb n g.1.v ⟨#[]⟩ g.1.v.n false _ 70 0 70 70 ⟨#[110, 117, 109, 98, 101, 114]⟩ hT hN hF hL hK hW1 hW2 hW3 hW4 hM' (by rw [k]; rfl) (by rw [k]; rfl) (by rw [k]; rfl) rfl hr (by rw [k, if_neg (by decide)]; exact Nat.zero_le _)
    · rw [e] at hT hN hF hL hK
      rw [k] at hW1 hW2 hW3 hW4
      have hM' : ∀ W, Calls Tryd.prog 31 #[.int .i64 g.1.v.kind] W fun e w' => e = .returned (.string ⟨#[116, 114, 117, 116, 104]⟩) ∧ Below W.heap.size W w' := fun W => by have := hM W; rw [k] at this ⊢; exact this
      exact tells_core w pb n g.1.v ⟨#[]⟩ 0 g.1.v.is _ 70 70 0 70 ⟨#[116, 114, 117, 116, 104]⟩ hT hN hF hL hK hW1 hW2 hW3 hW4 hM' (by rw [k]; rfl) (by rw [k]; rfl) (by rw [k]; rfl) rfl hr (by rw [k, if_neg (by decide)]; exact Nat.zero_le _)
    · rw [e] at hT hN hF hL hK
      rw [k] at hW1 hW2 hW3 hW4
      have hM' : ∀ W, Calls Tryd.prog 31 #[.int .i64 g.1.v.kind] W fun e w' => e = .returned (.string ⟨#[108, 105, 115, 116]⟩) ∧ Below W.heap.size W w' := fun W => by have := hM W; rw [k] at this ⊢; exact this
      exact tells_core w pb n g.1.v ⟨#[]⟩ 0 false _ 70 70 70 0 ⟨#[108, 105, 115, 116]⟩ hT hN hF hL hK hW1 hW2 hW3 hW4 hM' (by rw [k]; rfl) (by rw [k]; rfl) (by rw [k]; rfl) rfl hr (by rw [if_pos k]; exact k0)
end
end Go.Proofs.YtoknflnoehmngaaDoor.Cell
