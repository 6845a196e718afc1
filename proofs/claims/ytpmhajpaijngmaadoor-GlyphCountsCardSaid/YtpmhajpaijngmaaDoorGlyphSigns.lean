/-
  The document's Signs, Clip and Fold.
-/
import Derived.Test.YtpmhajpaijngmaaDoorGlyphRef
namespace Go.Proofs.YtpmhajpaijngmaaDoor.Glyph
open Go.RowKit

theorem grown_of_below {w w' : World} (h : Below w.heap.size w w') : w.grownBy w' none :=
  ⟨h.os, h.tape, h.output, h.size, fun k hk _ => h.block k hk⟩
theorem owns_below {w w' : World} {B : Nat} {e : TypeId} {z : Nat} {v : Value} {n : Nat} {xs : List Value} (h : w.ownsRow B e z v n xs) (hb : Below w.heap.size w w') : w'.ownsRow B e z v n xs :=
  h.kept (grown_of_below hb) (by cases hv : v.ownBlock <;> simp)
theorem infoInt : (Tryd.prog.info? 3).map (fun i => (i.zero, i.size, i.bytes)) = some (some (.int .i64 0), 1, 8) := by kernel_rfl
/-- The value is a slice that reads as these numbers. -/
def ReadsI (w : World) (v : Value) (l : List Int) : Prop :=
  ∃ a cap, v = .slice a l.length cap ∧ ∀ i, i < l.length → ∃ g, a = some ⟨g, 0, none⟩ ∧ g < w.heap.size ∧ w.cell? ⟨g, i, none⟩ = some (.int .i64 (l.getD i 0))
theorem ReadsI.below {w w' : World} {v : Value} {l : List Int} (h : ReadsI w v l) (hb : Below w.heap.size w w') : ReadsI w' v l := by
  obtain ⟨a, cap, rfl, h⟩ := h
  refine ⟨a, cap, rfl, fun i hi => ?_⟩
  obtain ⟨g, rfl, h1, h2⟩ := h i hi
  exact ⟨g, rfl, by have := hb.size; omega, by rw [hb.cell (p := ⟨g, i, none⟩) h1]; exact h2⟩
theorem readsI_owns {w : World} {B : Nat} {v : Value} {acc : List Int} (h : w.ownsRow B 3 1 v acc.length (acc.map (Value.int .i64))) : ReadsI w v acc := by
  have hc := fun g hg => h.cells (g := g) hg
  have hlt := h.lt
  rcases h.2 with ⟨rfl, hn⟩ | ⟨g, cap, cur, rfl, hb, hg, h1, h2, _, _⟩
  · exact ⟨none, 0, by rw [hn], fun i hi => by omega⟩
  · refine ⟨some ⟨g, 0, none⟩, cap, rfl, fun i hi => ⟨g, rfl, (hlt g rfl).2, ?_⟩⟩
    have e := hc g rfl i (.int .i64 (acc.getD i 0)) (by
      rw [List.getElem?_map, List.getD_eq_getElem?_getD, List.getElem?_eq_getElem hi]; rfl)
    have hp : (⟨g, 0, none⟩ : Addr).add i = ⟨g, i, none⟩ := by unfold Addr.add; split <;> simp_all
    rw [hp] at e
    exact e
theorem new_int (w : World) (x : Value) : ∀ (j : Nat) (u : Value), [x][j]? = some u → (w.alloc (Obj.cells #[x] 3)).cell? ((⟨w.heap.size, 0, none⟩ : Addr).add j) = some u := by
  intro j u hu
  obtain rfl : j = 0 := by
    have := (List.getElem?_eq_some_iff.1 hu).1
    simpa using this
  have hp : (⟨w.heap.size, 0, none⟩ : Addr).add 0 = ⟨w.heap.size, 0, none⟩ := by unfold Addr.add; split <;> simp_all
  rw [hp, Lib.cell_of_heap (heap_alloc_new w _)]
  simpa using hu
def SignsAt (s : ByteArray) (w : World) (v i : Value) (wr : World) : Prop :=
  ∃ (p : Nat) (acc : List Int), p ≤ s.size ∧ i = .int .i64 p ∧ wr.ownsRow w.heap.size 3 1 v acc.length (acc.map (Value.int .i64)) ∧ Below w.heap.size w wr ∧ acc.length ≤ p ∧ Hid (acc ++ signs ((bl s).drop p) = signs (bl s))
def SignsGives (s : ByteArray) (w : World) (e : Ending) (w' : World) : Prop := ∃ v, e = .returned v ∧ ReadsI w' v (signs (bl s)) ∧ Below w.heap.size w w'
set_option maxHeartbeats 1000000 in
theorem signs_any (s : ByteArray) (w : World) (hs : s.size ≤ 1000000) : Calls Tryd.prog 8 #[.string s] w (SignsGives s w) := by
  obtain ⟨i0, hi, hz0, hz1, hz2⟩ := info_parts infoInt
  have HS : Hid (SignsAt s w (.slice none 0 0) (.int .i64 0) w) := ⟨0, [], Nat.zero_le _, rfl, World.ownsRow_nil _ _ _ _, Below.refl _ _, Nat.le_refl _, Lib.hid rfl⟩
  go_enter Tryd.func8, Tryd.ntmps8
  go_wp2
  go_loopw [3, 4] (fun v i wr => SignsAt s w v i wr) (fun _ i _ => s.size - (intOf i).toNat)
  case atStart => exact HS.out
  case round =>
    clear HS
    obtain ⟨p, acc, hps, rfl, hown, hb, hal, hx⟩ := hrel
    by_cases hp : p < s.size
    · have hp' : (p : Int) < (s.size : Int) := by omega
      have hone : ∀ W, Calls Tryd.prog 23 #[.string s, .int .i64 p] W fun e w' => e = .returned (.tuple #[.int .i64 (sg ((bl s).drop p)), .int .i64 (wd ((bl s).drop p))]) ∧ Below W.heap.size W w' := fun W => one_any s p W hs hp
      have hne := drop_ne s p hp
      have hw := wd_pos _ hne
      rw [List.length_drop, bl_len] at hw
      have hw2 : wd ((bl s).drop p) ≤ s.size - p := hw.2
      have HX : Hid ((acc ++ [sg ((bl s).drop p)]) ++ signs ((bl s).drop (p + wd ((bl s).drop p))) = signs (bl s)) := by
        refine Lib.hid ?_
        rw [← hx.out, signs_cons _ hne, drop_drop]
        simp
      have hz1' := hb.size
      clear hne hx
      generalize sg ((bl s).drop p) = c at hone HX
      generalize wd ((bl s).drop p) = k at hone HX hw hw2
      go_wp2_with fail
      refine (hone _).mono ?_
      rintro e w1 ⟨rfl, hb1⟩
      clear hone
      have hown1 := owns_below hown hb1
      have hz2' := hb1.size
      have HB := Lib.hid (hb.trans (hb1.mono hb.size))
      clear hb hb1
      go_wp2_with (at_builtin; refine wpList_append_own _ rfl _ _ 23 rfl w.heap.size 3 i0 (.int .i64 0) 1 8 Tryd.underlying23 hi hz0 hz1 hz2 rfl (by decide) _ _ _ rfl (hown1.alloc _) ⟨w1.heap.size, 0, none⟩ 1 1 [.int .i64 c] rfl rfl ?c1 ?c2 ?c3 ?c4 ?c5 ?_)
      case c1 => exact new_int w1 _
      case c2 => intro u hu; simp at hu; subst hu; rfl
      case c3 => unfold maxLen; omega
      case c4 => omega
      case c5 => simp; omega
      intro v' w2 hown2 hgrow _
      have HB2 := Lib.hid (((HB.out.alloc (by omega) _)).grown hgrow (by simp; omega) (fun k hk => (hown1.lt k hk).1))
      go_wp2
      go_roundw
      case rel =>
        refine ⟨p + k, acc ++ [c], by omega, int_eq (by omega), ?_, HB2.out, by simp; omega, HX⟩
        simpa using hown2
      case measure => simp [intOf]; omega
    · have hp' : ¬ (p : Int) < (s.size : Int) := by omega
      have e := hx.out
      rw [drop_end s p hp, signs_nil, List.append_nil] at e
      have HE := Lib.hid e
      clear e hx
      go_wp2
      go_ret
      exact ⟨_, rfl, by rw [← HE.out]; exact readsI_owns hown, hb⟩

def RClipAt (s : ByteArray) (n : Int) (w : World) (a k : Value) (wr : World) : Prop :=
  ∃ p j : Nat, a = .int .i64 p ∧ k = .int .i64 j ∧ p ≤ s.size ∧ j ≤ p ∧ Below w.heap.size w wr ∧ Hid (cl (bl s) n.toNat = p + cl ((bl s).drop p) (n - j).toNat)
set_option maxHeartbeats 1000000 in
theorem refClip_any (s : ByteArray) (n : Int) (w : World) (hs : s.size ≤ 1000000) (h1 : -9223372036854775808 ≤ n) (h2 : n ≤ 9223372036854775807) :
    Calls Tryd.prog 13 #[.string s, .int .i64 n] w fun e w' => e = .returned (.string (ba (clipL (bl s) n))) ∧ Below w.heap.size w w' := by
  have HI : Hid (RClipAt s n w (.int .i64 0) (.int .i64 0) w) := ⟨0, 0, rfl, rfl, Nat.zero_le _, Nat.le_refl _, Below.refl _ _, Lib.hid (by rw [List.drop_zero]; simp)⟩
  go_enter Tryd.func13, Tryd.ntmps13
  go_wp2
  go_loopw [5, 6] (fun a k wr => RClipAt s n w a k wr) (fun a _ _ => s.size - (intOf a).toNat)
  case atStart => exact HI.out
  case round =>
    clear HI
    obtain ⟨p, j, rfl, rfl, hps, hjp, hb, hc⟩ := hrel
    by_cases hj : (j : Int) < n
    · by_cases hp : p < s.size
      · have hp' : (p : Int) < (s.size : Int) := by omega
        have hone : ∀ W, Calls Tryd.prog 23 #[.string s, .int .i64 p] W fun e w' => e = .returned (.tuple #[.int .i64 (sg ((bl s).drop p)), .int .i64 (wd ((bl s).drop p))]) ∧ Below W.heap.size W w' := fun W => one_any s p W hs hp
        have hne := drop_ne s p hp
        have hw := wd_pos _ hne
        rw [List.length_drop, bl_len] at hw
        have hw2 : wd ((bl s).drop p) ≤ s.size - p := hw.2
        have HC : Hid (cl (bl s) n.toNat = (p + wd ((bl s).drop p)) + cl ((bl s).drop (p + wd ((bl s).drop p))) (n - (j + 1 : Nat)).toNat) := by
          refine Lib.hid ?_
          have e : (n - (j : Int)).toNat = (n - (j + 1 : Nat)).toNat + 1 := by omega
          rw [hc.out, e, cl_cons _ hne, drop_drop]
          omega
        have HB := Lib.hid hb
        have hbs := hb.size
        clear hne hc hb
        generalize sg ((bl s).drop p) = c at hone
        generalize wd ((bl s).drop p) = k at hone HC hw hw2
        go_wp2_with fail
        refine (hone _).mono ?_
        rintro e w1 ⟨rfl, hb1⟩
        have HB2 := Lib.hid (HB.out.trans (hb1.mono hbs))
        clear hone hb1
        go_wp2
        go_roundw
        case rel => exact ⟨p + k, j + 1, int_eq (by omega), int_eq (by omega), by omega, by omega, HB2.out, HC⟩
        case measure => simp [intOf]; omega
      · have hp' : ¬ (p : Int) < (s.size : Int) := by omega
        have e := hc.out
        rw [drop_end s p hp, cl_nil] at e
        have HE := Lib.hid e
        clear e hc
        go_wp2
        go_ret
        refine ⟨?_, hb⟩
        show Ending.returned (.string (s.extract 0 p)) = _
        refine congrArg (fun x => Ending.returned (.string x)) (ba_ext ?_)
        rw [bl_to, bl_ba]
        unfold clipL
        rw [HE.out]; rfl
    · have e := hc.out
      rw [show (n - (j : Int)).toNat = 0 by omega, cl_zero] at e
      have HE := Lib.hid e
      clear e hc
      go_wp2
      go_ret
      refine ⟨?_, hb⟩
      show Ending.returned (.string (s.extract 0 p)) = _
      refine congrArg (fun x => Ending.returned (.string x)) (ba_ext ?_)
      rw [bl_to, bl_ba]
      unfold clipL
      rw [HE.out]; rfl

/-- Bytes that were just laid, as a string. -/
theorem row_laid (w : World) (ns : List Int) : (convert 38 9 (.slice (some ⟨w.heap.size, 0, none⟩) ns.length ns.length)).run Tryd.prog (w.alloc (.cells (ns.map (Value.int .u8)).toArray 5)) = .ok (.string (strOfNums ns)) (w.alloc (.cells (ns.map (Value.int .u8)).toArray 5)) :=
  run_convert_bytes_arg (P := Tryd.prog) (w.alloc (.cells (ns.map (Value.int .u8)).toArray 5)) 38 5 Tryd.underlying38 Tryd.underlying5 w.heap.size 0 ns.length ns.length ns rfl (fun i hi => by
    rw [Lib.cell_of_heap (heap_alloc_new w _), Nat.zero_add]
    simp [hi]) 9 Tryd.underlying9
theorem laid1 (w : World) (a : Int) : (convert 38 9 (.slice (some ⟨w.heap.size, 0, none⟩) 1 1)).run Tryd.prog (w.alloc (.cells #[.int .u8 a] 5)) = .ok (.string (strOfNums [a])) (w.alloc (.cells #[.int .u8 a] 5)) := row_laid w [a]
theorem laid2 (w : World) (a b : Int) : (convert 38 9 (.slice (some ⟨w.heap.size, 0, none⟩) 2 2)).run Tryd.prog (w.alloc (.cells #[.int .u8 a, .int .u8 b] 5)) = .ok (.string (strOfNums [a, b])) (w.alloc (.cells #[.int .u8 a, .int .u8 b] 5)) := row_laid w [a, b]
theorem laid3 (w : World) (a b c : Int) : (convert 38 9 (.slice (some ⟨w.heap.size, 0, none⟩) 3 3)).run Tryd.prog (w.alloc (.cells #[.int .u8 a, .int .u8 b, .int .u8 c] 5)) = .ok (.string (strOfNums [a, b, c])) (w.alloc (.cells #[.int .u8 a, .int .u8 b, .int .u8 c] 5)) := row_laid w [a, b, c]
theorem laid4 (w : World) (a b c d : Int) : (convert 38 9 (.slice (some ⟨w.heap.size, 0, none⟩) 4 4)).run Tryd.prog (w.alloc (.cells #[.int .u8 a, .int .u8 b, .int .u8 c, .int .u8 d] 5)) = .ok (.string (strOfNums [a, b, c, d])) (w.alloc (.cells #[.int .u8 a, .int .u8 b, .int .u8 c, .int .u8 d] 5)) := row_laid w [a, b, c, d]
theorem strOf_nil : strOfNums [] = ba [] := rfl
theorem strOf_byts (ns : List Nat) : strOfNums (ns.map fun n : Nat => (n : Int)) = ba (ns.map byt) := by
  unfold strOfNums ba
  rw [List.map_map]
  rfl
theorem take_succ_bl (s : ByteArray) (p : Nat) (h : p < s.size) : (bl s).take (p + 1) = (bl s).take p ++ [s[p]'h] := by
  rw [List.take_succ_eq_append_getElem (by rw [bl_len]; exact h)]
  rfl
theorem one_ext (s : ByteArray) (p : Nat) (h : p < s.size) : s.extract p (p + 1) = ba [s[p]'h] := by
  apply ba_ext
  rw [bl_extract, bl_ba, Nat.add_sub_cancel_left]
  rw [List.drop_eq_getElem_cons (by rw [bl_len]; exact h)]
  rfl
def RFoldAt (s : ByteArray) (w : World) (o i : Value) (wr : World) : Prop :=
  ∃ p : Nat, p ≤ s.size ∧ i = .int .i64 p ∧ o = .string (ba (foldL ((bl s).take p))) ∧ Below w.heap.size w wr
set_option maxHeartbeats 1000000 in
theorem refFold_any (s : ByteArray) (w : World) (hs : s.size ≤ 1000000) :
    Calls Tryd.prog 15 #[.string s] w fun e w' => e = .returned (.string (ba (foldL (bl s)))) ∧ Below w.heap.size w w' := by
  have HI : Hid (RFoldAt s w (.string ⟨#[]⟩) (.int .i64 0) w) := ⟨0, Nat.zero_le _, rfl, rfl, Below.refl _ _⟩
  go_enter Tryd.func15, Tryd.ntmps15
  go_wp2
  go_loopw [3, 4] (fun o i wr => RFoldAt s w o i wr) (fun _ i _ => s.size - (intOf i).toNat)
  case atStart => exact HI.out
  case round =>
    clear HI
    obtain ⟨p, hps, rfl, rfl, hb⟩ := hrel
    have hos : (ba (foldL ((bl s).take p))).size ≤ 1000000 := by
      rw [ba_size]
      unfold foldL
      rw [List.length_map, List.length_take, bl_len]
      omega
    by_cases hp : p < s.size
    · have hp' : (p : Int) < (s.size : Int) := by omega
      have hN : Hid (ba (foldL ((bl s).take (p + 1))) = ba (foldL ((bl s).take p)) ++ ba [fd (s[p]'hp)]) := Lib.hid (by rw [take_succ_bl s p hp, ba_append]; simp [foldL])
      have hf := fd_nat (s[p]'hp)
      have h8 := (s[p]'hp).toNat_lt
      have HB := Lib.hid hb
      have hbs := hb.size
      have hE := Lib.hid (one_ext s p hp)
      have hez : (s.extract p (p + 1)).size = 1 := by rw [hE.out, ba_size]; rfl
      clear hb
      generalize hF : ba (foldL ((bl s).take p)) = o at *
      clear hF
      by_cases c1 : 65 ≤ (s[p]'hp).toNat
      · by_cases c2 : (s[p]'hp).toNat ≤ 90
        · have d1 : (65 : Int) ≤ ((s[p]'hp).toNat : Int) := by omega
          have d2 : ((s[p]'hp).toNat : Int) ≤ 90 := by omega
          have hl := laid1 wr (((s[p]'hp).toNat : Int) + 32)
          have hst : Hid (strOfNums [((s[p]'hp).toNat : Int) + 32] = ba [fd (s[p]'hp)]) := by
            refine Lib.hid ?_
            rw [if_pos ⟨c1, c2⟩] at hf
            have := strOf_byts [(s[p]'hp).toNat + 32]
            simp only [List.map_cons, List.map_nil] at this
            rw [byt_eq (fd (s[p]'hp)) _ hf] at this
            exact this
          rw [hst.out] at hl
          have hqz : (ba [fd (s[p]'hp)]).size = 1 := by rw [ba_size]; rfl
          clear hf
          generalize ba [fd (s[p]'hp)] = q at hl hqz hN
          go_wp2
          go_roundw
          case rel => exact ⟨p + 1, hp, int_eq (by omega), by rw [hN.out], HB.out.alloc hbs _⟩
          case measure => simp [intOf]; omega
        · have d1 : (65 : Int) ≤ ((s[p]'hp).toNat : Int) := by omega
          have d2 : ¬ ((s[p]'hp).toNat : Int) ≤ 90 := by omega
          have hfx : Hid (fd (s[p]'hp) = s[p]'hp) := Lib.hid (by unfold fd; rw [if_neg (by omega)])
          clear hf
          go_wp2
          go_roundw
          case rel => exact ⟨p + 1, hp, int_eq (by omega), by rw [hN.out, hfx.out, ← hE.out], HB.out⟩
          case measure => simp [intOf]; omega
      · have d1 : ¬ (65 : Int) ≤ ((s[p]'hp).toNat : Int) := by omega
        have hfx : Hid (fd (s[p]'hp) = s[p]'hp) := Lib.hid (by unfold fd; rw [if_neg (by omega)])
        clear hf
        go_wp2
        go_roundw
        case rel => exact ⟨p + 1, hp, int_eq (by omega), by rw [hN.out, hfx.out, ← hE.out], HB.out⟩
        case measure => simp [intOf]; omega
    · have hp' : ¬ (p : Int) < (s.size : Int) := by omega
      have hE : Hid ((bl s).take p = bl s) := Lib.hid (List.take_of_length_le (by rw [bl_len]; omega))
      go_wp2
      go_ret
      exact ⟨by rw [hE.out]; rfl, hb⟩
end Go.Proofs.YtpmhajpaijngmaaDoor.Glyph
