/-
  The walk of the law NetsApart.
-/
import Derived.Test.YtpjbhcampfjgdaaDoorWalkH
namespace Go.Proofs.YtpjbhcampfjgdaaDoor
open Go.RowKit

theorem same_false (v u : Value) (xs ys : List ByteArray) (w : World) (hx : Reads w v xs) (hy : Reads w u ys) (hl : xs.length ≤ 100000) (hm : ys.length ≤ 100000) (H : Hid (¬ xs = ys)) :
    Calls Tryd.prog 15 #[v, u] w fun e w' => e = .returned (.bool false) ∧ Below w.heap.size w w' := by
  refine (same_any v u xs ys w hx hy hl hm).mono fun e w' h => ?_
  rw [decide_eq_false H.out] at h
  exact h
theorem map_bl_inj (xs ys : List ByteArray) (h : xs.map bl = ys.map bl) : xs = ys := by
  have h2 := congrArg (List.map ba) h
  rwa [map_ba_bl, map_ba_bl] at h2
theorem rows_differ (xs ys : List ByteArray) (x y : ByteArray) (hx : bl x = rowS (xs.map bl)) (hy : bl y = rowS (ys.map bl)) (sx : Small xs) (sy : Small ys) (h : ¬ xs = ys) : (x.toList == y.toList) = false := by
  rw [beq_eq_false_iff_ne]
  intro e
  rw [list_bl, list_bl, hx, hy] at e
  apply h
  apply map_bl_inj
  refine row_inj _ _ ?_ ?_ e
  · intro s hs
    obtain ⟨t, ht, rfl⟩ := List.mem_map.1 hs
    have := sx.2 t ht
    rw [bl_len]; omega
  · intro s hs
    obtain ⟨t, ht, rfl⟩ := List.mem_map.1 hs
    have := sy.2 t ht
    rw [bl_len]; omega
theorem map_bl_ba (ts : List (List UInt8)) : (ts.map ba).map bl = ts := by
  rw [List.map_map]
  conv => rhs; rw [← List.map_id ts]
  apply List.map_congr_left
  intro l _
  exact bl_ba l
theorem texts_row_small (s : ByteArray) (ts : List (List UInt8)) (h : textsS (bl s) = (ts, 0)) (h3 : s.size ≤ 3000) : Small (ts.map ba) ∧ bl s = rowS ((ts.map ba).map bl) := by
  obtain ⟨h1, h2, h4⟩ := texts_small s ts h
  refine ⟨⟨by simp; omega, ?_⟩, by rw [map_bl_ba, h4]⟩
  intro t ht
  obtain ⟨l, hl, rfl⟩ := List.mem_map.1 ht
  have := h2 l hl
  rw [← bl_len, bl_ba]
  omega
theorem small_of50 (ss : List ByteArray) (h1 : ss.length ≤ 50) (h : ∀ i, i < ss.length → (ss.getD i ByteArray.empty).size ≤ 300) : Small ss := small_of ss (by omega) h

set_option maxHeartbeats 4000000 in
theorem netsApart_nil_nil (w : World) (a : Option Addr) (cap : Nat) (a' : Option Addr) (cap' : Nat) (s : ByteArray) (h3 : s.size ≤ 3000) (ht : Tab w) :
    Calls Tryd.prog 6 #[.slice a 0 cap, .slice a' 0 cap', .string s] w fun e w' => e = .returned (.bool true) ∧ Below w.heap.size w w' := by
  have HT := Lib.hid ht
  clear ht
  obtain ⟨xs, hss⟩ : ∃ ss : List ByteArray, ss = [] := ⟨_, rfl⟩
  have RX : Hid (Reads w (.slice a 0 cap) xs) := .inl ⟨a, cap, rfl, hss⟩
  have HSX : Hid (Small xs) := by rw [hss]; exact ⟨by simp, by simp⟩
  clear hss
  obtain ⟨ys, hss⟩ : ∃ ss : List ByteArray, ss = [] := ⟨_, rfl⟩
  have RY : Hid (Reads w (.slice a' 0 cap') ys) := .inl ⟨a', cap', rfl, hss⟩
  have HSY : Hid (Small ys) := by rw [hss]; exact ⟨by simp, by simp⟩
  clear hss
  have hT := texts_two s
  go_enter Tryd.func6, Tryd.ntmps6
  go_wp2_with (go_at_call 7; refine (works_any _ HT.out).mono ?_; rintro e w1 ⟨rfl, hb1⟩)
  go_loop [7, 28] (fun _ i => i = .int .i64 0) (fun _ i => 0 - (intOf i).toNat)
  case atStart => exact rfl
  case round =>
    subst hrel
    go_wp2_with fail
    go_loop [8, 40] (fun _ i => i = .int .i64 0) (fun _ i => 0 - (intOf i).toNat)
    case atStart => exact rfl
    case round =>
      subst hrel
      have HLX : Hid (xs.length ≤ 100000) := by
        show xs.length ≤ 100000
        have := HSX.out.1
        omega
      have HLY : Hid (ys.length ≤ 100000) := by
        show ys.length ≤ 100000
        have := HSY.out.1
        omega
      by_cases hxy : xs = ys
      · obtain ⟨x, hx⟩ : ∃ x, bl x = rowS (xs.map bl) := ⟨ba (rowS (xs.map bl)), bl_ba _⟩
        have HX := Lib.hid hx
        have HY : Hid (bl x = rowS (ys.map bl)) := by
          show bl x = rowS (ys.map bl)
          rw [← hxy]; exact hx
        have RY2 : Hid (Reads w (.slice a' 0 cap') xs) := by
          show Reads w (.slice a' 0 cap') xs
          rw [hxy]; exact RY.out
        clear hx hxy
        go_wp2_with fail
        refine (row_b (.slice a 0 cap) xs x _ (RX.out.below hb1) HSX.out (HT.out.below hb1) HX).mono ?_
        rintro e w2 ⟨rfl, hb2⟩
        have HB2 : Hid (Below w.heap.size w w2) := hb1.trans (hb2.mono hb1.size)
        go_wp2_with fail
        refine (row_b (.slice a' 0 cap') ys x _ (RY.out.below HB2.out) HSY.out (HT.out.below HB2.out) HY).mono ?_
        rintro e w3 ⟨rfl, hb3⟩
        have HB3 : Hid (Below w.heap.size w w3) := HB2.out.trans (hb3.mono HB2.out.size)
        go_wp2_with fail
        refine (same_true (.slice a 0 cap) (.slice a' 0 cap') xs _ (RX.out.below HB3.out) (RY2.out.below HB3.out) HLX.out).mono ?_
        rintro e w4 ⟨rfl, hb4⟩
        have HB4 : Hid (Below w.heap.size w w4) := HB3.out.trans (hb4.mono HB3.out.size)
        rcases hT with ⟨c, hT, hc⟩ | ⟨ts, hT⟩
        · have hne : ((c : Int) != 0) = true := by simpa using hc
          have H := Lib.hid hT
          clear hT hc
          go_wp2_with fail
          refine (texts_c s c _ (by omega) H).mono ?_
          rintro e w5 ⟨a1, c1, rfl, hb5⟩
          go_wp2_with fail
          go_ret
          exact ⟨rfl, HB4.out.trans (hb5.mono HB4.out.size)⟩
        · have HTS := Lib.hid (texts_row_small s ts hT h3)
          have htl : ts.length ≤ 3000 := by have := texts_small s ts hT; omega
          have H := Lib.hid hT
          clear hT
          go_wp2_with fail
          refine (texts_0 s ts _ (by omega) H).mono ?_
          rintro e w5 ⟨a1, c1, rfl, R1, hb5⟩
          have HB5 : Hid (Below w.heap.size w w5) := HB4.out.trans (hb5.mono HB4.out.size)
          go_wp2_with fail
          refine (row_b (.slice a1 ts.length c1) (ts.map ba) s _ R1.out HTS.out.1 (HT.out.below HB5.out) HTS.out.2).mono ?_
          rintro e w6 ⟨rfl, hb6⟩
          go_wp2_with fail
          go_ret
          exact ⟨rfl, HB5.out.trans (hb6.mono HB5.out.size)⟩
      · obtain ⟨x, hx⟩ : ∃ x, bl x = rowS (xs.map bl) := ⟨ba (rowS (xs.map bl)), bl_ba _⟩
        obtain ⟨y, hy⟩ : ∃ y, bl y = rowS (ys.map bl) := ⟨ba (rowS (ys.map bl)), bl_ba _⟩
        have hd := rows_differ xs ys x y hx hy HSX.out HSY.out hxy
        have HX := Lib.hid hx
        have HY := Lib.hid hy
        have HN := Lib.hid hxy
        clear hx hy hxy
        go_wp2_with fail
        refine (row_b (.slice a 0 cap) xs x _ (RX.out.below hb1) HSX.out (HT.out.below hb1) HX).mono ?_
        rintro e w2 ⟨rfl, hb2⟩
        have HB2 : Hid (Below w.heap.size w w2) := hb1.trans (hb2.mono hb1.size)
        go_wp2_with fail
        refine (row_b (.slice a' 0 cap') ys y _ (RY.out.below HB2.out) HSY.out (HT.out.below HB2.out) HY).mono ?_
        rintro e w3 ⟨rfl, hb3⟩
        have HB3 : Hid (Below w.heap.size w w3) := HB2.out.trans (hb3.mono HB2.out.size)
        go_wp2_with fail
        refine (same_false (.slice a 0 cap) (.slice a' 0 cap') xs ys _ (RX.out.below HB3.out) (RY.out.below HB3.out) HLX.out HLY.out HN).mono ?_
        rintro e w4 ⟨rfl, hb4⟩
        have HB4 : Hid (Below w.heap.size w w4) := HB3.out.trans (hb4.mono HB3.out.size)
        rcases hT with ⟨c, hT, hc⟩ | ⟨ts, hT⟩
        · have hne : ((c : Int) != 0) = true := by simpa using hc
          have H := Lib.hid hT
          clear hT hc
          go_wp2_with fail
          refine (texts_c s c _ (by omega) H).mono ?_
          rintro e w5 ⟨a1, c1, rfl, hb5⟩
          go_wp2_with fail
          go_ret
          exact ⟨rfl, HB4.out.trans (hb5.mono HB4.out.size)⟩
        · have HTS := Lib.hid (texts_row_small s ts hT h3)
          have htl : ts.length ≤ 3000 := by have := texts_small s ts hT; omega
          have H := Lib.hid hT
          clear hT
          go_wp2_with fail
          refine (texts_0 s ts _ (by omega) H).mono ?_
          rintro e w5 ⟨a1, c1, rfl, R1, hb5⟩
          have HB5 : Hid (Below w.heap.size w w5) := HB4.out.trans (hb5.mono HB4.out.size)
          go_wp2_with fail
          refine (row_b (.slice a1 ts.length c1) (ts.map ba) s _ R1.out HTS.out.1 (HT.out.below HB5.out) HTS.out.2).mono ?_
          rintro e w6 ⟨rfl, hb6⟩
          go_wp2_with fail
          go_ret
          exact ⟨rfl, HB5.out.trans (hb6.mono HB5.out.size)⟩

set_option maxHeartbeats 4000000 in
theorem netsApart_nil_some (w : World) (a : Option Addr) (cap : Nat) (b' off' cap' : Nat) (ys : List ByteArray) (hry : Reads w (.slice (some ⟨b', off', none⟩) ys.length cap') ys) (hly : ys.length ≤ 50) (g3 : b' < w.heap.size) (hzy : ∀ i, i < ys.length → (ys.getD i ByteArray.empty).size ≤ 9223372036854775807) (hcy : ∀ i, i < ys.length → w.cell? ⟨b', off' + i, none⟩ = some (.string (ys.getD i ByteArray.empty))) (s : ByteArray) (h3 : s.size ≤ 3000) (ht : Tab w) :
    Calls Tryd.prog 6 #[.slice a 0 cap, .slice (some ⟨b', off', none⟩) ys.length cap', .string s] w fun e w' => e = .returned (.bool true) ∧ Below w.heap.size w w' := by
  have HT := Lib.hid ht
  clear ht
  obtain ⟨xs, hss⟩ : ∃ ss : List ByteArray, ss = [] := ⟨_, rfl⟩
  have RX : Hid (Reads w (.slice a 0 cap) xs) := .inl ⟨a, cap, rfl, hss⟩
  have HSX : Hid (Small xs) := by rw [hss]; exact ⟨by simp, by simp⟩
  clear hss
  have RY := Lib.hid hry
  have HC2 := Lib.hid hcy
  have HZ2 := Lib.hid hzy
  clear hry hcy hzy
  have hT := texts_two s
  go_enter Tryd.func6, Tryd.ntmps6
  go_wp2_with (go_at_call 7; refine (works_any _ HT.out).mono ?_; rintro e w1 ⟨rfl, hb1⟩)
  go_loop [7, 28] (fun _ i => i = .int .i64 0) (fun _ i => 0 - (intOf i).toNat)
  case atStart => exact rfl
  case round =>
    subst hrel
    go_wp2_with fail
    go_loop [8, 40] (fun _ i => RowsAt ys i) (fun _ i => ys.length - (intOf i).toNat)
    case atStart => exact ⟨0, Nat.zero_le _, rfl, fun j hj => absurd hj (Nat.not_lt_zero j)⟩
    case round =>
      obtain ⟨m, hm, rfl, HA2⟩ := hrel
      by_cases hlt2 : m < ys.length
      · clear hT
        have hcell := (hb1.cell (p := ⟨b', off' + m, none⟩) g3).trans (HC2.out m hlt2)
        have hzk := HZ2.out m hlt2
        have HG := Lib.hid (rows_step ys m HA2)
        generalize ys.getD m ByteArray.empty = q at *
        by_cases hq : q.size ≤ 300
        · go_wp2_with fail
          go_round
          case rel => exact ⟨m + 1, by omega, by simp, HG.out hq⟩
          case measure => simp [intOf]; omega
        · go_wp2_with fail
          go_ret
          exact ⟨rfl, hb1⟩
      · have HSY : Hid (Small ys) := small_of50 ys hly fun i hi => HA2.out i (by omega)
        have HLX : Hid (xs.length ≤ 100000) := by
          show xs.length ≤ 100000
          have := HSX.out.1
          omega
        have HLY : Hid (ys.length ≤ 100000) := by
          show ys.length ≤ 100000
          have := HSY.out.1
          omega
        by_cases hxy : xs = ys
        · obtain ⟨x, hx⟩ : ∃ x, bl x = rowS (xs.map bl) := ⟨ba (rowS (xs.map bl)), bl_ba _⟩
          have HX := Lib.hid hx
          have HY : Hid (bl x = rowS (ys.map bl)) := by
            show bl x = rowS (ys.map bl)
            rw [← hxy]; exact hx
          have RY2 : Hid (Reads w (.slice (some ⟨b', off', none⟩) ys.length cap') xs) := by
            show Reads w (.slice (some ⟨b', off', none⟩) ys.length cap') xs
            rw [hxy]; exact RY.out
          clear hx hxy
          go_wp2_with fail
          refine (row_b (.slice a 0 cap) xs x _ (RX.out.below hb1) HSX.out (HT.out.below hb1) HX).mono ?_
          rintro e w2 ⟨rfl, hb2⟩
          have HB2 : Hid (Below w.heap.size w w2) := hb1.trans (hb2.mono hb1.size)
          go_wp2_with fail
          refine (row_b (.slice (some ⟨b', off', none⟩) ys.length cap') ys x _ (RY.out.below HB2.out) HSY.out (HT.out.below HB2.out) HY).mono ?_
          rintro e w3 ⟨rfl, hb3⟩
          have HB3 : Hid (Below w.heap.size w w3) := HB2.out.trans (hb3.mono HB2.out.size)
          go_wp2_with fail
          refine (same_true (.slice a 0 cap) (.slice (some ⟨b', off', none⟩) ys.length cap') xs _ (RX.out.below HB3.out) (RY2.out.below HB3.out) HLX.out).mono ?_
          rintro e w4 ⟨rfl, hb4⟩
          have HB4 : Hid (Below w.heap.size w w4) := HB3.out.trans (hb4.mono HB3.out.size)
          rcases hT with ⟨c, hT, hc⟩ | ⟨ts, hT⟩
          · have hne : ((c : Int) != 0) = true := by simpa using hc
            have H := Lib.hid hT
            clear hT hc
            go_wp2_with fail
            refine (texts_c s c _ (by omega) H).mono ?_
            rintro e w5 ⟨a1, c1, rfl, hb5⟩
            go_wp2_with fail
            go_ret
            exact ⟨rfl, HB4.out.trans (hb5.mono HB4.out.size)⟩
          · have HTS := Lib.hid (texts_row_small s ts hT h3)
            have htl : ts.length ≤ 3000 := by have := texts_small s ts hT; omega
            have H := Lib.hid hT
            clear hT
            go_wp2_with fail
            refine (texts_0 s ts _ (by omega) H).mono ?_
            rintro e w5 ⟨a1, c1, rfl, R1, hb5⟩
            have HB5 : Hid (Below w.heap.size w w5) := HB4.out.trans (hb5.mono HB4.out.size)
            go_wp2_with fail
            refine (row_b (.slice a1 ts.length c1) (ts.map ba) s _ R1.out HTS.out.1 (HT.out.below HB5.out) HTS.out.2).mono ?_
            rintro e w6 ⟨rfl, hb6⟩
            go_wp2_with fail
            go_ret
            exact ⟨rfl, HB5.out.trans (hb6.mono HB5.out.size)⟩
        · obtain ⟨x, hx⟩ : ∃ x, bl x = rowS (xs.map bl) := ⟨ba (rowS (xs.map bl)), bl_ba _⟩
          obtain ⟨y, hy⟩ : ∃ y, bl y = rowS (ys.map bl) := ⟨ba (rowS (ys.map bl)), bl_ba _⟩
          have hd := rows_differ xs ys x y hx hy HSX.out HSY.out hxy
          have HX := Lib.hid hx
          have HY := Lib.hid hy
          have HN := Lib.hid hxy
          clear hx hy hxy
          go_wp2_with fail
          refine (row_b (.slice a 0 cap) xs x _ (RX.out.below hb1) HSX.out (HT.out.below hb1) HX).mono ?_
          rintro e w2 ⟨rfl, hb2⟩
          have HB2 : Hid (Below w.heap.size w w2) := hb1.trans (hb2.mono hb1.size)
          go_wp2_with fail
          refine (row_b (.slice (some ⟨b', off', none⟩) ys.length cap') ys y _ (RY.out.below HB2.out) HSY.out (HT.out.below HB2.out) HY).mono ?_
          rintro e w3 ⟨rfl, hb3⟩
          have HB3 : Hid (Below w.heap.size w w3) := HB2.out.trans (hb3.mono HB2.out.size)
          go_wp2_with fail
          refine (same_false (.slice a 0 cap) (.slice (some ⟨b', off', none⟩) ys.length cap') xs ys _ (RX.out.below HB3.out) (RY.out.below HB3.out) HLX.out HLY.out HN).mono ?_
          rintro e w4 ⟨rfl, hb4⟩
          have HB4 : Hid (Below w.heap.size w w4) := HB3.out.trans (hb4.mono HB3.out.size)
          rcases hT with ⟨c, hT, hc⟩ | ⟨ts, hT⟩
          · have hne : ((c : Int) != 0) = true := by simpa using hc
            have H := Lib.hid hT
            clear hT hc
            go_wp2_with fail
            refine (texts_c s c _ (by omega) H).mono ?_
            rintro e w5 ⟨a1, c1, rfl, hb5⟩
            go_wp2_with fail
            go_ret
            exact ⟨rfl, HB4.out.trans (hb5.mono HB4.out.size)⟩
          · have HTS := Lib.hid (texts_row_small s ts hT h3)
            have htl : ts.length ≤ 3000 := by have := texts_small s ts hT; omega
            have H := Lib.hid hT
            clear hT
            go_wp2_with fail
            refine (texts_0 s ts _ (by omega) H).mono ?_
            rintro e w5 ⟨a1, c1, rfl, R1, hb5⟩
            have HB5 : Hid (Below w.heap.size w w5) := HB4.out.trans (hb5.mono HB4.out.size)
            go_wp2_with fail
            refine (row_b (.slice a1 ts.length c1) (ts.map ba) s _ R1.out HTS.out.1 (HT.out.below HB5.out) HTS.out.2).mono ?_
            rintro e w6 ⟨rfl, hb6⟩
            go_wp2_with fail
            go_ret
            exact ⟨rfl, HB5.out.trans (hb6.mono HB5.out.size)⟩

set_option maxHeartbeats 4000000 in
theorem netsApart_some_nil (w : World) (b off cap : Nat) (xs : List ByteArray) (hrx : Reads w (.slice (some ⟨b, off, none⟩) xs.length cap) xs) (hlx : xs.length ≤ 50) (b3 : b < w.heap.size) (hzx : ∀ i, i < xs.length → (xs.getD i ByteArray.empty).size ≤ 9223372036854775807) (hcx : ∀ i, i < xs.length → w.cell? ⟨b, off + i, none⟩ = some (.string (xs.getD i ByteArray.empty))) (a' : Option Addr) (cap' : Nat) (s : ByteArray) (h3 : s.size ≤ 3000) (ht : Tab w) :
    Calls Tryd.prog 6 #[.slice (some ⟨b, off, none⟩) xs.length cap, .slice a' 0 cap', .string s] w fun e w' => e = .returned (.bool true) ∧ Below w.heap.size w w' := by
  have HT := Lib.hid ht
  clear ht
  have RX := Lib.hid hrx
  have HC1 := Lib.hid hcx
  have HZ1 := Lib.hid hzx
  clear hrx hcx hzx
  obtain ⟨ys, hss⟩ : ∃ ss : List ByteArray, ss = [] := ⟨_, rfl⟩
  have RY : Hid (Reads w (.slice a' 0 cap') ys) := .inl ⟨a', cap', rfl, hss⟩
  have HSY : Hid (Small ys) := by rw [hss]; exact ⟨by simp, by simp⟩
  clear hss
  have hT := texts_two s
  go_enter Tryd.func6, Tryd.ntmps6
  go_wp2_with (go_at_call 7; refine (works_any _ HT.out).mono ?_; rintro e w1 ⟨rfl, hb1⟩)
  go_loop [7, 28] (fun _ i => RowsAt xs i) (fun _ i => xs.length - (intOf i).toNat)
  case atStart => exact ⟨0, Nat.zero_le _, rfl, fun j hj => absurd hj (Nat.not_lt_zero j)⟩
  case round =>
    obtain ⟨k, hk, rfl, HA⟩ := hrel
    by_cases hlt : k < xs.length
    · clear hT
      have hcell := (hb1.cell (p := ⟨b, off + k, none⟩) b3).trans (HC1.out k hlt)
      have hzk := HZ1.out k hlt
      have HG := Lib.hid (rows_step xs k HA)
      generalize xs.getD k ByteArray.empty = q at *
      by_cases hq : q.size ≤ 300
      · go_wp2_with fail
        go_round
        case rel => exact ⟨k + 1, by omega, by simp, HG.out hq⟩
        case measure => simp [intOf]; omega
      · go_wp2_with fail
        go_ret
        exact ⟨rfl, hb1⟩
    · have HSX : Hid (Small xs) := small_of50 xs hlx fun i hi => HA.out i (by omega)
      go_wp2_with fail
      go_loop [8, 40] (fun _ i => i = .int .i64 0) (fun _ i => 0 - (intOf i).toNat)
      case atStart => exact rfl
      case round =>
        subst hrel
        have HLX : Hid (xs.length ≤ 100000) := by
          show xs.length ≤ 100000
          have := HSX.out.1
          omega
        have HLY : Hid (ys.length ≤ 100000) := by
          show ys.length ≤ 100000
          have := HSY.out.1
          omega
        by_cases hxy : xs = ys
        · obtain ⟨x, hx⟩ : ∃ x, bl x = rowS (xs.map bl) := ⟨ba (rowS (xs.map bl)), bl_ba _⟩
          have HX := Lib.hid hx
          have HY : Hid (bl x = rowS (ys.map bl)) := by
            show bl x = rowS (ys.map bl)
            rw [← hxy]; exact hx
          have RY2 : Hid (Reads w (.slice a' 0 cap') xs) := by
            show Reads w (.slice a' 0 cap') xs
            rw [hxy]; exact RY.out
          clear hx hxy
          go_wp2_with fail
          refine (row_b (.slice (some ⟨b, off, none⟩) xs.length cap) xs x _ (RX.out.below hb1) HSX.out (HT.out.below hb1) HX).mono ?_
          rintro e w2 ⟨rfl, hb2⟩
          have HB2 : Hid (Below w.heap.size w w2) := hb1.trans (hb2.mono hb1.size)
          go_wp2_with fail
          refine (row_b (.slice a' 0 cap') ys x _ (RY.out.below HB2.out) HSY.out (HT.out.below HB2.out) HY).mono ?_
          rintro e w3 ⟨rfl, hb3⟩
          have HB3 : Hid (Below w.heap.size w w3) := HB2.out.trans (hb3.mono HB2.out.size)
          go_wp2_with fail
          refine (same_true (.slice (some ⟨b, off, none⟩) xs.length cap) (.slice a' 0 cap') xs _ (RX.out.below HB3.out) (RY2.out.below HB3.out) HLX.out).mono ?_
          rintro e w4 ⟨rfl, hb4⟩
          have HB4 : Hid (Below w.heap.size w w4) := HB3.out.trans (hb4.mono HB3.out.size)
          rcases hT with ⟨c, hT, hc⟩ | ⟨ts, hT⟩
          · have hne : ((c : Int) != 0) = true := by simpa using hc
            have H := Lib.hid hT
            clear hT hc
            go_wp2_with fail
            refine (texts_c s c _ (by omega) H).mono ?_
            rintro e w5 ⟨a1, c1, rfl, hb5⟩
            go_wp2_with fail
            go_ret
            exact ⟨rfl, HB4.out.trans (hb5.mono HB4.out.size)⟩
          · have HTS := Lib.hid (texts_row_small s ts hT h3)
            have htl : ts.length ≤ 3000 := by have := texts_small s ts hT; omega
            have H := Lib.hid hT
            clear hT
            go_wp2_with fail
            refine (texts_0 s ts _ (by omega) H).mono ?_
            rintro e w5 ⟨a1, c1, rfl, R1, hb5⟩
            have HB5 : Hid (Below w.heap.size w w5) := HB4.out.trans (hb5.mono HB4.out.size)
            go_wp2_with fail
            refine (row_b (.slice a1 ts.length c1) (ts.map ba) s _ R1.out HTS.out.1 (HT.out.below HB5.out) HTS.out.2).mono ?_
            rintro e w6 ⟨rfl, hb6⟩
            go_wp2_with fail
            go_ret
            exact ⟨rfl, HB5.out.trans (hb6.mono HB5.out.size)⟩
        · obtain ⟨x, hx⟩ : ∃ x, bl x = rowS (xs.map bl) := ⟨ba (rowS (xs.map bl)), bl_ba _⟩
          obtain ⟨y, hy⟩ : ∃ y, bl y = rowS (ys.map bl) := ⟨ba (rowS (ys.map bl)), bl_ba _⟩
          have hd := rows_differ xs ys x y hx hy HSX.out HSY.out hxy
          have HX := Lib.hid hx
          have HY := Lib.hid hy
          have HN := Lib.hid hxy
          clear hx hy hxy
          go_wp2_with fail
          refine (row_b (.slice (some ⟨b, off, none⟩) xs.length cap) xs x _ (RX.out.below hb1) HSX.out (HT.out.below hb1) HX).mono ?_
          rintro e w2 ⟨rfl, hb2⟩
          have HB2 : Hid (Below w.heap.size w w2) := hb1.trans (hb2.mono hb1.size)
          go_wp2_with fail
          refine (row_b (.slice a' 0 cap') ys y _ (RY.out.below HB2.out) HSY.out (HT.out.below HB2.out) HY).mono ?_
          rintro e w3 ⟨rfl, hb3⟩
          have HB3 : Hid (Below w.heap.size w w3) := HB2.out.trans (hb3.mono HB2.out.size)
          go_wp2_with fail
          refine (same_false (.slice (some ⟨b, off, none⟩) xs.length cap) (.slice a' 0 cap') xs ys _ (RX.out.below HB3.out) (RY.out.below HB3.out) HLX.out HLY.out HN).mono ?_
          rintro e w4 ⟨rfl, hb4⟩
          have HB4 : Hid (Below w.heap.size w w4) := HB3.out.trans (hb4.mono HB3.out.size)
          rcases hT with ⟨c, hT, hc⟩ | ⟨ts, hT⟩
          · have hne : ((c : Int) != 0) = true := by simpa using hc
            have H := Lib.hid hT
            clear hT hc
            go_wp2_with fail
            refine (texts_c s c _ (by omega) H).mono ?_
            rintro e w5 ⟨a1, c1, rfl, hb5⟩
            go_wp2_with fail
            go_ret
            exact ⟨rfl, HB4.out.trans (hb5.mono HB4.out.size)⟩
          · have HTS := Lib.hid (texts_row_small s ts hT h3)
            have htl : ts.length ≤ 3000 := by have := texts_small s ts hT; omega
            have H := Lib.hid hT
            clear hT
            go_wp2_with fail
            refine (texts_0 s ts _ (by omega) H).mono ?_
            rintro e w5 ⟨a1, c1, rfl, R1, hb5⟩
            have HB5 : Hid (Below w.heap.size w w5) := HB4.out.trans (hb5.mono HB4.out.size)
            go_wp2_with fail
            refine (row_b (.slice a1 ts.length c1) (ts.map ba) s _ R1.out HTS.out.1 (HT.out.below HB5.out) HTS.out.2).mono ?_
            rintro e w6 ⟨rfl, hb6⟩
            go_wp2_with fail
            go_ret
            exact ⟨rfl, HB5.out.trans (hb6.mono HB5.out.size)⟩

set_option maxHeartbeats 4000000 in
theorem netsApart_some_some (w : World) (b off cap : Nat) (xs : List ByteArray) (hrx : Reads w (.slice (some ⟨b, off, none⟩) xs.length cap) xs) (hlx : xs.length ≤ 50) (b3 : b < w.heap.size) (hzx : ∀ i, i < xs.length → (xs.getD i ByteArray.empty).size ≤ 9223372036854775807) (hcx : ∀ i, i < xs.length → w.cell? ⟨b, off + i, none⟩ = some (.string (xs.getD i ByteArray.empty))) (b' off' cap' : Nat) (ys : List ByteArray) (hry : Reads w (.slice (some ⟨b', off', none⟩) ys.length cap') ys) (hly : ys.length ≤ 50) (g3 : b' < w.heap.size) (hzy : ∀ i, i < ys.length → (ys.getD i ByteArray.empty).size ≤ 9223372036854775807) (hcy : ∀ i, i < ys.length → w.cell? ⟨b', off' + i, none⟩ = some (.string (ys.getD i ByteArray.empty))) (s : ByteArray) (h3 : s.size ≤ 3000) (ht : Tab w) :
    Calls Tryd.prog 6 #[.slice (some ⟨b, off, none⟩) xs.length cap, .slice (some ⟨b', off', none⟩) ys.length cap', .string s] w fun e w' => e = .returned (.bool true) ∧ Below w.heap.size w w' := by
  have HT := Lib.hid ht
  clear ht
  have RX := Lib.hid hrx
  have HC1 := Lib.hid hcx
  have HZ1 := Lib.hid hzx
  clear hrx hcx hzx
  have RY := Lib.hid hry
  have HC2 := Lib.hid hcy
  have HZ2 := Lib.hid hzy
  clear hry hcy hzy
  have hT := texts_two s
  go_enter Tryd.func6, Tryd.ntmps6
  go_wp2_with (go_at_call 7; refine (works_any _ HT.out).mono ?_; rintro e w1 ⟨rfl, hb1⟩)
  go_loop [7, 28] (fun _ i => RowsAt xs i) (fun _ i => xs.length - (intOf i).toNat)
  case atStart => exact ⟨0, Nat.zero_le _, rfl, fun j hj => absurd hj (Nat.not_lt_zero j)⟩
  case round =>
    obtain ⟨k, hk, rfl, HA⟩ := hrel
    by_cases hlt : k < xs.length
    · clear hT
      have hcell := (hb1.cell (p := ⟨b, off + k, none⟩) b3).trans (HC1.out k hlt)
      have hzk := HZ1.out k hlt
      have HG := Lib.hid (rows_step xs k HA)
      generalize xs.getD k ByteArray.empty = q at *
      by_cases hq : q.size ≤ 300
      · go_wp2_with fail
        go_round
        case rel => exact ⟨k + 1, by omega, by simp, HG.out hq⟩
        case measure => simp [intOf]; omega
      · go_wp2_with fail
        go_ret
        exact ⟨rfl, hb1⟩
    · have HSX : Hid (Small xs) := small_of50 xs hlx fun i hi => HA.out i (by omega)
      go_wp2_with fail
      go_loop [8, 40] (fun _ i => RowsAt ys i) (fun _ i => ys.length - (intOf i).toNat)
      case atStart => exact ⟨0, Nat.zero_le _, rfl, fun j hj => absurd hj (Nat.not_lt_zero j)⟩
      case round =>
        obtain ⟨m, hm, rfl, HA2⟩ := hrel
        by_cases hlt2 : m < ys.length
        · clear hT
          have hcell := (hb1.cell (p := ⟨b', off' + m, none⟩) g3).trans (HC2.out m hlt2)
          have hzk := HZ2.out m hlt2
          have HG := Lib.hid (rows_step ys m HA2)
          generalize ys.getD m ByteArray.empty = q at *
          by_cases hq : q.size ≤ 300
          · go_wp2_with fail
            go_round
            case rel => exact ⟨m + 1, by omega, by simp, HG.out hq⟩
            case measure => simp [intOf]; omega
          · go_wp2_with fail
            go_ret
            exact ⟨rfl, hb1⟩
        · have HSY : Hid (Small ys) := small_of50 ys hly fun i hi => HA2.out i (by omega)
          have HLX : Hid (xs.length ≤ 100000) := by
            show xs.length ≤ 100000
            have := HSX.out.1
            omega
          have HLY : Hid (ys.length ≤ 100000) := by
            show ys.length ≤ 100000
            have := HSY.out.1
            omega
          by_cases hxy : xs = ys
          · obtain ⟨x, hx⟩ : ∃ x, bl x = rowS (xs.map bl) := ⟨ba (rowS (xs.map bl)), bl_ba _⟩
            have HX := Lib.hid hx
            have HY : Hid (bl x = rowS (ys.map bl)) := by
              show bl x = rowS (ys.map bl)
              rw [← hxy]; exact hx
            have RY2 : Hid (Reads w (.slice (some ⟨b', off', none⟩) ys.length cap') xs) := by
              show Reads w (.slice (some ⟨b', off', none⟩) ys.length cap') xs
              rw [hxy]; exact RY.out
            clear hx hxy
            go_wp2_with fail
            refine (row_b (.slice (some ⟨b, off, none⟩) xs.length cap) xs x _ (RX.out.below hb1) HSX.out (HT.out.below hb1) HX).mono ?_
            rintro e w2 ⟨rfl, hb2⟩
            have HB2 : Hid (Below w.heap.size w w2) := hb1.trans (hb2.mono hb1.size)
            go_wp2_with fail
            refine (row_b (.slice (some ⟨b', off', none⟩) ys.length cap') ys x _ (RY.out.below HB2.out) HSY.out (HT.out.below HB2.out) HY).mono ?_
            rintro e w3 ⟨rfl, hb3⟩
            have HB3 : Hid (Below w.heap.size w w3) := HB2.out.trans (hb3.mono HB2.out.size)
            go_wp2_with fail
            refine (same_true (.slice (some ⟨b, off, none⟩) xs.length cap) (.slice (some ⟨b', off', none⟩) ys.length cap') xs _ (RX.out.below HB3.out) (RY2.out.below HB3.out) HLX.out).mono ?_
            rintro e w4 ⟨rfl, hb4⟩
            have HB4 : Hid (Below w.heap.size w w4) := HB3.out.trans (hb4.mono HB3.out.size)
            rcases hT with ⟨c, hT, hc⟩ | ⟨ts, hT⟩
            · have hne : ((c : Int) != 0) = true := by simpa using hc
              have H := Lib.hid hT
              clear hT hc
              go_wp2_with fail
              refine (texts_c s c _ (by omega) H).mono ?_
              rintro e w5 ⟨a1, c1, rfl, hb5⟩
              go_wp2_with fail
              go_ret
              exact ⟨rfl, HB4.out.trans (hb5.mono HB4.out.size)⟩
            · have HTS := Lib.hid (texts_row_small s ts hT h3)
              have htl : ts.length ≤ 3000 := by have := texts_small s ts hT; omega
              have H := Lib.hid hT
              clear hT
              go_wp2_with fail
              refine (texts_0 s ts _ (by omega) H).mono ?_
              rintro e w5 ⟨a1, c1, rfl, R1, hb5⟩
              have HB5 : Hid (Below w.heap.size w w5) := HB4.out.trans (hb5.mono HB4.out.size)
              go_wp2_with fail
              refine (row_b (.slice a1 ts.length c1) (ts.map ba) s _ R1.out HTS.out.1 (HT.out.below HB5.out) HTS.out.2).mono ?_
              rintro e w6 ⟨rfl, hb6⟩
              go_wp2_with fail
              go_ret
              exact ⟨rfl, HB5.out.trans (hb6.mono HB5.out.size)⟩
          · obtain ⟨x, hx⟩ : ∃ x, bl x = rowS (xs.map bl) := ⟨ba (rowS (xs.map bl)), bl_ba _⟩
            obtain ⟨y, hy⟩ : ∃ y, bl y = rowS (ys.map bl) := ⟨ba (rowS (ys.map bl)), bl_ba _⟩
            have hd := rows_differ xs ys x y hx hy HSX.out HSY.out hxy
            have HX := Lib.hid hx
            have HY := Lib.hid hy
            have HN := Lib.hid hxy
            clear hx hy hxy
            go_wp2_with fail
            refine (row_b (.slice (some ⟨b, off, none⟩) xs.length cap) xs x _ (RX.out.below hb1) HSX.out (HT.out.below hb1) HX).mono ?_
            rintro e w2 ⟨rfl, hb2⟩
            have HB2 : Hid (Below w.heap.size w w2) := hb1.trans (hb2.mono hb1.size)
            go_wp2_with fail
            refine (row_b (.slice (some ⟨b', off', none⟩) ys.length cap') ys y _ (RY.out.below HB2.out) HSY.out (HT.out.below HB2.out) HY).mono ?_
            rintro e w3 ⟨rfl, hb3⟩
            have HB3 : Hid (Below w.heap.size w w3) := HB2.out.trans (hb3.mono HB2.out.size)
            go_wp2_with fail
            refine (same_false (.slice (some ⟨b, off, none⟩) xs.length cap) (.slice (some ⟨b', off', none⟩) ys.length cap') xs ys _ (RX.out.below HB3.out) (RY.out.below HB3.out) HLX.out HLY.out HN).mono ?_
            rintro e w4 ⟨rfl, hb4⟩
            have HB4 : Hid (Below w.heap.size w w4) := HB3.out.trans (hb4.mono HB3.out.size)
            rcases hT with ⟨c, hT, hc⟩ | ⟨ts, hT⟩
            · have hne : ((c : Int) != 0) = true := by simpa using hc
              have H := Lib.hid hT
              clear hT hc
              go_wp2_with fail
              refine (texts_c s c _ (by omega) H).mono ?_
              rintro e w5 ⟨a1, c1, rfl, hb5⟩
              go_wp2_with fail
              go_ret
              exact ⟨rfl, HB4.out.trans (hb5.mono HB4.out.size)⟩
            · have HTS := Lib.hid (texts_row_small s ts hT h3)
              have htl : ts.length ≤ 3000 := by have := texts_small s ts hT; omega
              have H := Lib.hid hT
              clear hT
              go_wp2_with fail
              refine (texts_0 s ts _ (by omega) H).mono ?_
              rintro e w5 ⟨a1, c1, rfl, R1, hb5⟩
              have HB5 : Hid (Below w.heap.size w w5) := HB4.out.trans (hb5.mono HB4.out.size)
              go_wp2_with fail
              refine (row_b (.slice a1 ts.length c1) (ts.map ba) s _ R1.out HTS.out.1 (HT.out.below HB5.out) HTS.out.2).mono ?_
              rintro e w6 ⟨rfl, hb6⟩
              go_wp2_with fail
              go_ret
              exact ⟨rfl, HB5.out.trans (hb6.mono HB5.out.size)⟩
end Go.Proofs.YtpjbhcampfjgdaaDoor
