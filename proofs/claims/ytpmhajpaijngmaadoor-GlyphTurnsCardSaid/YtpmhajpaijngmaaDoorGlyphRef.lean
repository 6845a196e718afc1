/-
  The document's One, Clip, Signs and Fold.
-/
import Derived.Test.YtpmhajpaijngmaaDoorGlyphOne
import Derived.Laws.AppendOwn
import Derived.Lib.AppendStr
namespace Go.Proofs.YtpmhajpaijngmaaDoor.Glyph
open Go.RowKit

def OneAt (l : List UInt8) (base sz : Nat) (w : World) (n k : Value) (wr : World) : Prop :=
  ∃ j : Nat, 1 ≤ j ∧ j ≤ sz ∧ k = .int .i64 j ∧ n = .int .i64 (nv l base j) ∧ Hid (∀ m, 1 ≤ m → m < j → good l m) ∧ wr = w
theorem tv_good {l : List UInt8} {j : Nat} (h : good l j) : ∃ x : Nat, x ≤ 63 ∧ at4 l j - 128 = x ∧ tv l j = (x : Int) := by
  have hg := h
  unfold good at hg
  refine ⟨at4 l j - 128, by omega, rfl, ?_⟩
  unfold tv
  rw [if_pos h]
  omega
theorem tv_bad {l : List UInt8} {j : Nat} (h : ¬ good l j) : tv l j = -1 := by unfold tv; rw [if_neg h]
abbrev OneGives (l : List UInt8) (w : World) (e : Ending) (w' : World) : Prop :=
  e = .returned (.tuple #[.int .i64 (sg l), .int .i64 (wd l)]) ∧ Below w.heap.size w w'
theorem one_tup {l : List UInt8} {a : Int} {b : Nat} (h : sg l = a ∧ wd l = b) : Ending.returned (.tuple #[.int .i64 a, .int .i64 b]) = .returned (.tuple #[.int .i64 (sg l), .int .i64 (wd l)]) := by
  rw [h.1, h.2]
set_option maxHeartbeats 1000000 in
theorem one_lo (s : ByteArray) (i : Nat) (w : World) (h : i < s.size) (c : at4 ((bl s).drop i) 0 < 128) :
    Calls Tryd.prog 23 #[.string s, .int .i64 i] w (OneGives ((bl s).drop i) w) := by
  have HV := Lib.hid (one_low _ c)
  rw [at4_drop s i 0 h] at HV c
  have c' : ((s[i]'h).toNat : Int) < 128 := by
    have : (s[i]'h).toNat < 128 := c
    omega
  go_enter Tryd.func23, Tryd.ntmps23
  go_wp2
  go_ret2
  exact ⟨one_tup HV.out, Below.refl _ _⟩
set_option maxHeartbeats 1000000 in
theorem one_no (s : ByteArray) (i : Nat) (w : World) (h : i < s.size) (c : 128 ≤ at4 ((bl s).drop i) 0) (c2 : at4 ((bl s).drop i) 0 < 192 ∨ 248 ≤ at4 ((bl s).drop i) 0) :
    Calls Tryd.prog 23 #[.string s, .int .i64 i] w (OneGives ((bl s).drop i) w) := by
  have HV := Lib.hid (bad_sg (one_none _ c c2))
  rw [at4_drop s i 0 h] at c c2
  have g0 : ¬ ((s[i]'h).toNat : Int) < 128 := by
    have : 128 ≤ (s[i]'h).toNat := c
    omega
  have g8 := (s[i]'h).toNat_lt
  rcases c2 with c2 | c2
  · have g1 : ¬ (192 : Int) ≤ ((s[i]'h).toNat : Int) := by
      have : (s[i]'h).toNat < 192 := c2
      omega
    have g2 : ¬ (224 : Int) ≤ ((s[i]'h).toNat : Int) := by omega
    have g3 : ¬ (240 : Int) ≤ ((s[i]'h).toNat : Int) := by omega
    clear c c2
    go_enter Tryd.func23, Tryd.ntmps23
    go_wp2
    go_loopw [8, 9] (fun n k wr => n = .int .i64 0 ∧ k = .int .i64 1 ∧ wr = w) (fun _ _ _ => 0)
    case atStart => exact ⟨rfl, rfl, rfl⟩
    case round =>
      obtain ⟨rfl, rfl, rfl⟩ := hrel
      go_wp2
      go_ret2
      exact ⟨one_tup HV.out, (Below.refl _ _).alloc (Nat.le_refl _) _⟩
  · have g1 : ¬ ((s[i]'h).toNat : Int) < 248 := by
      have : 248 ≤ (s[i]'h).toNat := c2
      omega
    have g2 : ¬ ((s[i]'h).toNat : Int) < 224 := by omega
    have g3 : ¬ ((s[i]'h).toNat : Int) < 240 := by omega
    have g4 : (192 : Int) ≤ ((s[i]'h).toNat : Int) := by omega
    have g5 : (224 : Int) ≤ ((s[i]'h).toNat : Int) := by omega
    have g6 : (240 : Int) ≤ ((s[i]'h).toNat : Int) := by omega
    clear c c2
    go_enter Tryd.func23, Tryd.ntmps23
    go_wp2
    go_loopw [8, 9] (fun n k wr => n = .int .i64 0 ∧ k = .int .i64 1 ∧ wr = w) (fun _ _ _ => 0)
    case atStart => exact ⟨rfl, rfl, rfl⟩
    case round =>
      obtain ⟨rfl, rfl, rfl⟩ := hrel
      go_wp2
      go_ret2
      exact ⟨one_tup HV.out, (Below.refl _ _).alloc (Nat.le_refl _) _⟩
set_option maxRecDepth 100000 in
set_option maxHeartbeats 2000000 in
theorem one_w2 (s : ByteArray) (i : Nat) (w : World) (hs : s.size ≤ 1000000) (h : i < s.size) (c : 192 ≤ at4 ((bl s).drop i) 0) (c2 : at4 ((bl s).drop i) 0 < 224) :
    Calls Tryd.prog 23 #[.string s, .int .i64 i] w (OneGives ((bl s).drop i) w) := by
  have HB := Lib.hid (fun m => one_bad2 _ c c2 m)
  have HF := Lib.hid (one_full2 _ c c2)
  have HL := Lib.hid (fun j => nv_lt ((bl s).drop i) 192 j (by omega))
  have HT := Lib.hid (fun j (W : World) (hj : j ≤ 10) => tail_any s i j W (by omega) hj hs)
  have HO : Hid (OneAt ((bl s).drop i) 192 2 w (.int .i64 (((s[i]'h).toNat : Int) - 192)) (.int .i64 1) w) := by
    refine ⟨1, Nat.le_refl _, by decide, rfl, ?_, Lib.hid (fun m h1 h2 => absurd h1 (by omega)), rfl⟩
    have e := at4_drop s i 0 h
    show Value.int .i64 (((s[i]'h).toNat : Int) - 192) = .int .i64 ((at4 ((bl s).drop i) 0 - 192 : Nat) : Int)
    apply int_eq
    rw [e] at c ⊢
    show ((s[i]'h).toNat : Int) - 192 = (((s[i]'h).toNat - 192 : Nat) : Int)
    have : 192 ≤ (s[i]'h).toNat := c
    omega
  rw [at4_drop s i 0 h] at c c2
  have g0 : 192 ≤ (s[i]'h).toNat := c
  have g1 : (s[i]'h).toNat < 224 := c2
  have g2 : (192 : Int) ≤ ((s[i]'h).toNat : Int) := by omega
  have g3 : ((s[i]'h).toNat : Int) < 224 := by omega
  have k0 : ¬ ((s[i]'h).toNat : Int) < 128 := by omega
  have k6 : ¬ (224 : Int) ≤ ((s[i]'h).toNat : Int) := by omega
  have k7 : ¬ (240 : Int) ≤ ((s[i]'h).toNat : Int) := by omega
  clear c c2
  generalize hL : (bl s).drop i = L at *
  clear hL
  go_enter Tryd.func23, Tryd.ntmps23
  go_wp2
  go_loopw [8, 9] (fun n k wr => OneAt L 192 2 w n k wr) (fun _ k _ => 2 - (intOf k).toNat)
  case atStart => exact HO.out
  case round =>
    clear HO
    obtain ⟨j, j1, j2, rfl, rfl, hg, rfl⟩ := hrel
    have hx := HL.out j (by omega)
    by_cases hj : j < 2
    · have hj' : (j : Int) < 2 := by omega
      by_cases hgj : good L j
      · obtain ⟨x, hx63, hxe, htv⟩ := tv_good hgj
        have HS : Hid (nv L 192 (j + 1) = 64 * nv L 192 j + x) := Lib.hid (by rw [nv_succ _ _ _ j1, hxe])
        have HG : Hid (∀ m, 1 ≤ m → m < j + 1 → good L m) := Lib.hid (fun m m1 m2 => by
          by_cases hm : m = j
          · subst hm; exact hgj
          · exact hg.out m m1 (by omega))
        have ht := HT.out j
        rw [htv] at ht
        clear hxe htv hgj hg
        generalize nv L 192 j = n at hx HS ⊢
        go_wp2_with fail
        refine (ht _ (by omega)).mono ?_
        rintro e w' ⟨rfl, rfl⟩
        clear ht
        go_wp2
        go_roundw
        case rel => exact ⟨j + 1, by omega, hj, int_eq (by omega), by rw [HS.out]; exact int_eq (by omega), HG, rfl⟩
        case measure => simp [intOf]; omega
      · have ht := HT.out j
        rw [tv_bad hgj] at ht
        have HV := Lib.hid (HB.out j j1 hj hgj)
        clear hgj hg
        generalize nv L 192 j = n at hx ⊢
        go_wp2_with fail
        refine (ht _ (by omega)).mono ?_
        rintro e w' ⟨rfl, rfl⟩
        clear ht
        go_wp2
        go_ret2
        exact ⟨one_tup HV.out, Below.refl _ _⟩
    · obtain rfl : j = 2 := by omega
      have hf := HF.out (fun m m1 m2 => hg.out m m1 m2)
      generalize nv L 192 2 = n at hf hx ⊢
      obtain ⟨hf1, hf2⟩ := hf n rfl
      by_cases d1 : n < 128
      · have HV := Lib.hid (hf1 (.inl d1))
        have e1 : (n : Int) < 128 := by omega
        clear hf1 hf2
        go_wp2
        go_ret2
        exact ⟨one_tup HV.out, (Below.refl _ _).alloc (Nat.le_refl _) _⟩
      have e1 : ¬ (n : Int) < 128 := by omega
      by_cases d2 : n < 55296
      · have HV := Lib.hid (hf2 (by omega))
        have e2 : ¬ (55296 : Int) ≤ (n : Int) := by omega
        have e3 : ¬ (1114111 : Int) < (n : Int) := by omega
        clear hf1 hf2
        go_wp2
        go_ret2
        exact ⟨one_tup HV.out, (Below.refl _ _).alloc (Nat.le_refl _) _⟩
      have e2 : (55296 : Int) ≤ (n : Int) := by omega
      by_cases d3 : n ≤ 57343
      · have HV := Lib.hid (hf1 (by omega))
        have e3 : (n : Int) ≤ 57343 := by omega
        clear hf1 hf2
        go_wp2
        go_ret2
        exact ⟨one_tup HV.out, (Below.refl _ _).alloc (Nat.le_refl _) _⟩
      have e3 : ¬ (n : Int) ≤ 57343 := by omega
      by_cases d4 : 1114111 < n
      · have HV := Lib.hid (hf1 (by omega))
        have e4 : (1114111 : Int) < (n : Int) := by omega
        clear hf1 hf2
        go_wp2
        go_ret2
        exact ⟨one_tup HV.out, (Below.refl _ _).alloc (Nat.le_refl _) _⟩
      · have HV := Lib.hid (hf2 (by omega))
        have e4 : ¬ (1114111 : Int) < (n : Int) := by omega
        clear hf1 hf2
        go_wp2
        go_ret2
        exact ⟨one_tup HV.out, (Below.refl _ _).alloc (Nat.le_refl _) _⟩
set_option maxRecDepth 100000 in
set_option maxHeartbeats 2000000 in
theorem one_w3 (s : ByteArray) (i : Nat) (w : World) (hs : s.size ≤ 1000000) (h : i < s.size) (c : 224 ≤ at4 ((bl s).drop i) 0) (c2 : at4 ((bl s).drop i) 0 < 240) :
    Calls Tryd.prog 23 #[.string s, .int .i64 i] w (OneGives ((bl s).drop i) w) := by
  have HB := Lib.hid (fun m => one_bad3 _ c c2 m)
  have HF := Lib.hid (one_full3 _ c c2)
  have HL := Lib.hid (fun j => nv_lt ((bl s).drop i) 224 j (by omega))
  have HT := Lib.hid (fun j (W : World) (hj : j ≤ 10) => tail_any s i j W (by omega) hj hs)
  have HO : Hid (OneAt ((bl s).drop i) 224 3 w (.int .i64 (((s[i]'h).toNat : Int) - 224)) (.int .i64 1) w) := by
    refine ⟨1, Nat.le_refl _, by decide, rfl, ?_, Lib.hid (fun m h1 h2 => absurd h1 (by omega)), rfl⟩
    have e := at4_drop s i 0 h
    show Value.int .i64 (((s[i]'h).toNat : Int) - 224) = .int .i64 ((at4 ((bl s).drop i) 0 - 224 : Nat) : Int)
    apply int_eq
    rw [e] at c ⊢
    show ((s[i]'h).toNat : Int) - 224 = (((s[i]'h).toNat - 224 : Nat) : Int)
    have : 224 ≤ (s[i]'h).toNat := c
    omega
  rw [at4_drop s i 0 h] at c c2
  have g0 : 224 ≤ (s[i]'h).toNat := c
  have g1 : (s[i]'h).toNat < 240 := c2
  have g2 : (224 : Int) ≤ ((s[i]'h).toNat : Int) := by omega
  have g3 : ((s[i]'h).toNat : Int) < 240 := by omega
  have k0 : ¬ ((s[i]'h).toNat : Int) < 128 := by omega
  have k1 : ¬ ((s[i]'h).toNat : Int) < 224 := by omega
  have k4 : (192 : Int) ≤ ((s[i]'h).toNat : Int) := by omega
  have k7 : ¬ (240 : Int) ≤ ((s[i]'h).toNat : Int) := by omega
  clear c c2
  generalize hL : (bl s).drop i = L at *
  clear hL
  go_enter Tryd.func23, Tryd.ntmps23
  go_wp2
  go_loopw [8, 9] (fun n k wr => OneAt L 224 3 w n k wr) (fun _ k _ => 3 - (intOf k).toNat)
  case atStart => exact HO.out
  case round =>
    clear HO
    obtain ⟨j, j1, j2, rfl, rfl, hg, rfl⟩ := hrel
    have hx := HL.out j (by omega)
    by_cases hj : j < 3
    · have hj' : (j : Int) < 3 := by omega
      by_cases hgj : good L j
      · obtain ⟨x, hx63, hxe, htv⟩ := tv_good hgj
        have HS : Hid (nv L 224 (j + 1) = 64 * nv L 224 j + x) := Lib.hid (by rw [nv_succ _ _ _ j1, hxe])
        have HG : Hid (∀ m, 1 ≤ m → m < j + 1 → good L m) := Lib.hid (fun m m1 m2 => by
          by_cases hm : m = j
          · subst hm; exact hgj
          · exact hg.out m m1 (by omega))
        have ht := HT.out j
        rw [htv] at ht
        clear hxe htv hgj hg
        generalize nv L 224 j = n at hx HS ⊢
        go_wp2_with fail
        refine (ht _ (by omega)).mono ?_
        rintro e w' ⟨rfl, rfl⟩
        clear ht
        go_wp2
        go_roundw
        case rel => exact ⟨j + 1, by omega, hj, int_eq (by omega), by rw [HS.out]; exact int_eq (by omega), HG, rfl⟩
        case measure => simp [intOf]; omega
      · have ht := HT.out j
        rw [tv_bad hgj] at ht
        have HV := Lib.hid (HB.out j j1 hj hgj)
        clear hgj hg
        generalize nv L 224 j = n at hx ⊢
        go_wp2_with fail
        refine (ht _ (by omega)).mono ?_
        rintro e w' ⟨rfl, rfl⟩
        clear ht
        go_wp2
        go_ret2
        exact ⟨one_tup HV.out, Below.refl _ _⟩
    · obtain rfl : j = 3 := by omega
      have hf := HF.out (fun m m1 m2 => hg.out m m1 m2)
      generalize nv L 224 3 = n at hf hx ⊢
      obtain ⟨hf1, hf2⟩ := hf n rfl
      by_cases d1 : n < 2048
      · have HV := Lib.hid (hf1 (.inl d1))
        have e1 : (n : Int) < 2048 := by omega
        clear hf1 hf2
        go_wp2
        go_ret2
        exact ⟨one_tup HV.out, (Below.refl _ _).alloc (Nat.le_refl _) _⟩
      have e1 : ¬ (n : Int) < 2048 := by omega
      by_cases d2 : n < 55296
      · have HV := Lib.hid (hf2 (by omega))
        have e2 : ¬ (55296 : Int) ≤ (n : Int) := by omega
        have e3 : ¬ (1114111 : Int) < (n : Int) := by omega
        clear hf1 hf2
        go_wp2
        go_ret2
        exact ⟨one_tup HV.out, (Below.refl _ _).alloc (Nat.le_refl _) _⟩
      have e2 : (55296 : Int) ≤ (n : Int) := by omega
      by_cases d3 : n ≤ 57343
      · have HV := Lib.hid (hf1 (by omega))
        have e3 : (n : Int) ≤ 57343 := by omega
        clear hf1 hf2
        go_wp2
        go_ret2
        exact ⟨one_tup HV.out, (Below.refl _ _).alloc (Nat.le_refl _) _⟩
      have e3 : ¬ (n : Int) ≤ 57343 := by omega
      by_cases d4 : 1114111 < n
      · have HV := Lib.hid (hf1 (by omega))
        have e4 : (1114111 : Int) < (n : Int) := by omega
        clear hf1 hf2
        go_wp2
        go_ret2
        exact ⟨one_tup HV.out, (Below.refl _ _).alloc (Nat.le_refl _) _⟩
      · have HV := Lib.hid (hf2 (by omega))
        have e4 : ¬ (1114111 : Int) < (n : Int) := by omega
        clear hf1 hf2
        go_wp2
        go_ret2
        exact ⟨one_tup HV.out, (Below.refl _ _).alloc (Nat.le_refl _) _⟩
set_option maxRecDepth 100000 in
set_option maxHeartbeats 2000000 in
theorem one_w4 (s : ByteArray) (i : Nat) (w : World) (hs : s.size ≤ 1000000) (h : i < s.size) (c : 240 ≤ at4 ((bl s).drop i) 0) (c2 : at4 ((bl s).drop i) 0 < 248) :
    Calls Tryd.prog 23 #[.string s, .int .i64 i] w (OneGives ((bl s).drop i) w) := by
  have HB := Lib.hid (fun m => one_bad4 _ c c2 m)
  have HF := Lib.hid (one_full4 _ c c2)
  have HL := Lib.hid (fun j => nv_lt ((bl s).drop i) 240 j (by omega))
  have HT := Lib.hid (fun j (W : World) (hj : j ≤ 10) => tail_any s i j W (by omega) hj hs)
  have HO : Hid (OneAt ((bl s).drop i) 240 4 w (.int .i64 (((s[i]'h).toNat : Int) - 240)) (.int .i64 1) w) := by
    refine ⟨1, Nat.le_refl _, by decide, rfl, ?_, Lib.hid (fun m h1 h2 => absurd h1 (by omega)), rfl⟩
    have e := at4_drop s i 0 h
    show Value.int .i64 (((s[i]'h).toNat : Int) - 240) = .int .i64 ((at4 ((bl s).drop i) 0 - 240 : Nat) : Int)
    apply int_eq
    rw [e] at c ⊢
    show ((s[i]'h).toNat : Int) - 240 = (((s[i]'h).toNat - 240 : Nat) : Int)
    have : 240 ≤ (s[i]'h).toNat := c
    omega
  rw [at4_drop s i 0 h] at c c2
  have g0 : 240 ≤ (s[i]'h).toNat := c
  have g1 : (s[i]'h).toNat < 248 := c2
  have g2 : (240 : Int) ≤ ((s[i]'h).toNat : Int) := by omega
  have g3 : ((s[i]'h).toNat : Int) < 248 := by omega
  have k0 : ¬ ((s[i]'h).toNat : Int) < 128 := by omega
  have k1 : ¬ ((s[i]'h).toNat : Int) < 224 := by omega
  have k4 : (192 : Int) ≤ ((s[i]'h).toNat : Int) := by omega
  have k2 : ¬ ((s[i]'h).toNat : Int) < 240 := by omega
  have k5 : (224 : Int) ≤ ((s[i]'h).toNat : Int) := by omega
  clear c c2
  generalize hL : (bl s).drop i = L at *
  clear hL
  go_enter Tryd.func23, Tryd.ntmps23
  go_wp2
  go_loopw [8, 9] (fun n k wr => OneAt L 240 4 w n k wr) (fun _ k _ => 4 - (intOf k).toNat)
  case atStart => exact HO.out
  case round =>
    clear HO
    obtain ⟨j, j1, j2, rfl, rfl, hg, rfl⟩ := hrel
    have hx := HL.out j (by omega)
    by_cases hj : j < 4
    · have hj' : (j : Int) < 4 := by omega
      by_cases hgj : good L j
      · obtain ⟨x, hx63, hxe, htv⟩ := tv_good hgj
        have HS : Hid (nv L 240 (j + 1) = 64 * nv L 240 j + x) := Lib.hid (by rw [nv_succ _ _ _ j1, hxe])
        have HG : Hid (∀ m, 1 ≤ m → m < j + 1 → good L m) := Lib.hid (fun m m1 m2 => by
          by_cases hm : m = j
          · subst hm; exact hgj
          · exact hg.out m m1 (by omega))
        have ht := HT.out j
        rw [htv] at ht
        clear hxe htv hgj hg
        generalize nv L 240 j = n at hx HS ⊢
        go_wp2_with fail
        refine (ht _ (by omega)).mono ?_
        rintro e w' ⟨rfl, rfl⟩
        clear ht
        go_wp2
        go_roundw
        case rel => exact ⟨j + 1, by omega, hj, int_eq (by omega), by rw [HS.out]; exact int_eq (by omega), HG, rfl⟩
        case measure => simp [intOf]; omega
      · have ht := HT.out j
        rw [tv_bad hgj] at ht
        have HV := Lib.hid (HB.out j j1 hj hgj)
        clear hgj hg
        generalize nv L 240 j = n at hx ⊢
        go_wp2_with fail
        refine (ht _ (by omega)).mono ?_
        rintro e w' ⟨rfl, rfl⟩
        clear ht
        go_wp2
        go_ret2
        exact ⟨one_tup HV.out, Below.refl _ _⟩
    · obtain rfl : j = 4 := by omega
      have hf := HF.out (fun m m1 m2 => hg.out m m1 m2)
      generalize nv L 240 4 = n at hf hx ⊢
      obtain ⟨hf1, hf2⟩ := hf n rfl
      by_cases d1 : n < 65536
      · have HV := Lib.hid (hf1 (.inl d1))
        have e1 : (n : Int) < 65536 := by omega
        clear hf1 hf2
        go_wp2
        go_ret2
        exact ⟨one_tup HV.out, (Below.refl _ _).alloc (Nat.le_refl _) _⟩
      have e1 : ¬ (n : Int) < 65536 := by omega
      have e2 : (55296 : Int) ≤ (n : Int) := by omega
      have e3 : ¬ (n : Int) ≤ 57343 := by omega
      by_cases d4 : 1114111 < n
      · have HV := Lib.hid (hf1 (by omega))
        have e4 : (1114111 : Int) < (n : Int) := by omega
        clear hf1 hf2
        go_wp2
        go_ret2
        exact ⟨one_tup HV.out, (Below.refl _ _).alloc (Nat.le_refl _) _⟩
      · have HV := Lib.hid (hf2 (by omega))
        have e4 : ¬ (1114111 : Int) < (n : Int) := by omega
        clear hf1 hf2
        go_wp2
        go_ret2
        exact ⟨one_tup HV.out, (Below.refl _ _).alloc (Nat.le_refl _) _⟩
theorem one_any (s : ByteArray) (i : Nat) (w : World) (hs : s.size ≤ 1000000) (h : i < s.size) :
    Calls Tryd.prog 23 #[.string s, .int .i64 i] w (OneGives ((bl s).drop i) w) := by
  by_cases c0 : at4 ((bl s).drop i) 0 < 128
  · exact one_lo s i w h c0
  by_cases c1 : at4 ((bl s).drop i) 0 < 192
  · exact one_no s i w h (by omega) (.inl c1)
  by_cases c2 : at4 ((bl s).drop i) 0 < 224
  · exact one_w2 s i w hs h (by omega) c2
  by_cases c3 : at4 ((bl s).drop i) 0 < 240
  · exact one_w3 s i w hs h (by omega) c3
  by_cases c4 : at4 ((bl s).drop i) 0 < 248
  · exact one_w4 s i w hs h (by omega) c4
  · exact one_no s i w h (by omega) (.inr (by omega))
end Go.Proofs.YtpmhajpaijngmaaDoor.Glyph
