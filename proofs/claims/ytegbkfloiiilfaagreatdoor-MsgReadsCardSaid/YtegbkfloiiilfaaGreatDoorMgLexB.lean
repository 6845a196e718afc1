/-
  Walks of lex, the second part.
-/
import Derived.Test.YtegbkfloiiilfaaGreatDoorMgLexA
import Derived.Deep.CutRange
import Derived.Outline

/-
  Walks: a comment's size; a quoted string.
-/
namespace Go.Proofs.YtegbkfloiiilfaaGreatDoor.Lex
open Go Go.RowKit

theorem int_eq {k : IntKind} {a b : Int} (h : a = b) : Value.int k a = .int k b := by rw [h]
theorem tup2 {m n x y : Int} (h2 : m = n) (h3 : x = y) : Ending.returned (.tuple #[.int .i64 m, .int .i64 x]) = .returned (.tuple #[.int .i64 n, .int .i64 y]) := by rw [h2, h3]
/-- The rest of a string. -/
theorem rest_of (s : ByteArray) (k : Nat) (_hk : k < s.size) : bl (s.extract k s.size) = (bl s).drop k ∧ (s.extract k s.size).size = s.size - k := by
  refine ⟨bl_from s k, ?_⟩
  rw [← bl_len, bl_from, List.length_drop, bl_len]
/-- What a comment's scan tells. -/
def ComPost (l : List UInt8) (e : Ending) : Prop := ∃ n c : Nat, e = .returned (.tuple #[.int .i64 n, .int .i64 c]) ∧ c ≤ 9 ∧
  ((c = 0 ∧ 1 ≤ n ∧ n ≤ l.length ∧ ∀ out, sc false (.c 1) out (l.drop 1) = sc false .z out (l.drop n)) ∨ (c ≠ 0 ∧ ∀ out, sc false (.c 1) out (l.drop 1) = (c, [])))
def ComAt (l : List UInt8) (k d : Nat) : Prop := ∀ out, sc false (.c 1) out (l.drop 1) = sc false (.c d) out (l.drop k)
set_option maxRecDepth 100000 in
set_option maxHeartbeats 2000000 in
theorem comment_any (s : ByteArray) (w : World) (h0 : 0 < s.size) (hs : s.size ≤ 1000000000) :
    Calls Tryz.prog 128 #[.string s] w fun e w' => ComPost (bl s) e ∧ w = w' := by
  have HI : Hid (ComAt (bl s) 1 1) := Lib.hid (fun _ => rfl)
  go_enter Tryz.func128, Tryz.ntmps128
  go_wp2_with fail
  go_step3
  go_wp2_with fail
  go_step3
  go_wp2_with fail
  go_loopw [4, 5, 6, 7, 8] (fun i dv _ _ _ wr => ∃ k d : Nat, 1 ≤ k ∧ k ≤ s.size ∧ i = .int .i64 k ∧ dv = .int .i64 d ∧ 1 ≤ d ∧ d ≤ 16 ∧ Hid (ComAt (bl s) k d) ∧ wr = w) (fun i _ _ _ _ _ => s.size - (intOf i).toNat)
  case atStart => exact ⟨1, 1, by omega, by omega, rfl, rfl, by omega, by omega, HI, rfl⟩
  case round =>
    clear HI
    obtain ⟨k, d, hk1, hk, rfl, rfl, hd1, hd2, hI, rfl⟩ := hrel
    by_cases hlt : k < s.size
    · have hdc := drop_cons s k hlt
      have h8 : s[k].toNat < 256 := s[k].toNat_lt
      have hI2 : ∀ out, sc false (.c 1) out ((bl s).drop 1) = sc false (.c d) out (s[k] :: (bl s).drop (k + 1)) := by
        intro out; rw [← hdc]; exact hI.out out
      by_cases h40 : s[k].toNat = 40
      · have t40 : ((s[k].toNat : Int) == 40) = true := by rw [h40]; rfl
        by_cases h16 : d = 16
        · have HE : Hid (∀ out, sc false (.c 1) out ((bl s).drop 1) = (1, [])) := Lib.hid (fun out => by
            rw [hI2, sc_open _ _ _ _ h40, if_pos h16])
          subst h16
          clear hI2 hdc h40 hI
          go_wp2_with fail
          rw [Exit.noGoto_ret]
          go_ret2
          exact ⟨⟨0, 1, rfl, by decide, .inr ⟨by decide, HE.out⟩⟩, rfl⟩
        · have t16 : ((d : Int) == 16) = false := by rw [beq_eq_false_iff_ne]; omega
          have HE : Hid (ComAt (bl s) (k + 1) (d + 1)) := Lib.hid (fun out => by
            rw [hI2, sc_open _ _ _ _ h40, if_neg h16])
          clear hI2 hdc h40 hI
          go_wp2_with fail
          go_roundw
          case rel => exact ⟨k + 1, d + 1, by omega, by omega, by simp, by simp, by omega, by omega, HE, trivial⟩
          case measure => simp [intOf]; omega
      · have t40 : ((s[k].toNat : Int) == 40) = false := by rw [beq_eq_false_iff_ne]; omega
        by_cases h41 : s[k].toNat = 41
        · have t41 : ((s[k].toNat : Int) == 41) = true := by rw [h41]; rfl
          by_cases h1 : d = 1
          · have HE : Hid (∀ out, sc false (.c 1) out ((bl s).drop 1) = sc false .z out ((bl s).drop (k + 1))) := Lib.hid (fun out => by
              rw [hI2, sc_shut _ _ _ _ h41, if_pos h1])
            have tks : ((k : Int) == (s.size : Int)) = false := by rw [beq_eq_false_iff_ne]; omega
            subst h1
            clear hI2 hdc h41 hI h40
            go_wp2_with fail
            rw [Exit.noGoto_ret]
            go_ret2
            exact ⟨⟨k + 1, 0, tup2 (by omega) rfl, by decide, .inl ⟨rfl, by omega, by rw [bl_len]; omega, HE.out⟩⟩, rfl⟩
          · obtain ⟨d', rfl⟩ : ∃ d', d = d' + 1 := ⟨d - 1, by omega⟩
            have t1 : ((((d' + 1 : Nat) : Int) - 1) == 0) = false := by rw [beq_eq_false_iff_ne]; omega
            have t1b : ((d' : Int) == 0) = false := by rw [beq_eq_false_iff_ne]; omega
            have HE : Hid (ComAt (bl s) (k + 1) d') := Lib.hid (fun out => by
              rw [hI2, sc_shut _ _ _ _ h41, if_neg h1]
              rfl)
            clear hI2 hdc h41 hI h40
            go_wp2_with fail
            go_roundw
            case rel => exact ⟨k + 1, d', by omega, by omega, by simp, int_eq (by omega), by omega, by omega, HE, trivial⟩
            case measure => simp [intOf]; omega
        · have t41 : ((s[k].toNat : Int) == 41) = false := by rw [beq_eq_false_iff_ne]; omega
          obtain ⟨hr1, hr2⟩ := rest_of s k hlt
          have HC := Lib.hid (fun W => inner_any (s.extract k s.size) W (by omega) (by omega))
          rw [hr1, hdc] at HC
          have hin := inner_c d
          have hin := fun out => hin out s[k] ((bl s).drop (k + 1)) h40 h41
          generalize hX : innerL (s[k] :: (bl s).drop (k + 1)) = X at HC hin
          obtain ⟨X1, X2, X3⟩ := X
          have hlen : ((bl s).drop (k + 1)).length = s.size - (k + 1) := by rw [List.length_drop, bl_len]
          by_cases h3 : X3 = 0
          · have hg : 1 ≤ X2 ∧ X2 ≤ s.size - k := by
              rcases hin [] with ⟨_, h5, h6, _⟩ | ⟨h5, _⟩
              · exact ⟨h5, by show X2 ≤ _; have h6' : X2 ≤ ((bl s).drop (k + 1)).length + 1 := h6; omega⟩
              · exact absurd h3 h5
            have HE : Hid (ComAt (bl s) (k + X2) d) := Lib.hid (fun out => by
              rw [hI2]
              rcases hin out with ⟨_, _, _, _, h7⟩ | ⟨h5, _⟩
              · rw [h7, ← hdc, List.drop_drop]
              · exact absurd h3 h5)
            subst h3
            clear hI2 hdc h41 hI h40 hin hX hr1 hlen
            go_wp2_with fail
            refine (HC.out _).mono ?_
            rintro e' w1 ⟨rfl, rfl⟩
            go_wp2_with fail
            go_roundw
            case rel => exact ⟨k + X2, d, by omega, by omega, by simp, rfl, by omega, by omega, HE, trivial⟩
            case measure => simp [intOf]; omega
          · have hne : ((X3 : Int) != 0) = true := by rw [bne_iff_ne]; omega
            have h9 : X3 ≤ 9 := by
              rcases hin [] with ⟨h5, _⟩ | ⟨_, h6, _⟩
              · exact absurd h5 h3
              · exact h6
            have HE : Hid (∀ out, sc false (.c 1) out ((bl s).drop 1) = (X3, [])) := Lib.hid (fun out => by
              rw [hI2]
              rcases hin out with ⟨h5, _⟩ | ⟨_, _, h7⟩
              · exact absurd h5 h3
              · exact h7)
            clear hI2 hdc h41 hI h40 hin hX hr1 hlen
            go_wp2_with fail
            refine (HC.out _).mono ?_
            rintro e' w1 ⟨rfl, rfl⟩
            go_wp2_with fail
            rw [Exit.noGoto_ret]
            go_ret2
            exact ⟨⟨0, X3, rfl, h9, .inr ⟨h3, HE.out⟩⟩, rfl⟩
    · have HE : Hid (∀ out, sc false (.c 1) out ((bl s).drop 1) = (9, [])) := Lib.hid (fun out => by
        rw [hI.out out, drop_end s k hlt]
        rfl)
      obtain rfl : k = s.size := by omega
      clear hI
      go_wp2_with fail
      rw [Exit.noGoto_ret]
      go_ret2
      exact ⟨⟨0, 9, rfl, by decide, .inr ⟨by decide, HE.out⟩⟩, rfl⟩
end Go.Proofs.YtegbkfloiiilfaaGreatDoor.Lex

/-
  Walk of quoted: the token of a quoted string, and its size.
-/
namespace Go.Proofs.YtegbkfloiiilfaaGreatDoor.Lex
open Go Go.RowKit

/-- The result's box, the builder behind it, and what lay there before. -/
def Quo (w wr : World) (acc : List UInt8) : Prop :=
  Lib.IsBuilder 103 5 (w.heap.size + 1) (w.heap.size + 1) (Lib.byteCells acc) wr ∧ Lies wr w.heap.size #[.int .i64 0, .string ⟨#[]⟩] tkT ∧ Below w.heap.size w wr
theorem Quo.start (w : World) : Quo w ((w.alloc (.cells #[.int .i64 0, .string ⟨#[]⟩] tkT)).alloc (.cells #[.pointer none, .slice none 0 0] 103)) [] := by
  have h := Lib.fresh_isBuilder 103 5 (w.alloc (.cells #[.int .i64 0, .string ⟨#[]⟩] tkT))
  have e : (w.alloc (.cells #[.int .i64 0, .string ⟨#[]⟩] tkT)).heap.size = w.heap.size + 1 := by simp
  rw [e] at h
  exact ⟨h, (Lies.new w _ _).same (Below.heap_alloc _ _ _ (by simp)), ((Below.refl _ w).alloc (Nat.le_refl _) _).alloc (by simp) _⟩
theorem Quo.le {w wr : World} {acc : List UInt8} (h : Quo w wr acc) : w.heap.size + 1 ≤ wr.heap.size := h.2.1.lt
theorem quo_str (w wr : World) (acc : List UInt8) (x : List UInt8) (h : Quo w wr acc) (hl : acc.length ≤ 1000000000) (hs : x.length ≤ 1000000000) :
    Calls Tryz.prog 73 #[.pointer (some ⟨w.heap.size + 1, 0, none⟩), .string (ba x)] wr fun e w' => e = .returned (.tuple #[.int .i64 (ba x).size, .nilIface]) ∧ Quo w w' (acc ++ x) := by
  refine (bstr_any (w.heap.size + 1) (w.heap.size + 1) _ (ba x) wr h.1 (by rw [byteCells_len, ba_size]; omega) h.le).mono ?_
  rintro e w' ⟨rfl, h1, h2⟩
  refine ⟨rfl, .inr ?_, h.2.1.same (h2.block _ (by omega)), h.2.2.trans (h2.mono (by omega))⟩
  rw [Lib.byteCells_append, ← strCells_ba x]
  exact h1
theorem quo_end (w wr : World) (acc : List UInt8) (h : Quo w wr acc) :
    Calls Tryz.prog 74 #[.pointer (some ⟨w.heap.size + 1, 0, none⟩)] wr fun e w' => e = .returned (.string (ba acc)) ∧ Lies w' w.heap.size #[.int .i64 0, .string ⟨#[]⟩] tkT ∧ Below w.heap.size w w' := by
  refine (Tryz.Builder_String_any (w.heap.size + 1) (w.heap.size + 1) acc wr h.1 h.le).mono ?_
  rintro e w' ⟨rfl, h2⟩
  exact ⟨rfl, h.2.1.same (h2.block _ (by omega)), h.2.2.trans (h2.mono (by omega))⟩
/-- What the walk of a quoted string tells. -/
def QuoPost (l : List UInt8) (w : World) (e : Ending) (w' : World) : Prop := ∃ (n c : Nat) (t : Tk), e = .returned (.tuple #[tkV t, .int .i64 n, .int .i64 c]) ∧ c ≤ 9 ∧ Below w.heap.size w w' ∧
  ((c = 0 ∧ 1 ≤ n ∧ n ≤ l.length ∧ ∀ out, sc false (.q []) out (l.drop 1) = sc false .z (out ++ [t]) (l.drop n)) ∨ (c ≠ 0 ∧ ∀ out, sc false (.q []) out (l.drop 1) = (c, [])))
def QuoAt (l : List UInt8) (k : Nat) (acc : List UInt8) : Prop := ∀ out, sc false (.q []) out (l.drop 1) = sc false (.q acc) out (l.drop k)
abbrev fill2 (w : World) (b : Nat) (a0 a1 : Value) : World := (w.setCell ⟨b, 0, none⟩ a0).setCell ⟨b, 1, none⟩ a1
theorem lies_fill2 {w : World} {b : Nat} {z0 z1 : Value} {t : TypeId} (h : Lies w b #[z0, z1] t) (a0 a1 : Value) : Lies (fill2 w b a0 a1) b #[a0, a1] t := (h.set 0 a0).set 1 a1
theorem below_fill2 {w wr : World} {b : Nat} (h : Below w.heap.size w wr) (hb : w.heap.size ≤ b) (a0 a1 : Value) : Below w.heap.size w (fill2 wr b a0 a1) := (h.setCell hb _).setCell hb _
set_option maxRecDepth 100000 in
set_option maxHeartbeats 2000000 in
theorem quoted_any (s : ByteArray) (w : World) (h0 : 0 < s.size) (hs : s.size ≤ 1000000000) :
    Calls Tryz.prog 129 #[.string s] w (QuoPost (bl s) w) := by
  have HI : Hid (QuoAt (bl s) 1 []) := Lib.hid (fun _ => rfl)
  have HS := Lib.hid (Quo.start w)
  go_enter Tryz.func129, Tryz.ntmps129
  go_wp2_with fail
  go_step3
  go_wp2_with fail
  go_step3
  go_wp2_with fail
  go_loopw [6, 7, 8, 9] (fun i _ _ _ wr => ∃ (k : Nat) (acc : List UInt8), 1 ≤ k ∧ k ≤ s.size ∧ i = .int .i64 k ∧ acc.length ≤ k ∧ Hid (QuoAt (bl s) k acc) ∧ Hid (Quo w wr acc)) (fun i _ _ _ _ => s.size - (intOf i).toNat)
  case atStart => exact ⟨1, [], by omega, by omega, rfl, by simp, HI, HS⟩
  case round =>
    clear HI HS
    obtain ⟨k, acc, hk1, hk, rfl, hal, hI, hQ⟩ := hrel
    by_cases hlt : k < s.size
    · have hdc := drop_cons s k hlt
      have h8 : s[k].toNat < 256 := s[k].toNat_lt
      have hI2 : ∀ out, sc false (.q []) out ((bl s).drop 1) = sc false (.q acc) out (s[k] :: (bl s).drop (k + 1)) := by
        intro out; rw [← hdc]; exact hI.out out
      by_cases h34 : s[k].toNat = 34
      · have t34 : ((s[k].toNat : Int) == 34) = true := by rw [h34]; rfl
        have tks : ((k : Int) == (s.size : Int)) = false := by rw [beq_eq_false_iff_ne]; omega
        have HE : Hid (∀ out, sc false (.q []) out ((bl s).drop 1) = sc false .z (out ++ [⟨2, ba acc⟩]) ((bl s).drop (k + 1))) := Lib.hid (fun out => by
          rw [hI2, sc_close _ _ _ _ h34])
        have HW := Lib.hid (quo_end w wr acc hQ.out)
        clear hI2 hdc h34 hI
        go_wp2_with fail
        refine HW.out.mono ?_
        rintro e w1 ⟨rfl, hl, hb⟩
        have HL := Lib.hid (And.intro hl hb)
        have c0 := hl.cell 0
        have c1 := hl.cell 1
        have f0 := hl.free 0
        have f1 := hl.free 1
        clear hl hb
        go_wp2_with fail
        rw [Exit.noGoto_ret]
        have hl2 := lies_fill2 HL.out.1 (.int .i64 2) (.string (ba acc))
        have hb2 := below_fill2 HL.out.2 (Nat.le_refl _) (.int .i64 2) (.string (ba acc))
        exact bodyPost_ret (v := .tuple #[tkV ⟨2, ba acc⟩, .int .i64 ((k : Int) + 1), .int .i64 0]) (results_tk3 Tryz.results129 _ _ w.heap.size tkT _ (0, 0) _ rfl hl2 Tryz.underlying164 rfl sizeT) rfl ⟨k + 1, 0, ⟨2, ba acc⟩, rfl, by decide, hb2, .inl ⟨rfl, by omega, by rw [bl_len]; omega, HE.out⟩⟩
      · have t34 : ((s[k].toNat : Int) == 34) = false := by rw [beq_eq_false_iff_ne]; omega
        obtain ⟨hr1, hr2⟩ := rest_of s k hlt
        have HC := Lib.hid (fun W => inner_any (s.extract k s.size) W (by omega) (by omega))
        rw [hr1, hdc] at HC
        have hin := fun out => inner_q acc out s[k] ((bl s).drop (k + 1)) h34
        generalize hX : innerL (s[k] :: (bl s).drop (k + 1)) = X at HC hin
        obtain ⟨X1, X2, X3⟩ := X
        have hlen : ((bl s).drop (k + 1)).length = s.size - (k + 1) := by rw [List.length_drop, bl_len]
        by_cases h3 : X3 = 0
        · have hg : 1 ≤ X2 ∧ X2 ≤ s.size - k ∧ X1.length ≤ 1 := by
            rcases hin [] with ⟨_, h5, h6, h7, _⟩ | ⟨h5, _⟩
            · exact ⟨h5, by show X2 ≤ _; have h6' : X2 ≤ ((bl s).drop (k + 1)).length + 1 := h6; omega, h7⟩
            · exact absurd h3 h5
          have HE : Hid (QuoAt (bl s) (k + X2) (acc ++ X1)) := Lib.hid (fun out => by
            rw [hI2]
            rcases hin out with ⟨_, _, _, _, h7⟩ | ⟨h5, _⟩
            · rw [h7, ← hdc, List.drop_drop]
            · exact absurd h3 h5)
          have HW := Lib.hid (quo_str w wr acc X1 hQ.out (by omega) (by omega))
          have hal2 : (acc ++ X1).length ≤ k + X2 := by rw [List.length_append]; omega
          subst h3
          clear hI2 hdc hI h34 hin hX hr1 hlen
          generalize ba X1 = xs at *
          go_wp2_with fail
          refine (HC.out _).mono ?_
          rintro e' w1 ⟨rfl, rfl⟩
          go_wp2_with fail
          refine HW.out.mono ?_
          rintro e' w1 ⟨rfl, hq⟩
          have HQ := Lib.hid hq
          clear hq
          go_wp2_with fail
          go_roundw
          case rel => exact ⟨k + X2, acc ++ X1, by omega, by omega, by simp, hal2, HE, HQ⟩
          case measure => simp [intOf]; omega
        · have hne : ((X3 : Int) != 0) = true := by rw [bne_iff_ne]; omega
          have h9 : X3 ≤ 9 := by
            rcases hin [] with ⟨h5, _⟩ | ⟨_, h6, _⟩
            · exact absurd h5 h3
            · exact h6
          have HE : Hid (∀ out, sc false (.q []) out ((bl s).drop 1) = (X3, [])) := Lib.hid (fun out => by
            rw [hI2]
            rcases hin out with ⟨h5, _⟩ | ⟨_, _, h7⟩
            · exact absurd h5 h3
            · exact h7)
          have HL := Lib.hid hQ.out.2
          have c0 := hQ.out.2.1.cell 0
          have c1 := hQ.out.2.1.cell 1
          have f0 := hQ.out.2.1.free 0
          have f1 := hQ.out.2.1.free 1
          clear hI2 hdc hI h34 hin hX hr1 hlen
          go_wp2_with fail
          refine (HC.out _).mono ?_
          rintro e' w1 ⟨rfl, rfl⟩
          go_wp2_with fail
          rw [Exit.noGoto_ret]
          have hl2 := lies_fill2 HL.out.1 (.int .i64 0) (.string ⟨#[]⟩)
          have hb2 := below_fill2 HL.out.2 (Nat.le_refl _) (.int .i64 0) (.string ⟨#[]⟩)
          exact bodyPost_ret (v := .tuple #[tkV ⟨0, ⟨#[]⟩⟩, .int .i64 0, .int .i64 X3]) (results_tk3 Tryz.results129 _ _ w.heap.size tkT _ (0, 0) _ rfl hl2 Tryz.underlying164 rfl sizeT) rfl ⟨0, X3, ⟨0, ⟨#[]⟩⟩, rfl, h9, hb2, .inr ⟨h3, HE.out⟩⟩
    · have HE : Hid (∀ out, sc false (.q []) out ((bl s).drop 1) = (9, [])) := Lib.hid (fun out => by
        rw [hI.out out, drop_end s k hlt]
        rfl)
      obtain rfl : k = s.size := by omega
      have HL := Lib.hid hQ.out.2
      have c0 := hQ.out.2.1.cell 0
      have c1 := hQ.out.2.1.cell 1
      have f0 := hQ.out.2.1.free 0
      have f1 := hQ.out.2.1.free 1
      clear hI
      go_wp2_with fail
      rw [Exit.noGoto_ret]
      have hl2 := lies_fill2 HL.out.1 (.int .i64 0) (.string ⟨#[]⟩)
      have hb2 := below_fill2 HL.out.2 (Nat.le_refl _) (.int .i64 0) (.string ⟨#[]⟩)
      exact bodyPost_ret (v := .tuple #[tkV ⟨0, ⟨#[]⟩⟩, .int .i64 0, .int .i64 9]) (results_tk3 Tryz.results129 _ _ w.heap.size tkT _ (0, 0) _ rfl hl2 Tryz.underlying164 rfl sizeT) rfl ⟨0, 9, ⟨0, ⟨#[]⟩⟩, rfl, by decide, hb2, .inr ⟨by decide, HE.out⟩⟩
end Go.Proofs.YtegbkfloiiilfaaGreatDoor.Lex

/-
  Walk of Scan: the tokens of any bytes, or the first error.
-/
namespace Go.Proofs.YtegbkfloiiilfaaGreatDoor.Lex
open Go Go.RowKit

/-- The tokens so far, and what lay there before. -/
def TokAt (t : TypeId) (w wr : World) (tv : Value) (toks : List Tk) : Prop := wr.ownsRow w.heap.size t 2 tv toks.length (toks.flatMap tkC) ∧ Below w.heap.size w wr
theorem TokAt.start (t : TypeId) (w : World) : TokAt t w w (.slice none 0 0) [] := ⟨World.ownsRow_nil _ _ _ _, Below.refl _ _⟩
theorem TokAt.on {t : TypeId} {w wr w' : World} {tv : Value} {toks : List Tk} (h : TokAt t w wr tv toks) (hb : Below wr.heap.size wr w') : TokAt t w w' tv toks :=
  ⟨owns_below h.1 hb, h.2.trans (hb.mono h.2.size)⟩
/-- The tokens so far, and a box for the next one. -/
def BoxAt (w W : World) (g : Nat) (tv : Value) (toks : List Tk) : Prop := TokAt tkT w W tv toks ∧ Lies W g #[.int .i64 0, .string ⟨#[]⟩] tkT ∧ w.heap.size ≤ g ∧ tv.ownBlock ≠ some g
theorem BoxAt.new {w wr : World} {tv : Value} {toks : List Tk} (h : TokAt tkT w wr tv toks) : BoxAt w (wr.alloc (.cells #[.int .i64 0, .string ⟨#[]⟩] tkT)) wr.heap.size tv toks :=
  ⟨h.on ((Below.refl _ _).alloc (Nat.le_refl _) _), Lies.new _ _ _, h.2.size, fun e => by have := (h.1.lt _ e).2; omega⟩
theorem BoxAt.on {w W W' : World} {g : Nat} {tv : Value} {toks : List Tk} (h : BoxAt w W g tv toks) (hb : Below W.heap.size W W') : BoxAt w W' g tv toks :=
  ⟨h.1.on hb, h.2.1.same (hb.block _ h.2.1.lt), h.2.2⟩
theorem BoxAt.fill {w W : World} {g : Nat} {tv : Value} {toks : List Tk} (h : BoxAt w W g tv toks) (y : Tk) : TokAt tkT w (fill2 W g (.int .i64 y.kind) (.string y.text)) tv toks := by
  have hf : Fr (fun k => k = g) W (fill2 W g (.int .i64 y.kind) (.string y.text)) := Fr.setCell (Fr.one W g 0 _) (fun _ => rfl) _
  refine ⟨Fr.owns h.1.1 hf (fun k hk e => h.2.2.2 (by rw [hk, e])), below_fill2 h.1.2 h.2.2.1 _ _⟩
theorem BoxAt.add {w W : World} {g n c : Nat} {a : Option Addr} {toks : List Tk} (h : BoxAt w W g (.slice a n c) toks) (hn : toks.length = n) (y : Tk) (hl : n ≤ 100000000) :
    ∃ a' c' w', (Builtin.append_ #[tksT, tksT] tksT #[.slice a n c, .slice (some ⟨W.heap.size, 0, none⟩) 1 1]).run Tryz.prog ((fill2 W g (.int .i64 y.kind) (.string y.text)).alloc (boxT tkT y)) = .ok (.slice a' (n + 1) c') w' ∧
      Hid (TokAt tkT w w' (.slice a' (n + 1) c') (toks ++ [y])) := by
  have hf := h.fill y
  have ho := hf.1
  rw [hn] at ho
  obtain ⟨a', c', w', hr, hh⟩ := append_oneT n hn (fill2 W g (.int .i64 y.kind) (.string y.text)) w.heap.size (.slice a n c) y ho hl hf.2.size
  have e : (fill2 W g (.int .i64 y.kind) (.string y.text)).heap.size = W.heap.size := by simp [World.setCell]
  rw [e] at hr
  refine ⟨a', c', w', hr, Lib.hid ⟨?_, hf.2.trans hh.out.2⟩⟩
  rw [List.length_append, hn]
  exact hh.out.1
/-- What Scan tells. -/
def ScanPost (l : List UInt8) (w : World) (e : Ending) (w' : World) : Prop := ∃ v, e = .returned (.tuple #[v, .int .i64 (scan l).1]) ∧ ReadsT w' v (scan l).2 ∧ Below w.heap.size w w'
theorem ScanPost.of {l : List UInt8} {w w' : World} {v : Value} {c : Nat} {T : List Tk} (h : scan l = (c, T)) (hv : ReadsT w' v T) (hb : Below w.heap.size w w') : ScanPost l w (.returned (.tuple #[v, .int .i64 c])) w' :=
  ⟨v, by rw [h], by rw [h]; exact hv, hb⟩
def ScAt (l : List UInt8) (k : Nat) (toks : List Tk) : Prop := sc false .z toks (l.drop k) = scan l
theorem ScAt.fails {l : List UInt8} {k : Nat} {toks : List Tk} {c : Nat} (h : ScAt l k toks) (hc : sc false .z toks (l.drop k) = (c, [])) : scan l = (c, []) := h.symm.trans hc
set_option maxRecDepth 100000 in
set_option maxHeartbeats 8000000 in
theorem scan_any (s : ByteArray) (w : World) (hs : s.size ≤ 100000000) :
    Calls Tryz.prog 101 #[.string s] w (ScanPost (bl s) w) := by
  have HI : Hid (ScAt (bl s) 0 []) := Lib.hid rfl
  have HS := Lib.hid (TokAt.start tkT w)
  go_enter Tryz.func101, Tryz.ntmps101
  go_wp2_with fail
  go_step3
  go_wp2_with fail
  go_step3
  go_wp2_with fail
  go_loopw [4, 5, 6, 7, 8, 9] (fun tv i _ _ _ _ wr => ∃ (k : Nat) (toks : List Tk), k ≤ s.size ∧ i = .int .i64 k ∧ toks.length ≤ k ∧ Hid (ScAt (bl s) k toks) ∧ Hid (TokAt tkT w wr tv toks)) (fun _ i _ _ _ _ _ => s.size - (intOf i).toNat)
  case atStart => exact ⟨0, [], by omega, rfl, by simp, HI, HS⟩
  case round =>
    clear HI HS
    obtain ⟨k, toks, hk, rfl, htl, hI, hT⟩ := hrel
    obtain ⟨ta, tc, rfl⟩ := owns_slice hT.out.1
    obtain ⟨n, hn⟩ : ∃ n, toks.length = n := ⟨_, rfl⟩
    rw [hn] at htl hT ⊢
    by_cases hlt : k < s.size
    · obtain ⟨hr1, hr2⟩ := rest_of s k hlt
      have hr3 : 0 < (s.extract k s.size).size := by omega
      have HX := Lib.hid (BoxAt.new hT.out)
      go_upto_region 9 with (fail)
      generalize wr.alloc (.cells #[.int .i64 0, .string ⟨#[]⟩] tkT) = W1 at *
      generalize wr.heap.size = g at *
      generalize s.extract k s.size = r at *
      have hdc := drop_cons r 0 hr3
      rw [List.drop_zero] at hdc
      have h8 : r[0].toNat < 256 := r[0].toNat_lt
      have hdk : (bl s).drop k = r[0] :: (bl r).drop 1 := by rw [← hr1]; exact hdc
      have hdr : ∀ m, (bl s).drop (k + m) = (bl r).drop m := fun m => by rw [← List.drop_drop, ← hr1]
      have HN := Lib.hid hn
      have HB := Lib.hid (fun W => blank_any (r[0].toNat : Int) W (by omega) (by omega))
      have HF := Lib.hid (fun W => isFold_any r W (by omega))
      have HSP := Lib.hid (fun W => special_any (r[0].toNat : Int) W (by omega) (by omega))
      have HA := Lib.hid (fun W => atom_any (r[0].toNat : Int) W (by omega) (by omega))
      obtain ⟨bb, hbb⟩ : ∃ b, bk r[0] = b := ⟨_, rfl⟩
      obtain ⟨bf, hbf⟩ : ∃ b, fold (bl r) = b := ⟨_, rfl⟩
      obtain ⟨bs, hbs⟩ : ∃ b, sp r[0] = b := ⟨_, rfl⟩
      obtain ⟨bm, hbm⟩ : ∃ b, am r[0] = b := ⟨_, rfl⟩
      rw [show bkN (r[0].toNat : Int).toNat = bb from hbb] at HB
      rw [hbf] at HF
      rw [show spN (r[0].toNat : Int).toNat = bs from hbs] at HSP
      rw [show amN (r[0].toNat : Int).toNat = bm from hbm] at HA
      have hsc : sc false .z toks (r[0] :: (bl r).drop 1) = scan (bl s) := by rw [← hdk]; exact hI.out
      clear hn
      cases bb
      · cases bf
        · by_cases h40 : r[0].toNat = 40
          · have t40 : ((r[0].toNat : Int) == 40) = true := by rw [h40]; rfl
            have HC := Lib.hid (fun W => comment_any r W hr3 (by omega))
            have hpa := sc_paren toks r[0] ((bl r).drop 1) h40
            clear h40 hdc hdk hr1 hbb hbf hbs hbm hI
            go_wp2_with fail
            refine (HB.out _).mono ?_
            rintro e' w1 ⟨rfl, rfl⟩
            go_wp2_with fail
            refine (HF.out _).mono ?_
            rintro e' w1 ⟨rfl, rfl⟩
            go_wp2_with fail
            refine (HC.out _).mono ?_
            rintro e' w1 ⟨⟨m, c, rfl, hc9, hm⟩, rfl⟩
            rcases hm with ⟨rfl, hm1, hm2, hm3⟩ | ⟨hc, hm3⟩
            · rw [bl_len] at hm2
              have HE : Hid (ScAt (bl s) (k + m) toks) := Lib.hid (by
                show sc false .z toks ((bl s).drop (k + m)) = _
                rw [hdr, ← hm3 toks, ← hpa, hsc])
              clear hsc hdr hpa hm3
              go_wp2_with fail
              go_roundw
              case rel => exact ⟨k + m, toks, by omega, by simp, by have := HN.out; omega, HE, Lib.hid (by have h := HX.out.1; exact h)⟩
              case measure => simp [intOf]; omega
            · have HE : Hid (scan (bl s) = (c, [])) := Lib.hid (by rw [← hsc, hpa, hm3 toks])
              have hne : ((c : Int) != 0) = true := by rw [bne_iff_ne]; omega
              clear hsc hdr hpa hm3
              go_wp2_with fail
              rw [Exit.noGoto_ret]
              go_ret2
              exact ScanPost.of HE.out (nil_readsT _) HX.out.1.2
          · by_cases h34 : r[0].toNat = 34
            · have t40 : ((r[0].toNat : Int) == 40) = false := by rw [beq_eq_false_iff_ne]; omega
              have t34 : ((r[0].toNat : Int) == 34) = true := by rw [h34]; rfl
              have HC := Lib.hid (fun W => quoted_any r W hr3 (by omega))
              have hpa := sc_quote toks r[0] ((bl r).drop 1) h34
              clear h34 h40 hdc hdk hr1 hbb hbf hbs hbm hI
              go_wp2_with fail
              refine (HB.out _).mono ?_
              rintro e' w1 ⟨rfl, rfl⟩
              go_wp2_with fail
              refine (HF.out _).mono ?_
              rintro e' w1 ⟨rfl, rfl⟩
              go_wp2_with fail
              refine (HC.out _).mono ?_
              rintro e' w2 ⟨m, c, t, rfl, hc9, hb2, hm⟩
              have HX2 := Lib.hid (HX.out.on hb2)
              clear hb2
              rcases hm with ⟨rfl, hm1, hm2, hm3⟩ | ⟨hc, hm3⟩
              · rw [bl_len] at hm2
                have HE : Hid (ScAt (bl s) (k + m) (toks ++ [t])) := Lib.hid (by
                  show sc false .z (toks ++ [t]) ((bl s).drop (k + m)) = _
                  rw [hdr, ← hm3 toks, ← hpa, hsc])
                obtain ⟨a', c', w4, hr, hh⟩ := HX2.out.add HN.out t (by omega)
                have HR := Lib.hid hr
                have c0 := HX2.out.2.1.cell 0
                have c1 := HX2.out.2.1.cell 1
                have f0 := HX2.out.2.1.free 0
                have f1 := HX2.out.2.1.free 1
                clear hsc hdr hpa hm3 hr
                go_wp2_with (at_builtin; refine Lib.wpList_append_run _ rfl _ _ _ _ rfl _ _ rfl rfl _ _ HR.out ?_)
                clear HR
                go_roundw
                case rel => exact ⟨k + m, _, by omega, by simp, by rw [List.length_append]; have := HN.out; simp; omega, HE, Lib.hid (by have h := hh.out; exact h)⟩
                case measure => simp [intOf]; omega
              · have HE : Hid (scan (bl s) = (c, [])) := Lib.hid (by rw [← hsc, hpa, hm3 toks])
                have hne : ((c : Int) != 0) = true := by rw [bne_iff_ne]; omega
                have c0 := HX2.out.2.1.cell 0
                have c1 := HX2.out.2.1.cell 1
                have f0 := HX2.out.2.1.free 0
                have f1 := HX2.out.2.1.free 1
                clear hsc hdr hpa hm3
                go_wp2_with fail
                rw [Exit.noGoto_ret]
                go_ret2
                exact ScanPost.of HE.out (nil_readsT _) (HX2.out.fill t).2
            · have t40 : ((r[0].toNat : Int) == 40) = false := by rw [beq_eq_false_iff_ne]; omega
              have t34 : ((r[0].toNat : Int) == 34) = false := by rw [beq_eq_false_iff_ne]; omega
              cases bs
              · cases bm
                · have HE : Hid (scan (bl s) = (3, [])) := Lib.hid (by
                    rw [← hsc]
                    exact sc_bad toks r[0] _ hbb (by rw [← hdc]; exact hbf) h40 h34 hbs hbm)
                  clear hsc hdr hdc hdk hr1 hbb hbf hbs hbm hI
                  go_wp2_with fail
                  refine (HB.out _).mono ?_
                  rintro e' w1 ⟨rfl, rfl⟩
                  go_wp2_with fail
                  refine (HF.out _).mono ?_
                  rintro e' w1 ⟨rfl, rfl⟩
                  go_wp2_with fail
                  refine (HSP.out _).mono ?_
                  rintro e' w1 ⟨rfl, rfl⟩
                  go_wp2_with fail
                  refine (HA.out _).mono ?_
                  rintro e' w1 ⟨rfl, rfl⟩
                  go_wp2_with fail
                  rw [Exit.noGoto_ret]
                  go_ret2
                  exact ScanPost.of HE.out (nil_readsT _) HX.out.1.2
                · have HZ := Lib.hid (fun W => atomSize_any r W (by omega))
                  have hz1 : 1 ≤ atomN (bl r) := by
                    rcases Nat.eq_zero_or_pos (atomN (bl r)) with h | h
                    · have := atomN_end (bl r) r[0] ((bl r).drop 1) (by rw [h, List.drop_zero]; exact hdc)
                      rw [this] at hbm
                      cases hbm
                    · exact h
                  have hz2 := atomN_le (bl r)
                  rw [bl_len] at hz2
                  have HE : Hid (ScAt (bl s) (k + atomN (bl r)) (toks ++ [⟨1, r.extract 0 (atomN (bl r))⟩])) := Lib.hid (by
                    show sc false .z (toks ++ [⟨1, r.extract 0 (atomN (bl r))⟩]) ((bl s).drop (k + atomN (bl r))) = _
                    have h1 := sc_one (x := (bl r).take (atomN (bl r))) (y := (bl r).drop (atomN (bl r))) toks (by
                      intro e
                      have := congrArg List.length e
                      rw [List.length_take, bl_len, List.length_nil] at this
                      omega) (atomN_all _) (atomN_end _)
                    rw [List.take_append_drop] at h1
                    rw [hdr, str_part, List.drop_zero, Nat.sub_zero, ← h1, ← hsc, ← hdc])
                  generalize atomN (bl r) = z at *
                  obtain ⟨a', c', w4, hr, hh⟩ := HX.out.add HN.out ⟨1, r.extract 0 z⟩ (by omega)
                  have HR := Lib.hid hr
                  have c0 := HX.out.2.1.cell 0
                  have c1 := HX.out.2.1.cell 1
                  have f0 := HX.out.2.1.free 0
                  have f1 := HX.out.2.1.free 1
                  clear hsc hdr hdc hdk hr1 hbb hbf hbs hbm hI hr
                  go_wp2_with fail
                  refine (HB.out _).mono ?_
                  rintro e' w1 ⟨rfl, rfl⟩
                  go_wp2_with fail
                  refine (HF.out _).mono ?_
                  rintro e' w1 ⟨rfl, rfl⟩
                  go_wp2_with fail
                  refine (HSP.out _).mono ?_
                  rintro e' w1 ⟨rfl, rfl⟩
                  go_wp2_with fail
                  refine (HA.out _).mono ?_
                  rintro e' w1 ⟨rfl, rfl⟩
                  go_wp2_with fail
                  refine (HZ.out _).mono ?_
                  rintro e' w1 ⟨rfl, rfl⟩
                  go_wp2_with (at_builtin; refine Lib.wpList_append_run _ rfl _ _ _ _ rfl _ _ rfl rfl _ _ HR.out ?_)
                  clear HR
                  go_roundw
                  case rel => exact ⟨k + z, _, by omega, by simp, by rw [List.length_append]; have := HN.out; simp; omega, HE, Lib.hid (by have h := hh.out; exact h)⟩
                  case measure => simp [intOf]; omega
              · have hpa := sc_special toks r[0] ((bl r).drop 1) hbs
                have HP : Hid (r.extract 0 1 = ba [r[0]]) := Lib.hid (by rw [str_part, List.drop_zero, hdc]; rfl)
                have HE : Hid (ScAt (bl s) (k + 1) (toks ++ [⟨3, r.extract 0 1⟩])) := Lib.hid (by
                  show sc false .z (toks ++ [⟨3, r.extract 0 1⟩]) ((bl s).drop (k + 1)) = _
                  rw [hdr, HP.out, ← hpa, hsc])
                clear hpa
                obtain ⟨a', c', w4, hr, hh⟩ := HX.out.add HN.out ⟨3, r.extract 0 1⟩ (by omega)
                have HR := Lib.hid hr
                have c0 := HX.out.2.1.cell 0
                have c1 := HX.out.2.1.cell 1
                have f0 := HX.out.2.1.free 0
                have f1 := HX.out.2.1.free 1
                clear hsc hdr hdc hdk hr1 hbb hbf hbs hbm hI hr
                go_wp2_with fail
                refine (HB.out _).mono ?_
                rintro e' w1 ⟨rfl, rfl⟩
                go_wp2_with fail
                refine (HF.out _).mono ?_
                rintro e' w1 ⟨rfl, rfl⟩
                go_wp2_with fail
                refine (HSP.out _).mono ?_
                rintro e' w1 ⟨rfl, rfl⟩
                go_wp2_with (at_builtin; refine Lib.wpList_append_run _ rfl _ _ _ _ rfl _ _ rfl rfl _ _ HR.out ?_)
                clear HR
                go_roundw
                case rel => exact ⟨k + 1, _, by omega, by simp, by rw [List.length_append]; have := HN.out; simp; omega, HE, Lib.hid (by have h := hh.out; exact h)⟩
                case measure => simp [intOf]; omega
        · have HE : Hid (ScAt (bl s) (k + 2) toks) := Lib.hid (by
            show sc false .z toks ((bl s).drop (k + 2)) = _
            rw [hdr, ← sc_fold toks (bl r) hbf, ← hsc, ← hdc])
          have hz : 3 ≤ r.size := by
            rw [← bl_len]
            rcases Nat.lt_or_ge 2 (bl r).length with h | h
            · exact h
            · rw [fold_short h] at hbf; cases hbf
          clear hsc hI hdc hdk hr1 hdr hbb hbf hbs hbm
          go_wp2_with fail
          refine (HB.out _).mono ?_
          rintro e' w1 ⟨rfl, rfl⟩
          go_wp2_with fail
          refine (HF.out _).mono ?_
          rintro e' w1 ⟨rfl, rfl⟩
          go_wp2_with fail
          go_roundw
          case rel => exact ⟨k + 2, toks, by omega, by simp, by have := HN.out; omega, HE, Lib.hid (by have h := HX.out.1; exact h)⟩
          case measure => simp [intOf]; omega
      · have HE : Hid (ScAt (bl s) (k + 1) toks) := Lib.hid (by
          show sc false .z toks ((bl s).drop (k + 1)) = _
          rw [hdr, ← sc_blank toks r[0] _ hbb, hsc])
        clear hsc hI hdc hdk hr1 hdr hbb hbf hbs hbm
        go_wp2_with fail
        refine (HB.out _).mono ?_
        rintro e' w1 ⟨rfl, rfl⟩
        go_wp2_with fail
        go_roundw
        case rel => exact ⟨k + 1, toks, by omega, by simp, by have := HN.out; omega, HE, Lib.hid (by have h := HX.out.1; exact h)⟩
        case measure => simp [intOf]; omega
    · obtain rfl : k = s.size := by omega
      have HE : Hid (scan (bl s) = (0, toks)) := Lib.hid (by
        rw [← hI.out, drop_end s s.size (by omega)]
        rfl)
      have HN := Lib.hid hn
      clear hI hn
      go_wp2_with fail
      rw [Exit.noGoto_ret]
      go_ret2
      refine ScanPost.of HE.out ?_ hT.out.2
      exact owns_readsT hT.out.1
end Go.Proofs.YtegbkfloiiilfaaGreatDoor.Lex

/-
  Walks: Quote, Word, Print.
-/
namespace Go.Proofs.YtegbkfloiiilfaaGreatDoor.Lex
open Go Go.RowKit

theorem wbyteN (w wr : World) (acc : List UInt8) (n : Int) (c : UInt8) (hn : (c.toNat : Int) = n) (h : BuiltAt w wr acc) (hl : acc.length ≤ 1000000000) :
    Calls Tryz.prog 184 #[.pointer (some ⟨w.heap.size, 0, none⟩), .int .u8 n] wr fun e w' => e = .returned .nilIface ∧ BuiltAt w w' (acc ++ [c]) := by
  subst hn
  exact wbyte w wr acc c h hl
/-- A string's quoted bytes, up to a place. -/
def QAt (l : List UInt8) (k : Nat) (acc : List UInt8) : Prop := acc ++ body (l.drop k) ++ [34] = quoteL l
theorem QAt.next {l : List UInt8} {k : Nat} {acc : List UInt8} {c : UInt8} {t q : List UInt8} (h : QAt l k acc) (hd : l.drop k = c :: t) (hq : qbyte c = q) (ht : l.drop (k + 1) = t) : QAt l (k + 1) (acc ++ q) := by
  unfold QAt at *
  rw [ht, ← h, hd]
  show acc ++ q ++ body t ++ [34] = acc ++ (qbyte c ++ body t) ++ [34]
  rw [hq]
  simp
set_option maxRecDepth 100000 in
set_option maxHeartbeats 2000000 in
theorem quote_any (s : ByteArray) (w : World) (hs : s.size ≤ 100000000) :
    Calls Tryz.prog 181 #[.string s] w fun e w' => e = .returned (.string (ba (quoteL (bl s)))) ∧ Below w.heap.size w w' := by
  have HW := Lib.hid (wbyteN w _ [] 34 34 rfl (BuiltAt.start w) (by simp))
  go_enter Tryz.func181, Tryz.ntmps181
  go_wp2_with fail
  refine HW.out.mono ?_
  rintro e w1 ⟨rfl, h1⟩
  have HB := Lib.hid h1
  have HI : Hid (QAt (bl s) 0 [34]) := Lib.hid (by unfold QAt quoteL; simp)
  clear h1 HW
  go_wp2_with fail
  go_loopw [9] (fun i wr => ∃ (k : Nat) (acc : List UInt8), k ≤ s.size ∧ i = .int .i64 k ∧ acc.length ≤ 2 * k + 1 ∧ Hid (QAt (bl s) k acc) ∧ Hid (BuiltAt w wr acc)) (fun i _ => s.size - (intOf i).toNat)
  case atStart => exact ⟨0, [34], by omega, rfl, by simp, HI, HB⟩
  case round =>
    clear HI HB
    obtain ⟨k, acc, hk, rfl, hal, hI, hB⟩ := hrel
    by_cases hlt : k < s.size
    · have hdc := drop_cons s k hlt
      have h8 : s[k].toNat < 256 := s[k].toNat_lt
      have HT := Lib.hid (fun W => text_any (s[k].toNat : Int) W (by omega) (by omega))
      have hnx := fun q hq => hI.out.next (q := q) hdc hq rfl
      by_cases h34 : s[k].toNat = 34
      · have hc : s[k] = 34 := UInt8.toNat.inj h34
        have t34 : ((s[k].toNat : Int) == 34) = true := by rw [h34]; rfl
        have hq : qbyte s[k] = [92, s[k]] := by unfold qbyte; rw [if_pos (.inl h34)]
        have HE := Lib.hid (hnx _ hq)
        have HW := Lib.hid (wbyteN w wr acc 92 92 rfl hB.out (by omega))
        have HW2 := Lib.hid (fun W (h : BuiltAt w W (acc ++ [92])) => wbyteN w W (acc ++ [92]) _ s[k] rfl h (by rw [List.length_append]; simp; omega))
        clear hnx hdc hq h34 hc hI
        go_wp2_with fail
        refine HW.out.mono ?_
        rintro e' w2 ⟨rfl, h2⟩
        have HB2 := Lib.hid (HW2.out _ h2)
        clear h2
        go_wp2_with fail
        refine HB2.out.mono ?_
        rintro e' w3 ⟨rfl, h3⟩
        have HB3 := Lib.hid (show BuiltAt w w3 (acc ++ [92, s[k]]) by rw [List.append_assoc] at h3; exact h3)
        clear h3
        go_wp2_with fail
        go_roundw
        case rel => exact ⟨k + 1, _, by omega, by simp, by rw [List.length_append]; simp; omega, HE, HB3⟩
        case measure => simp [intOf]; omega
      · have t34 : ((s[k].toNat : Int) == 34) = false := by rw [beq_eq_false_iff_ne]; omega
        by_cases h92 : s[k].toNat = 92
        · have t92 : ((s[k].toNat : Int) == 92) = true := by rw [h92]; rfl
          have hq : qbyte s[k] = [92, s[k]] := by unfold qbyte; rw [if_pos (.inr h92)]
          have HE := Lib.hid (hnx _ hq)
          have HW := Lib.hid (wbyteN w wr acc 92 92 rfl hB.out (by omega))
          have HW2 := Lib.hid (fun W (h : BuiltAt w W (acc ++ [92])) => wbyteN w W (acc ++ [92]) _ s[k] rfl h (by rw [List.length_append]; simp; omega))
          clear hnx hdc hq h92 h34 hI
          go_wp2_with fail
          refine HW.out.mono ?_
          rintro e' w2 ⟨rfl, h2⟩
          have HB2 := Lib.hid (HW2.out _ h2)
          clear h2
          go_wp2_with fail
          refine HB2.out.mono ?_
          rintro e' w3 ⟨rfl, h3⟩
          have HB3 := Lib.hid (show BuiltAt w w3 (acc ++ [92, s[k]]) by rw [List.append_assoc] at h3; exact h3)
          clear h3
          go_wp2_with fail
          go_roundw
          case rel => exact ⟨k + 1, _, by omega, by simp, by rw [List.length_append]; simp; omega, HE, HB3⟩
          case measure => simp [intOf]; omega
        · have t92 : ((s[k].toNat : Int) == 92) = false := by rw [beq_eq_false_iff_ne]; omega
          cases ht : tx s[k]
          · rw [show txN (s[k].toNat : Int).toNat = false from ht] at HT
            have hq : qbyte s[k] = [32] := by unfold qbyte; rw [if_neg (by omega), ht, if_neg (by decide)]
            have HE := Lib.hid (hnx _ hq)
            have HW := Lib.hid (wbyteN w wr acc 32 32 rfl hB.out (by omega))
            clear hnx hdc hq ht h34 h92 hI
            go_wp2_with fail
            refine (HT.out _).mono ?_
            rintro e' w1 ⟨rfl, rfl⟩
            go_wp2_with fail
            refine HW.out.mono ?_
            rintro e' w2 ⟨rfl, h2⟩
            have HB2 := Lib.hid h2
            clear h2
            go_wp2_with fail
            go_roundw
            case rel => exact ⟨k + 1, _, by omega, by simp, by rw [List.length_append]; simp; omega, HE, HB2⟩
            case measure => simp [intOf]; omega
          · rw [show txN (s[k].toNat : Int).toNat = true from ht] at HT
            have hq : qbyte s[k] = [s[k]] := by unfold qbyte; rw [if_neg (by omega), ht, if_pos rfl]
            have HE := Lib.hid (hnx _ hq)
            have HW := Lib.hid (wbyteN w wr acc _ s[k] rfl hB.out (by omega))
            clear hnx hdc hq ht h34 h92 hI
            go_wp2_with fail
            refine (HT.out _).mono ?_
            rintro e' w1 ⟨rfl, rfl⟩
            go_wp2_with fail
            refine HW.out.mono ?_
            rintro e' w2 ⟨rfl, h2⟩
            have HB2 := Lib.hid h2
            clear h2
            go_wp2_with fail
            go_roundw
            case rel => exact ⟨k + 1, _, by omega, by simp, by rw [List.length_append]; simp; omega, HE, HB2⟩
            case measure => simp [intOf]; omega
    · have hX : Hid (acc ++ [34] = quoteL (bl s)) := Lib.hid (by
        have h := hI.out
        unfold QAt at h
        rw [drop_end s k hlt, show body [] = [] from rfl, List.append_nil] at h
        exact h)
      have HW := Lib.hid (wbyteN w wr acc 34 34 rfl hB.out (by omega))
      clear hI
      go_wp2_with fail
      refine HW.out.mono ?_
      rintro e' w2 ⟨rfl, h2⟩
      have HE := Lib.hid (wend w w2 _ h2)
      clear h2
      go_wp2_with fail
      refine HE.out.mono ?_
      rintro e' w3 ⟨rfl, hb⟩
      have HB3 := Lib.hid hb
      clear hb
      go_wp2_with fail
      go_ret
      exact ⟨by rw [← hX.out]; rfl, HB3.out⟩
end Go.Proofs.YtegbkfloiiilfaaGreatDoor.Lex

/-
  Walk of Print.
-/
namespace Go.Proofs.YtegbkfloiiilfaaGreatDoor.Lex
open Go Go.RowKit

/-- The kind of the token ahead of a place. -/
def prevK (l : List Tk) (k : Nat) : Int := if k = 0 then 3 else ((l[k - 1]?).map Tk.kind).getD 3
/-- What is printed up to a place. -/
def PAt (l : List Tk) (k : Nat) (acc : List UInt8) : Prop := acc ++ printP (prevK l k) (l.drop k) = printL l
theorem PAt.next {l : List Tk} {k : Nat} {acc : List UInt8} {e : Tk} (h : PAt l k acc) (he : l[k]? = some e) {g q : List UInt8} (hg : gap (prevK l k) e.kind = g) (hq : tokL e = q) : PAt l (k + 1) (acc ++ g ++ q) := by
  unfold PAt at *
  have hd : l.drop k = e :: l.drop (k + 1) := by
    obtain ⟨h1, h2⟩ := List.getElem?_eq_some_iff.1 he
    rw [List.drop_eq_getElem_cons h1, h2]
  have hp : prevK l (k + 1) = e.kind := by
    unfold prevK
    rw [if_neg (by omega), Nat.add_sub_cancel, he]
    rfl
  rw [hp, ← h, hd]
  show acc ++ g ++ q ++ _ = acc ++ (gap (prevK l k) e.kind ++ (tokL e ++ printP e.kind (l.drop (k + 1))))
  rw [hg, hq]
  simp
theorem costT {l : List Tk} {k : Nat} {e : Tk} (he : l[k]? = some e) : cost (l.take (k + 1)) = cost (l.take k) + (e.text.size + 1) := by
  rw [List.take_add_one, he]
  exact cost_snoc _ _
theorem costT_le (l : List Tk) (k : Nat) : cost (l.take k) ≤ cost l := by
  unfold cost
  conv => rhs; rw [← List.take_append_drop k l]
  rw [List.map_append, List.sum_append]
  omega
/-- A builder, and a box for the token at hand. -/
def PBox (w W : World) (g : Nat) (acc : List UInt8) (e : Tk) : Prop := BuiltAt w W acc ∧ Lies W g #[.int .i64 e.kind, .string e.text] tkT ∧ w.heap.size ≤ g
theorem PBox.new {w wr : World} {acc : List UInt8} (h : BuiltAt w wr acc) (e : Tk) : PBox w (wr.alloc (.cells #[.int .i64 e.kind, .string e.text] tkT)) wr.heap.size acc e :=
  ⟨h.kept ((Below.refl _ wr).alloc (Nat.le_refl _) _), Lies.new wr _ _, h.2.size⟩
theorem prevK_succ {l : List Tk} {j : Nat} {e : Tk} (h : l[j]? = some e) : prevK l (j + 1) = e.kind := by
  unfold prevK
  rw [if_neg (by omega), Nat.add_sub_cancel, h]
  rfl
theorem box_rest {b g : Nat} {w w' : World} {k : Int} {t : ByteArray} (h : Lies w g #[.int .i64 k, .string t] tkT) (hr : Rest b w w') (hb : g ≠ b) : Lies w' g #[.int .i64 k, .string t] tkT :=
  hr g _ h (fun e => hb (Option.some.inj e)) (fun c fz e => by
    obtain ⟨_, h2, _⟩ := Obj.cells.inj e
    exact absurd h2 (by decide))
end Go.Proofs.YtegbkfloiiilfaaGreatDoor.Lex

/-
  Walks: alike and Same on one list of tokens; the chapter's example.
-/
namespace Go.Proofs.YtegbkfloiiilfaaGreatDoor.Lex
open Go Go.RowKit

theorem below_drewN {B : Nat} {w w' : World} (h : Below B w w') (n : Nat) : Below B w (w'.drewN n) := ⟨h.os, h.tape, h.output, h.size, h.block⟩
theorem eqIn_tk (w : World) (d : Nat) (a : Tk) : (Op.equalIn (d + 2) tkT (tkV a) (tkV a)).run Tryz.prog w = .ok true w := by
  have e : (Op.equalIn (d + 1 + 1) tkT (tkV a) (tkV a)).run Tryz.prog w = _ := run_equalIn_struct w (d + 1) tkT _ _ (by unfold Program.fieldsOf; rw [Tryz.underlying164]) (by kernel_rfl)
  rw [e]
  unfold Program.fieldsOf
  rw [Tryz.underlying164]
  simp [Op.eqFields, go_sem]
theorem eql_tk (w : World) (a : Tk) : (binOp .eql tkT (tkV a) (tkV a)).run Tryz.prog w = .ok (.bool true) w := by
  simp only [binOp]
  simp [Op.equal, Op.maxDepth, eqIn_tk w 9998 a]
theorem beq_list (a : List UInt8) : (a == a) = true := beq_self_eq_true a
def TruePost (w : World) (e : Ending) (w' : World) : Prop := e = .returned (.bool true) ∧ Below w.heap.size w w'
/-! The chapter's example. -/
def exT : List Tk := [⟨1, ⟨#[97]⟩⟩, ⟨2, ⟨#[98, 32, 99]⟩⟩, ⟨3, ⟨#[64]⟩⟩, ⟨1, ⟨#[100]⟩⟩]
def exS : ByteArray := ⟨#[97, 32, 40, 120, 41, 32, 34, 98, 32, 99, 34, 64, 100]⟩
def exP : ByteArray := ⟨#[97, 32, 34, 98, 32, 99, 34, 64, 100]⟩
theorem exScan : scan (bl exS) = (0, exT) := by kernel_rfl
theorem exPrint : ba (printL exT) = exP := by kernel_rfl
end Go.Proofs.YtegbkfloiiilfaaGreatDoor.Lex
