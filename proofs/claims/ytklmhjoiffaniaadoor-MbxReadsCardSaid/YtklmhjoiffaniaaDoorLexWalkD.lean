/-
  Walk of quoted: the token of a quoted string, and its size.
-/
import Derived.Test.YtklmhjoiffaniaaDoorLexWalkC
namespace Go.Proofs.YtklmhjoiffaniaaDoor.Lex
open Go Go.RowKit

/-- The result's box, the builder behind it, and what lay there before. -/
def Quo (w wr : World) (acc : List UInt8) : Prop :=
  Lib.IsBuilder 90 5 (w.heap.size + 1) (w.heap.size + 1) (Lib.byteCells acc) wr ∧ Lies wr w.heap.size #[.int .i64 0, .string ⟨#[]⟩] tkT ∧ Below w.heap.size w wr
theorem Quo.start (w : World) : Quo w ((w.alloc (.cells #[.int .i64 0, .string ⟨#[]⟩] tkT)).alloc (.cells #[.pointer none, .slice none 0 0] 90)) [] := by
  have h := Lib.fresh_isBuilder 90 5 (w.alloc (.cells #[.int .i64 0, .string ⟨#[]⟩] tkT))
  have e : (w.alloc (.cells #[.int .i64 0, .string ⟨#[]⟩] tkT)).heap.size = w.heap.size + 1 := by simp
  rw [e] at h
  exact ⟨h, (Lies.new w _ _).same (Below.heap_alloc _ _ _ (by simp)), ((Below.refl _ w).alloc (Nat.le_refl _) _).alloc (by simp) _⟩
theorem Quo.le {w wr : World} {acc : List UInt8} (h : Quo w wr acc) : w.heap.size + 1 ≤ wr.heap.size := h.2.1.lt
theorem quo_str (w wr : World) (acc : List UInt8) (x : List UInt8) (h : Quo w wr acc) (hl : acc.length ≤ 1000000000) (hs : x.length ≤ 1000000000) :
    Calls Tryd.prog 54 #[.pointer (some ⟨w.heap.size + 1, 0, none⟩), .string (ba x)] wr fun e w' => e = .returned (.tuple #[.int .i64 (ba x).size, .nilIface]) ∧ Quo w w' (acc ++ x) := by
  refine (bstr_any (w.heap.size + 1) (w.heap.size + 1) _ (ba x) wr h.1 (by rw [byteCells_len, ba_size]; omega) h.le).mono ?_
  rintro e w' ⟨rfl, h1, h2⟩
  refine ⟨rfl, .inr ?_, h.2.1.same (h2.block _ (by omega)), h.2.2.trans (h2.mono (by omega))⟩
  rw [Lib.byteCells_append, ← strCells_ba x]
  exact h1
theorem quo_end (w wr : World) (acc : List UInt8) (h : Quo w wr acc) :
    Calls Tryd.prog 55 #[.pointer (some ⟨w.heap.size + 1, 0, none⟩)] wr fun e w' => e = .returned (.string (ba acc)) ∧ Lies w' w.heap.size #[.int .i64 0, .string ⟨#[]⟩] tkT ∧ Below w.heap.size w w' := by
  refine (Tryd.Builder_String_any (w.heap.size + 1) (w.heap.size + 1) acc wr h.1 h.le).mono ?_
  rintro e w' ⟨rfl, h2⟩
  exact ⟨rfl, h.2.1.same (h2.block _ (by omega)), h.2.2.trans (h2.mono (by omega))⟩
/-- What the walk of a quoted string tells. -/
def QuoPost (l : List UInt8) (w : World) (e : Ending) (w' : World) : Prop := ∃ (n c : Nat) (t : Tk), e = .returned (.tuple #[tkV t, .int .i64 n, .int .i64 c]) ∧ c ≤ 9 ∧ Below w.heap.size w w' ∧
  ((c = 0 ∧ 1 ≤ n ∧ n ≤ l.length ∧ ∀ out, sc false (.q []) out (l.drop 1) = sc false .z (out ++ [t]) (l.drop n)) ∨ (c ≠ 0 ∧ ∀ out, sc false (.q []) out (l.drop 1) = (c, [])))
def QuoAt (l : List UInt8) (k : Nat) (acc : List UInt8) : Prop := ∀ out, sc false (.q []) out (l.drop 1) = sc false (.q acc) out (l.drop k)
abbrev fill2 (w : World) (b : Nat) (a0 a1 : Value) : World := (w.setCell ⟨b, 0, none⟩ a0).setCell ⟨b, 1, none⟩ a1
theorem lies_fill2 {w : World} {b : Nat} {z0 z1 : Value} {t : TypeId} (h : Lies w b #[z0, z1] t) (a0 a1 : Value) : Lies (fill2 w b a0 a1) b #[a0, a1] t := (h.set 0 a0).set 1 a1
theorem below_fill2 {w wr : World} {b : Nat} (h : Below w.heap.size w wr) (hb : w.heap.size ≤ b) (a0 a1 : Value) : Below w.heap.size w (fill2 wr b a0 a1) := (h.setCell hb _).setCell hb _
set_option maxRecDepth 100000 in
set_option maxHeartbeats 2000000 in
theorem quoted_any (s : ByteArray) (w : World) (h0 : 0 < s.size) (hs : s.size ≤ 1000000000) :
    Calls Tryd.prog 40 #[.string s] w (QuoPost (bl s) w) := by
  have HI : Hid (QuoAt (bl s) 1 []) := Lib.hid (fun _ => rfl)
  have HS := Lib.hid (Quo.start w)
  go_enter Tryd.func40, Tryd.ntmps40
  go_wp2_with fail
  go_step3
  go_wp2_with fail
  go_step3
  go_wp2_with fail
  go_loopw [6, 7, 8, 9] (fun i _ _ _ wr => ∃ (k : Nat) (acc : List UInt8), 1 ≤ k ∧ k ≤ s.size ∧ i = .int .i64 k ∧ acc.length ≤ k ∧ Hid (QuoAt (bl s) k acc) ∧ Hid (Quo w wr acc)) (fun i _ _ _ _ => s.size - (intOf i).toNat)
  case atStart => exact ⟨1, [], by omega, by omega, rfl, by simp, HI, HS⟩
  case round =>
    clear HI HS
    obtain ⟨k, acc, hk1, hk, rfl, hal, hI, hQ⟩ := hrel
    by_cases hlt : k < s.size
    · have hdc := drop_cons s k hlt
      have h8 : s[k].toNat < 256 := s[k].toNat_lt
      have hI2 : ∀ out, sc false (.q []) out ((bl s).drop 1) = sc false (.q acc) out (s[k] :: (bl s).drop (k + 1)) := by
        intro out; rw [← hdc]; exact hI.out out
      by_cases h34 : s[k].toNat = 34
      · have t34 : ((s[k].toNat : Int) == 34) = true := by rw [h34]; rfl
        have tks : ((k : Int) == (s.size : Int)) = false := by rw [beq_eq_false_iff_ne]; omega
        have HE : Hid (∀ out, sc false (.q []) out ((bl s).drop 1) = sc false .z (out ++ [⟨2, ba acc⟩]) ((bl s).drop (k + 1))) := Lib.hid (fun out => by
          rw [hI2, sc_close _ _ _ _ h34])
        have HW := Lib.hid (quo_end w wr acc hQ.out)
        clear hI2 hdc h34 hI
        go_wp2_with fail
        refine HW.out.mono ?_
        rintro e w1 ⟨rfl, hl, hb⟩
        have HL := Lib.hid (And.intro hl hb)
        have c0 := hl.cell 0
        have c1 := hl.cell 1
        have f0 := hl.free 0
        have f1 := hl.free 1
        clear hl hb
        go_wp2_with fail
        rw [Exit.noGoto_ret]
        have hl2 := lies_fill2 HL.out.1 (.int .i64 2) (.string (ba acc))
        have hb2 := below_fill2 HL.out.2 (Nat.le_refl _) (.int .i64 2) (.string (ba acc))
        exact bodyPost_ret (v := .tuple #[tkV ⟨2, ba acc⟩, .int .i64 ((k : Int) + 1), .int .i64 0]) (results_tk3 Tryd.results40 _ _ w.heap.size tkT _ (0, 0) _ rfl hl2 Tryd.underlying76 rfl sizeT) rfl ⟨k + 1, 0, ⟨2, ba acc⟩, rfl, by decide, hb2, .inl ⟨rfl, by omega, by rw [bl_len]; omega, HE.out⟩⟩
      · have t34 : ((s[k].toNat : Int) == 34) = false := by rw [beq_eq_false_iff_ne]; omega
        obtain ⟨hr1, hr2⟩ := rest_of s k hlt
        have HC := Lib.hid (fun W => inner_any (s.extract k s.size) W (by omega) (by omega))
        rw [hr1, hdc] at HC
        have hin := fun out => inner_q acc out s[k] ((bl s).drop (k + 1)) h34
        generalize hX : innerL (s[k] :: (bl s).drop (k + 1)) = X at HC hin
        obtain ⟨X1, X2, X3⟩ := X
        have hlen : ((bl s).drop (k + 1)).length = s.size - (k + 1) := by rw [List.length_drop, bl_len]
        by_cases h3 : X3 = 0
        · have hg : 1 ≤ X2 ∧ X2 ≤ s.size - k ∧ X1.length ≤ 1 := by
            rcases hin [] with ⟨_, h5, h6, h7, _⟩ | ⟨h5, _⟩
            · exact ⟨h5, by show X2 ≤ _; have h6' : X2 ≤ ((bl s).drop (k + 1)).length + 1 := h6; omega, h7⟩
            · exact absurd h3 h5
          have HE : Hid (QuoAt (bl s) (k + X2) (acc ++ X1)) := Lib.hid (fun out => by
            rw [hI2]
            rcases hin out with ⟨_, _, _, _, h7⟩ | ⟨h5, _⟩
            · rw [h7, ← hdc, List.drop_drop]
            · exact absurd h3 h5)
          have HW := Lib.hid (quo_str w wr acc X1 hQ.out (by omega) (by omega))
          have hal2 : (acc ++ X1).length ≤ k + X2 := by rw [List.length_append]; omega
          subst h3
          clear hI2 hdc hI h34 hin hX hr1 hlen
          generalize ba X1 = xs at *
          go_wp2_with fail
          refine (HC.out _).mono ?_
          rintro e' w1 ⟨rfl, rfl⟩
          go_wp2_with fail
          refine HW.out.mono ?_
          rintro e' w1 ⟨rfl, hq⟩
          have HQ := Lib.hid hq
          clear hq
          go_wp2_with fail
          go_roundw
          case rel => exact ⟨k + X2, acc ++ X1, by omega, by omega, by simp, hal2, HE, HQ⟩
          case measure => simp [intOf]; omega
        · have hne : ((X3 : Int) != 0) = true := by rw [bne_iff_ne]; omega
          have h9 : X3 ≤ 9 := by
            rcases hin [] with ⟨h5, _⟩ | ⟨_, h6, _⟩
            · exact absurd h5 h3
            · exact h6
          have HE : Hid (∀ out, sc false (.q []) out ((bl s).drop 1) = (X3, [])) := Lib.hid (fun out => by
            rw [hI2]
            rcases hin out with ⟨h5, _⟩ | ⟨_, _, h7⟩
            · exact absurd h5 h3
            · exact h7)
          have HL := Lib.hid hQ.out.2
          have c0 := hQ.out.2.1.cell 0
          have c1 := hQ.out.2.1.cell 1
          have f0 := hQ.out.2.1.free 0
          have f1 := hQ.out.2.1.free 1
          clear hI2 hdc hI h34 hin hX hr1 hlen
          go_wp2_with fail
          refine (HC.out _).mono ?_
          rintro e' w1 ⟨rfl, rfl⟩
          go_wp2_with fail
          rw [Exit.noGoto_ret]
          have hl2 := lies_fill2 HL.out.1 (.int .i64 0) (.string ⟨#[]⟩)
          have hb2 := below_fill2 HL.out.2 (Nat.le_refl _) (.int .i64 0) (.string ⟨#[]⟩)
          exact bodyPost_ret (v := .tuple #[tkV ⟨0, ⟨#[]⟩⟩, .int .i64 0, .int .i64 X3]) (results_tk3 Tryd.results40 _ _ w.heap.size tkT _ (0, 0) _ rfl hl2 Tryd.underlying76 rfl sizeT) rfl ⟨0, X3, ⟨0, ⟨#[]⟩⟩, rfl, h9, hb2, .inr ⟨h3, HE.out⟩⟩
    · have HE : Hid (∀ out, sc false (.q []) out ((bl s).drop 1) = (9, [])) := Lib.hid (fun out => by
        rw [hI.out out, drop_end s k hlt]
        rfl)
      obtain rfl : k = s.size := by omega
      have HL := Lib.hid hQ.out.2
      have c0 := hQ.out.2.1.cell 0
      have c1 := hQ.out.2.1.cell 1
      have f0 := hQ.out.2.1.free 0
      have f1 := hQ.out.2.1.free 1
      clear hI
      go_wp2_with fail
      rw [Exit.noGoto_ret]
      have hl2 := lies_fill2 HL.out.1 (.int .i64 0) (.string ⟨#[]⟩)
      have hb2 := below_fill2 HL.out.2 (Nat.le_refl _) (.int .i64 0) (.string ⟨#[]⟩)
      exact bodyPost_ret (v := .tuple #[tkV ⟨0, ⟨#[]⟩⟩, .int .i64 0, .int .i64 9]) (results_tk3 Tryd.results40 _ _ w.heap.size tkT _ (0, 0) _ rfl hl2 Tryd.underlying76 rfl sizeT) rfl ⟨0, 9, ⟨0, ⟨#[]⟩⟩, rfl, by decide, hb2, .inr ⟨by decide, HE.out⟩⟩
end Go.Proofs.YtklmhjoiffaniaaDoor.Lex
