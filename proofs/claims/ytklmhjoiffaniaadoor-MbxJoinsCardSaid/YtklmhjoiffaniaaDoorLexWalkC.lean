/-
  Walks: a comment's size; a quoted string.
-/
import Derived.Test.YtklmhjoiffaniaaDoorLexTok
namespace Go.Proofs.YtklmhjoiffaniaaDoor.Lex
open Go Go.RowKit

theorem int_eq {k : IntKind} {a b : Int} (h : a = b) : Value.int k a = .int k b := by rw [h]
theorem tup2 {m n x y : Int} (h2 : m = n) (h3 : x = y) : Ending.returned (.tuple #[.int .i64 m, .int .i64 x]) = .returned (.tuple #[.int .i64 n, .int .i64 y]) := by rw [h2, h3]
/-- The rest of a string. -/
theorem rest_of (s : ByteArray) (k : Nat) (_hk : k < s.size) : bl (s.extract k s.size) = (bl s).drop k ∧ (s.extract k s.size).size = s.size - k := by
  refine ⟨bl_from s k, ?_⟩
  rw [← bl_len, bl_from, List.length_drop, bl_len]
/-- What a comment's scan tells. -/
def ComPost (l : List UInt8) (e : Ending) : Prop := ∃ n c : Nat, e = .returned (.tuple #[.int .i64 n, .int .i64 c]) ∧ c ≤ 9 ∧
  ((c = 0 ∧ 1 ≤ n ∧ n ≤ l.length ∧ ∀ out, sc false (.c 1) out (l.drop 1) = sc false .z out (l.drop n)) ∨ (c ≠ 0 ∧ ∀ out, sc false (.c 1) out (l.drop 1) = (c, [])))
def ComAt (l : List UInt8) (k d : Nat) : Prop := ∀ out, sc false (.c 1) out (l.drop 1) = sc false (.c d) out (l.drop k)
set_option maxRecDepth 100000 in
set_option maxHeartbeats 2000000 in
theorem comment_any (s : ByteArray) (w : World) (h0 : 0 < s.size) (hs : s.size ≤ 1000000000) :
    Calls Tryd.prog 39 #[.string s] w fun e w' => ComPost (bl s) e ∧ w = w' := by
  have HI : Hid (ComAt (bl s) 1 1) := Lib.hid (fun _ => rfl)
  go_enter Tryd.func39, Tryd.ntmps39
  go_wp2_with fail
  go_step3
  go_wp2_with fail
  go_step3
  go_wp2_with fail
  go_loopw [4, 5, 6, 7, 8] (fun i dv _ _ _ wr => ∃ k d : Nat, 1 ≤ k ∧ k ≤ s.size ∧ i = .int .i64 k ∧ dv = .int .i64 d ∧ 1 ≤ d ∧ d ≤ 16 ∧ Hid (ComAt (bl s) k d) ∧ wr = w) (fun i _ _ _ _ _ => s.size - (intOf i).toNat)
  case atStart => exact ⟨1, 1, by omega, by omega, rfl, rfl, by omega, by omega, HI, rfl⟩
  case round =>
    clear HI
    obtain ⟨k, d, hk1, hk, rfl, rfl, hd1, hd2, hI, rfl⟩ := hrel
    by_cases hlt : k < s.size
    · have hdc := drop_cons s k hlt
      have h8 : s[k].toNat < 256 := s[k].toNat_lt
      have hI2 : ∀ out, sc false (.c 1) out ((bl s).drop 1) = sc false (.c d) out (s[k] :: (bl s).drop (k + 1)) := by
        intro out; rw [← hdc]; exact hI.out out
      by_cases h40 : s[k].toNat = 40
      · have t40 : ((s[k].toNat : Int) == 40) = true := by rw [h40]; rfl
        by_cases h16 : d = 16
        · have HE : Hid (∀ out, sc false (.c 1) out ((bl s).drop 1) = (1, [])) := Lib.hid (fun out => by
            rw [hI2, sc_open _ _ _ _ h40, if_pos h16])
          subst h16
          clear hI2 hdc h40 hI
          go_wp2_with fail
          rw [Exit.noGoto_ret]
          go_ret2
          exact ⟨⟨0, 1, rfl, by decide, .inr ⟨by decide, HE.out⟩⟩, rfl⟩
        · have t16 : ((d : Int) == 16) = false := by rw [beq_eq_false_iff_ne]; omega
          have HE : Hid (ComAt (bl s) (k + 1) (d + 1)) := Lib.hid (fun out => by
            rw [hI2, sc_open _ _ _ _ h40, if_neg h16])
          clear hI2 hdc h40 hI
          go_wp2_with fail
          go_roundw
          case rel => exact ⟨k + 1, d + 1, by omega, by omega, by simp, by simp, by omega, by omega, HE, trivial⟩
          case measure => simp [intOf]; omega
      · have t40 : ((s[k].toNat : Int) == 40) = false := by rw [beq_eq_false_iff_ne]; omega
        by_cases h41 : s[k].toNat = 41
        · have t41 : ((s[k].toNat : Int) == 41) = true := by rw [h41]; rfl
          by_cases h1 : d = 1
          · have HE : Hid (∀ out, sc false (.c 1) out ((bl s).drop 1) = sc false .z out ((bl s).drop (k + 1))) := Lib.hid (fun out => by
              rw [hI2, sc_shut _ _ _ _ h41, if_pos h1])
            have tks : ((k : Int) == (s.size : Int)) = false := by rw [beq_eq_false_iff_ne]; omega
            subst h1
            clear hI2 hdc h41 hI h40
            go_wp2_with fail
            rw [Exit.noGoto_ret]
            go_ret2
            exact ⟨⟨k + 1, 0, tup2 (by omega) rfl, by decide, .inl ⟨rfl, by omega, by rw [bl_len]; omega, HE.out⟩⟩, rfl⟩
          · obtain ⟨d', rfl⟩ : ∃ d', d = d' + 1 := ⟨d - 1, by omega⟩
            have t1 : ((((d' + 1 : Nat) : Int) - 1) == 0) = false := by rw [beq_eq_false_iff_ne]; omega
            have t1b : ((d' : Int) == 0) = false := by rw [beq_eq_false_iff_ne]; omega
            have HE : Hid (ComAt (bl s) (k + 1) d') := Lib.hid (fun out => by
              rw [hI2, sc_shut _ _ _ _ h41, if_neg h1]
              rfl)
            clear hI2 hdc h41 hI h40
            go_wp2_with fail
            go_roundw
            case rel => exact ⟨k + 1, d', by omega, by omega, by simp, int_eq (by omega), by omega, by omega, HE, trivial⟩
            case measure => simp [intOf]; omega
        · have t41 : ((s[k].toNat : Int) == 41) = false := by rw [beq_eq_false_iff_ne]; omega
          obtain ⟨hr1, hr2⟩ := rest_of s k hlt
          have HC := Lib.hid (fun W => inner_any (s.extract k s.size) W (by omega) (by omega))
          rw [hr1, hdc] at HC
          have hin := inner_c d
          have hin := fun out => hin out s[k] ((bl s).drop (k + 1)) h40 h41
          generalize hX : innerL (s[k] :: (bl s).drop (k + 1)) = X at HC hin
          obtain ⟨X1, X2, X3⟩ := X
          have hlen : ((bl s).drop (k + 1)).length = s.size - (k + 1) := by rw [List.length_drop, bl_len]
          by_cases h3 : X3 = 0
          · have hg : 1 ≤ X2 ∧ X2 ≤ s.size - k := by
              rcases hin [] with ⟨_, h5, h6, _⟩ | ⟨h5, _⟩
              · exact ⟨h5, by show X2 ≤ _; have h6' : X2 ≤ ((bl s).drop (k + 1)).length + 1 := h6; omega⟩
              · exact absurd h3 h5
            have HE : Hid (ComAt (bl s) (k + X2) d) := Lib.hid (fun out => by
              rw [hI2]
              rcases hin out with ⟨_, _, _, _, h7⟩ | ⟨h5, _⟩
              · rw [h7, ← hdc, List.drop_drop]
              · exact absurd h3 h5)
            subst h3
            clear hI2 hdc h41 hI h40 hin hX hr1 hlen
            go_wp2_with fail
            refine (HC.out _).mono ?_
            rintro e' w1 ⟨rfl, rfl⟩
            go_wp2_with fail
            go_roundw
            case rel => exact ⟨k + X2, d, by omega, by omega, by simp, rfl, by omega, by omega, HE, trivial⟩
            case measure => simp [intOf]; omega
          · have hne : ((X3 : Int) != 0) = true := by rw [bne_iff_ne]; omega
            have h9 : X3 ≤ 9 := by
              rcases hin [] with ⟨h5, _⟩ | ⟨_, h6, _⟩
              · exact absurd h5 h3
              · exact h6
            have HE : Hid (∀ out, sc false (.c 1) out ((bl s).drop 1) = (X3, [])) := Lib.hid (fun out => by
              rw [hI2]
              rcases hin out with ⟨h5, _⟩ | ⟨_, _, h7⟩
              · exact absurd h5 h3
              · exact h7)
            clear hI2 hdc h41 hI h40 hin hX hr1 hlen
            go_wp2_with fail
            refine (HC.out _).mono ?_
            rintro e' w1 ⟨rfl, rfl⟩
            go_wp2_with fail
            rw [Exit.noGoto_ret]
            go_ret2
            exact ⟨⟨0, X3, rfl, h9, .inr ⟨h3, HE.out⟩⟩, rfl⟩
    · have HE : Hid (∀ out, sc false (.c 1) out ((bl s).drop 1) = (9, [])) := Lib.hid (fun out => by
        rw [hI.out out, drop_end s k hlt]
        rfl)
      obtain rfl : k = s.size := by omega
      clear hI
      go_wp2_with fail
      rw [Exit.noGoto_ret]
      go_ret2
      exact ⟨⟨0, 9, rfl, by decide, .inr ⟨by decide, HE.out⟩⟩, rfl⟩
end Go.Proofs.YtklmhjoiffaniaaDoor.Lex
