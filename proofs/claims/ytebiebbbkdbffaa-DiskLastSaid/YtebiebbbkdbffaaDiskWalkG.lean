/-
  The program's disk keeps what the plain one tells: Write, Read, Cut, Fill.
-/
import Derived.Test.YtebiebbbkdbffaaDiskWalkF
namespace Go.Proofs.Ytebiebbbkdbffaa.Disk
open Go Go.RowKit
open Go.Proofs.Ytebiebbbkdbffaa.Sha (wp_region_drawn_tail wp_region_kept_tail quiet_load_row)

def raw (S : St) (l : Int) : Raw := ⟨S.z, S.dur, con S, S.cache, l, S.full, S.off, S.ops⟩
/-- The disk in memory is this one. -/
def Is (w : World) (d : Dk) (S : St) : Prop := Ok S ∧ ∃ l : Int, S.left = l.toNat ∧ -9223372036854775808 ≤ l ∧ l ≤ 9223372036854775807 ∧ Mem w d (raw S l)
section
variable {w w' : World} {d : Dk} {S : St}
theorem con_length (S : St) : (con S).length = S.dur.length := landL_length _ _
theorem Is.below (h : Is w d S) (hb : Below w.heap.size w w') : Is w' d S := by
  obtain ⟨h0, l, h1, h2, h3, h4⟩ := h
  exact ⟨h0, l, h1, h2, h3, h4.below hb⟩
theorem Is.frame {F : Nat → Prop} (h : Is w d S) (hf : Fr F w w') (hF : ∀ k, F k → ¬ own d k) : Is w' d S := by
  obtain ⟨h0, l, h1, h2, h3, h4⟩ := h
  exact ⟨h0, l, h1, h2, h3, h4.frame hf hF⟩
theorem Is.ok (h : Is w d S) : Ok S := h.1
theorem Is.own_lt (h : Is w d S) {k : Nat} (hk : own d k) : k < w.heap.size ∧ d.B ≤ k := by
  obtain ⟨h0, l, h1, h2, h3, h4⟩ := h
  exact h4.own_lt hk
theorem op_raw (S : St) (l : Int) (h : S.left = l.toNat) : opR (raw S l) = raw (opS S) (if 0 < l then l - 1 else l) := by
  unfold opR raw opS
  have e : decide (l = 1) = decide (S.left = 1) := by rw [decide_eq_decide]; omega
  show Raw.mk _ _ _ _ _ _ (decide (l = 1)) _ = _
  rw [e]
  rfl
theorem put_range {i : Int} {s : ByteArray} (h : i < 0 ∨ (S.dur.length : Int) ≤ i ∨ s.size ≠ S.z) : putS S i s = (S, 1) := if_pos h
theorem put_off {i : Int} {s : ByteArray} (h : ¬ (i < 0 ∨ (S.dur.length : Int) ≤ i ∨ s.size ≠ S.z)) (ho : S.off = true) : putS S i s = (S, 80) := by
  unfold putS; rw [if_neg h, if_pos ho]
theorem put_cut {i : Int} {s : ByteArray} (h : ¬ (i < 0 ∨ (S.dur.length : Int) ≤ i ∨ s.size ≠ S.z)) (ho : S.off = false) (hl : S.left = 1) : putS S i s = ({ opS S with cache := S.cache ++ [⟨i.toNat, s⟩] }, 80) := by
  unfold putS; rw [if_neg h, if_neg (by rw [ho]; simp), if_pos hl]
theorem put_full {i : Int} {s : ByteArray} (h : ¬ (i < 0 ∨ (S.dur.length : Int) ≤ i ∨ s.size ≠ S.z)) (ho : S.off = false) (hl : S.left ≠ 1) (hf : S.full = true) : putS S i s = (opS S, 81) := by
  unfold putS; rw [if_neg h, if_neg (by rw [ho]; simp), if_neg hl, if_pos hf]
theorem put_ok {i : Int} {s : ByteArray} (h : ¬ (i < 0 ∨ (S.dur.length : Int) ≤ i ∨ s.size ≠ S.z)) (ho : S.off = false) (hl : S.left ≠ 1) (hf : S.full = false) : putS S i s = ({ opS S with cache := S.cache ++ [⟨i.toNat, s⟩] }, 0) := by
  unfold putS; rw [if_neg h, if_neg (by rw [ho]; simp), if_neg hl, if_neg (by rw [hf]; simp)]
/-- What a call on a disk leaves. -/
def Left (w : World) (d : Dk) (S' : St) (w' : World) : Prop := ∃ cv', Is w' { d with cv := cv' } S' ∧ Step w d w' { d with cv := cv' }
theorem Left.same (h : Is w d S) : Left w d S w := ⟨d.cv, h, Step.refl _ _⟩
theorem Left.of {w2 : World} (h : Is w2 d S) (hs : Step w d w2 d) : Left w d S w2 := ⟨d.cv, h, hs⟩
set_option maxHeartbeats 1000000 in
theorem write_any (h : Is w d S) (i : Int) (s : ByteArray) (hn : S.ops < 1000000) :
    Calls Try.prog 19 #[ptr d.pb, .int .i64 i, .string s] w fun e w' => e = .returned (.int .i64 (putS S i s).2) ∧ Left w d (putS S i s).1 w' := by
  obtain ⟨h0, l, h1, h2, h3, h4⟩ := id h
  obtain ⟨c0, c1, c2, c3, c4, c5, c6, c7⟩ := h4.cells
  have HH := Lib.hid (has_any h4 i)
  have HI := Lib.hid h
  by_cases hr : i < 0 ∨ (S.dur.length : Int) ≤ i
  · rw [put_range (by rcases hr with h | h; exact .inl h; exact .inr (.inl h))]
    rw [show (decide (0 ≤ i) && decide (i < ((raw S l).dur.length : Int))) = false by
      rw [Bool.and_eq_false_iff, decide_eq_false_iff_not, decide_eq_false_iff_not]
      show _ ∨ ¬ i < (S.dur.length : Int)
      omega] at HH
    clear h h0 h1 h2 h3 h4 hr
    go_enter Try.func19, Try.ntmps19
    go_wp2_with fail
    refine HH.out.mono ?_
    rintro e w' ⟨rfl, rfl⟩
    go_wp2_with fail
    go_ret
    exact ⟨rfl, Left.same HI.out⟩
  · rw [show decide (0 ≤ i) = true by simp; omega, show decide (i < ((raw S l).dur.length : Int)) = true by
      rw [decide_eq_true_eq]
      show i < (S.dur.length : Int)
      omega] at HH
    obtain ⟨p, rfl⟩ := Int.eq_ofNat_of_zero_le (show 0 ≤ i by omega)
    have hp : p < S.dur.length := by omega
    by_cases hz : s.size = S.z
    · have hnr : ¬ ((p : Int) < 0 ∨ (S.dur.length : Int) ≤ (p : Int) ∨ s.size ≠ S.z) := by omega
      have hz2 : ((s.size : Int) != ((raw S l).z : Int)) = false := by
        show ((s.size : Int) != (S.z : Int)) = false
        rw [hz]; simp
      cases ho : S.off
      · have ho2 : (raw S l).off = false := ho
        rw [ho2] at c6
        have HO := Lib.hid (operate_any h4 ho2 hn h2 h3)
        rw [op_raw S l h1] at HO
        have hl2 : (if 0 < l then l - 1 else l) = (if 0 < l then l - 1 else l) := rfl
        have HL : Hid ((opS S).left = (if 0 < l then l - 1 else l).toNat ∧ -9223372036854775808 ≤ (if 0 < l then l - 1 else l) ∧ (if 0 < l then l - 1 else l) ≤ 9223372036854775807) := by
          show S.left - 1 = _ ∧ _
          split <;> omega
        generalize (if 0 < l then l - 1 else l) = l' at HO HL hl2
        clear hl2
        have HK := Lib.hid (h0.op hn)
        have HKA := Lib.hid (h0.add hn hp hz)
        have hz256 := h0.most
        have HC := Lib.hid (show S.cache.length ≤ 1000000 from Nat.le_trans h0.cache h0.ops)
        have hcl := con_length S
        have hfew := h0.few
        have hsz : s.size ≤ 100000 := by omega
        have HP := Lib.hid (fun (W : World) (hM : Mem W d (raw (opS S) l')) => put_any hM p s (by show p < (con S).length; omega) hsz HC.out (by show (con S).length ≤ 4096; omega))
        have HR : Hid (∀ cv' W, Mem W { d with cv := cv' } { raw (opS S) l' with cache := S.cache ++ [⟨p, s⟩], con := (con S).set p s } → Is W { d with cv := cv' } { opS S with cache := S.cache ++ [⟨p, s⟩] }) := fun cv' W hM => by
          refine ⟨HKA.out, l', HL.out.1, HL.out.2.1, HL.out.2.2, ?_⟩
          have e : raw { opS S with cache := S.cache ++ [⟨p, s⟩] } l' = { raw (opS S) l' with cache := S.cache ++ [⟨p, s⟩], con := (con S).set p s } := by
            unfold raw con
            simp only [landL_snoc]
            rfl
          rw [e]
          exact hM
        by_cases hl : l = 1
        · rw [put_cut hnr ho (by omega)]
          rw [show decide ((raw S l).left = 1) = true from decide_eq_true hl] at HO
          clear hl h h0 h1 h2 h3 h4 hz hr hnr hp hn hcl hfew hz256
          cases hfu : S.full
          all_goals
            go_enter Try.func19, Try.ntmps19
            go_wp2_with fail
            refine HH.out.mono ?_
            rintro e w' ⟨rfl, rfl⟩
            go_wp2_with fail
            refine HO.out.mono ?_
            rintro e w1 ⟨rfl, hM, hF⟩
            have HF := Lib.hid hF
            have HM := Lib.hid hM
            obtain ⟨-, -, -, -, -, c5', -, -⟩ := hM.cells
            rw [show (raw (opS S) l').full = S.full from rfl, hfu] at c5'
            clear c0 c1 c2 c3 c4 c5 c6 c7 hF hM hfu
            go_wp2_with fail
            refine (HP.out w1 HM.out).mono ?_
            rintro e w2 ⟨rfl, cv', hM', hS'⟩
            have HZ := Lib.hid (And.intro (HR.out cv' w2 hM') ((Step.mk HF.out rfl rfl rfl rfl (fun _ h => .inl h) : Step w d w1 d).trans hS'))
            clear hM' hS'
            go_wp2_with fail
            refine (outcome_any w2 true).mono ?_
            rintro e w3 ⟨rfl, rfl⟩
            go_wp2_with fail
            go_ret
            exact ⟨rfl, cv', HZ.out.1, HZ.out.2⟩
        · rw [show decide ((raw S l).left = 1) = false from decide_eq_false hl] at HO
          cases hfu : S.full
          · rw [put_ok hnr ho (by omega) hfu]
            clear hl h h0 h1 h2 h3 h4 hz hr hnr hp hn hcl hfew hz256
            go_enter Try.func19, Try.ntmps19
            go_wp2_with fail
            refine HH.out.mono ?_
            rintro e w' ⟨rfl, rfl⟩
            go_wp2_with fail
            refine HO.out.mono ?_
            rintro e w1 ⟨rfl, hM, hF⟩
            have HF := Lib.hid hF
            have HM := Lib.hid hM
            obtain ⟨-, -, -, -, -, c5', -, -⟩ := hM.cells
            rw [show (raw (opS S) l').full = S.full from rfl, hfu] at c5'
            clear c0 c1 c2 c3 c4 c5 c6 c7 hF hM hfu
            go_wp2_with fail
            refine (HP.out w1 HM.out).mono ?_
            rintro e w2 ⟨rfl, cv', hM', hS'⟩
            have HZ := Lib.hid (And.intro (HR.out cv' w2 hM') ((Step.mk HF.out rfl rfl rfl rfl (fun _ h => .inl h) : Step w d w1 d).trans hS'))
            clear hM' hS'
            go_wp2_with fail
            refine (outcome_any w2 false).mono ?_
            rintro e w3 ⟨rfl, rfl⟩
            go_wp2_with fail
            go_ret
            exact ⟨rfl, cv', HZ.out.1, HZ.out.2⟩
          · rw [put_full hnr ho (by omega) hfu]
            clear hl h h0 h1 h2 h3 h4 hz hr hnr hp hn hcl hfew hz256
            go_enter Try.func19, Try.ntmps19
            go_wp2_with fail
            refine HH.out.mono ?_
            rintro e w' ⟨rfl, rfl⟩
            go_wp2_with fail
            refine HO.out.mono ?_
            rintro e w1 ⟨rfl, hM, hF⟩
            have HF := Lib.hid hF
            have HM := Lib.hid hM
            obtain ⟨-, -, -, -, -, c5', -, -⟩ := hM.cells
            rw [show (raw (opS S) l').full = S.full from rfl, hfu] at c5'
            clear c0 c1 c2 c3 c4 c5 c6 c7 hF hM hfu
            go_wp2_with fail
            go_ret
            exact ⟨rfl, Left.of ⟨HK.out, l', HL.out.1, HL.out.2.1, HL.out.2.2, HM.out⟩ (Step.mk HF.out rfl rfl rfl rfl (fun _ h => .inl h))⟩
      · have ho2 : (raw S l).off = true := ho
        rw [ho2] at c6
        rw [put_off hnr ho]
        clear h h0 h1 h2 h3 h4 hz hr hnr hp
        go_enter Try.func19, Try.ntmps19
        go_wp2_with fail
        refine HH.out.mono ?_
        rintro e w' ⟨rfl, rfl⟩
        go_wp2_with fail
        go_ret
        exact ⟨rfl, Left.same HI.out⟩
    · rw [put_range (.inr (.inr hz))]
      have hz2 : ((s.size : Int) != ((raw S l).z : Int)) = true := by
        show ((s.size : Int) != (S.z : Int)) = true
        simp; omega
      clear h h0 h1 h2 h3 h4 hz hr hp
      go_enter Try.func19, Try.ntmps19
      go_wp2_with fail
      refine HH.out.mono ?_
      rintro e w' ⟨rfl, rfl⟩
      go_wp2_with fail
      go_ret
      exact ⟨rfl, Left.same HI.out⟩
end
end Go.Proofs.Ytebiebbbkdbffaa.Disk
