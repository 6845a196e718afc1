/-
  The other walks of the disk: Flush, Write, Read, Crash, New.
-/
import Derived.Test.YtghpohiinnallaaGreatDoorKgDiskA
import Derived.Laws.CopyOwn
import Derived.Deep.RegionHeld3

/-
  The program's disk keeps what the plain one tells: Write, Read, Cut, Fill.
-/
namespace Go.Proofs.YtghpohiinnallaaGreatDoor.Disk
open Go Go.RowKit
open Go.Proofs.YtghpohiinnallaaGreatDoor.Sha (wp_region_drawn_tail wp_region_kept_tail quiet_load_row)

def raw (S : St) (l : Int) : Raw := ⟨S.z, S.dur, con S, S.cache, l, S.full, S.off, S.ops⟩
/-- The disk in memory is this one. -/
def Is (w : World) (d : Dk) (S : St) : Prop := Ok S ∧ ∃ l : Int, S.left = l.toNat ∧ -9223372036854775808 ≤ l ∧ l ≤ 9223372036854775807 ∧ Mem w d (raw S l)
section
variable {w w' : World} {d : Dk} {S : St}
theorem con_length (S : St) : (con S).length = S.dur.length := landL_length _ _
theorem Is.below (h : Is w d S) (hb : Below w.heap.size w w') : Is w' d S := by
  obtain ⟨h0, l, h1, h2, h3, h4⟩ := h
  exact ⟨h0, l, h1, h2, h3, h4.below hb⟩
theorem Is.frame {F : Nat → Prop} (h : Is w d S) (hf : Fr F w w') (hF : ∀ k, F k → ¬ own d k) : Is w' d S := by
  obtain ⟨h0, l, h1, h2, h3, h4⟩ := h
  exact ⟨h0, l, h1, h2, h3, h4.frame hf hF⟩
theorem Is.ok (h : Is w d S) : Ok S := h.1
theorem Is.own_lt (h : Is w d S) {k : Nat} (hk : own d k) : k < w.heap.size ∧ d.B ≤ k := by
  obtain ⟨h0, l, h1, h2, h3, h4⟩ := h
  exact h4.own_lt hk
theorem op_raw (S : St) (l : Int) (h : S.left = l.toNat) : opR (raw S l) = raw (opS S) (if 0 < l then l - 1 else l) := by
  unfold opR raw opS
  have e : decide (l = 1) = decide (S.left = 1) := by rw [decide_eq_decide]; omega
  show Raw.mk _ _ _ _ _ _ (decide (l = 1)) _ = _
  rw [e]
  rfl
theorem put_range {i : Int} {s : ByteArray} (h : i < 0 ∨ (S.dur.length : Int) ≤ i ∨ s.size ≠ S.z) : putS S i s = (S, 1) := if_pos h
theorem put_off {i : Int} {s : ByteArray} (h : ¬ (i < 0 ∨ (S.dur.length : Int) ≤ i ∨ s.size ≠ S.z)) (ho : S.off = true) : putS S i s = (S, 80) := by
  unfold putS; rw [if_neg h, if_pos ho]
theorem put_cut {i : Int} {s : ByteArray} (h : ¬ (i < 0 ∨ (S.dur.length : Int) ≤ i ∨ s.size ≠ S.z)) (ho : S.off = false) (hl : S.left = 1) : putS S i s = ({ opS S with cache := S.cache ++ [⟨i.toNat, s⟩] }, 80) := by
  unfold putS; rw [if_neg h, if_neg (by rw [ho]; simp), if_pos hl]
theorem put_full {i : Int} {s : ByteArray} (h : ¬ (i < 0 ∨ (S.dur.length : Int) ≤ i ∨ s.size ≠ S.z)) (ho : S.off = false) (hl : S.left ≠ 1) (hf : S.full = true) : putS S i s = (opS S, 81) := by
  unfold putS; rw [if_neg h, if_neg (by rw [ho]; simp), if_neg hl, if_pos hf]
theorem put_ok {i : Int} {s : ByteArray} (h : ¬ (i < 0 ∨ (S.dur.length : Int) ≤ i ∨ s.size ≠ S.z)) (ho : S.off = false) (hl : S.left ≠ 1) (hf : S.full = false) : putS S i s = ({ opS S with cache := S.cache ++ [⟨i.toNat, s⟩] }, 0) := by
  unfold putS; rw [if_neg h, if_neg (by rw [ho]; simp), if_neg hl, if_neg (by rw [hf]; simp)]
/-- What a call on a disk leaves. -/
def Left (w : World) (d : Dk) (S' : St) (w' : World) : Prop := ∃ cv', Is w' { d with cv := cv' } S' ∧ Step w d w' { d with cv := cv' }
theorem Left.same (h : Is w d S) : Left w d S w := ⟨d.cv, h, Step.refl _ _⟩
theorem Left.of {w2 : World} (h : Is w2 d S) (hs : Step w d w2 d) : Left w d S w2 := ⟨d.cv, h, hs⟩
set_option maxHeartbeats 1000000 in
theorem write_any (h : Is w d S) (i : Int) (s : ByteArray) (hn : S.ops < 1000000) :
    Calls Tryz.prog 81 #[ptr d.pb, .int .i64 i, .string s] w fun e w' => e = .returned (.int .i64 (putS S i s).2) ∧ Left w d (putS S i s).1 w' := by
  obtain ⟨h0, l, h1, h2, h3, h4⟩ := id h
  obtain ⟨c0, c1, c2, c3, c4, c5, c6, c7⟩ := h4.cells
  have HH := Lib.hid (has_any h4 i)
  have HI := Lib.hid h
  by_cases hr : i < 0 ∨ (S.dur.length : Int) ≤ i
  · rw [put_range (by rcases hr with h | h; exact .inl h; exact .inr (.inl h))]
    rw [show (decide (0 ≤ i) && decide (i < ((raw S l).dur.length : Int))) = false by
      rw [Bool.and_eq_false_iff, decide_eq_false_iff_not, decide_eq_false_iff_not]
      show _ ∨ ¬ i < (S.dur.length : Int)
      omega] at HH
    clear h h0 h1 h2 h3 h4 hr
    go_enter Tryz.func81, Tryz.ntmps81
    go_wp2_with fail
    refine HH.out.mono ?_
    rintro e w' ⟨rfl, rfl⟩
    go_wp2_with fail
    go_ret
    exact ⟨rfl, Left.same HI.out⟩
  · rw [show decide (0 ≤ i) = true by simp; omega, show decide (i < ((raw S l).dur.length : Int)) = true by
      rw [decide_eq_true_eq]
      show i < (S.dur.length : Int)
      omega] at HH
    obtain ⟨p, rfl⟩ := Int.eq_ofNat_of_zero_le (show 0 ≤ i by omega)
    have hp : p < S.dur.length := by omega
    by_cases hz : s.size = S.z
    · have hnr : ¬ ((p : Int) < 0 ∨ (S.dur.length : Int) ≤ (p : Int) ∨ s.size ≠ S.z) := by omega
      have hz2 : ((s.size : Int) != ((raw S l).z : Int)) = false := by
        show ((s.size : Int) != (S.z : Int)) = false
        rw [hz]; simp
      cases ho : S.off
      · have ho2 : (raw S l).off = false := ho
        rw [ho2] at c6
        have HO := Lib.hid (operate_any h4 ho2 hn h2 h3)
        rw [op_raw S l h1] at HO
        have hl2 : (if 0 < l then l - 1 else l) = (if 0 < l then l - 1 else l) := rfl
        have HL : Hid ((opS S).left = (if 0 < l then l - 1 else l).toNat ∧ -9223372036854775808 ≤ (if 0 < l then l - 1 else l) ∧ (if 0 < l then l - 1 else l) ≤ 9223372036854775807) := by
          show S.left - 1 = _ ∧ _
          split <;> omega
        generalize (if 0 < l then l - 1 else l) = l' at HO HL hl2
        clear hl2
        have HK := Lib.hid (h0.op hn)
        have HKA := Lib.hid (h0.add hn hp hz)
        have hz256 := h0.most
        have HC := Lib.hid (show S.cache.length ≤ 1000000 from Nat.le_trans h0.cache h0.ops)
        have hcl := con_length S
        have hfew := h0.few
        have hsz : s.size ≤ 100000 := by omega
        have HP := Lib.hid (fun (W : World) (hM : Mem W d (raw (opS S) l')) => put_any hM p s (by show p < (con S).length; omega) hsz HC.out (by show (con S).length ≤ 4096; omega))
        have HR : Hid (∀ cv' W, Mem W { d with cv := cv' } { raw (opS S) l' with cache := S.cache ++ [⟨p, s⟩], con := (con S).set p s } → Is W { d with cv := cv' } { opS S with cache := S.cache ++ [⟨p, s⟩] }) := fun cv' W hM => by
          refine ⟨HKA.out, l', HL.out.1, HL.out.2.1, HL.out.2.2, ?_⟩
          have e : raw { opS S with cache := S.cache ++ [⟨p, s⟩] } l' = { raw (opS S) l' with cache := S.cache ++ [⟨p, s⟩], con := (con S).set p s } := by
            unfold raw con
            simp only [landL_snoc]
            rfl
          rw [e]
          exact hM
        by_cases hl : l = 1
        · rw [put_cut hnr ho (by omega)]
          rw [show decide ((raw S l).left = 1) = true from decide_eq_true hl] at HO
          clear hl h h0 h1 h2 h3 h4 hz hr hnr hp hn hcl hfew hz256
          cases hfu : S.full
          all_goals
            go_enter Tryz.func81, Tryz.ntmps81
            go_wp2_with fail
            refine HH.out.mono ?_
            rintro e w' ⟨rfl, rfl⟩
            go_wp2_with fail
            refine HO.out.mono ?_
            rintro e w1 ⟨rfl, hM, hF⟩
            have HF := Lib.hid hF
            have HM := Lib.hid hM
            obtain ⟨-, -, -, -, -, c5', -, -⟩ := hM.cells
            rw [show (raw (opS S) l').full = S.full from rfl, hfu] at c5'
            clear c0 c1 c2 c3 c4 c5 c6 c7 hF hM hfu
            go_wp2_with fail
            refine (HP.out w1 HM.out).mono ?_
            rintro e w2 ⟨rfl, cv', hM', hS'⟩
            have HZ := Lib.hid (And.intro (HR.out cv' w2 hM') ((Step.mk HF.out rfl rfl rfl rfl (fun _ h => .inl h) : Step w d w1 d).trans hS'))
            clear hM' hS'
            go_wp2_with fail
            refine (outcome_any w2 true).mono ?_
            rintro e w3 ⟨rfl, rfl⟩
            go_wp2_with fail
            go_ret
            exact ⟨rfl, cv', HZ.out.1, HZ.out.2⟩
        · rw [show decide ((raw S l).left = 1) = false from decide_eq_false hl] at HO
          cases hfu : S.full
          · rw [put_ok hnr ho (by omega) hfu]
            clear hl h h0 h1 h2 h3 h4 hz hr hnr hp hn hcl hfew hz256
            go_enter Tryz.func81, Tryz.ntmps81
            go_wp2_with fail
            refine HH.out.mono ?_
            rintro e w' ⟨rfl, rfl⟩
            go_wp2_with fail
            refine HO.out.mono ?_
            rintro e w1 ⟨rfl, hM, hF⟩
            have HF := Lib.hid hF
            have HM := Lib.hid hM
            obtain ⟨-, -, -, -, -, c5', -, -⟩ := hM.cells
            rw [show (raw (opS S) l').full = S.full from rfl, hfu] at c5'
            clear c0 c1 c2 c3 c4 c5 c6 c7 hF hM hfu
            go_wp2_with fail
            refine (HP.out w1 HM.out).mono ?_
            rintro e w2 ⟨rfl, cv', hM', hS'⟩
            have HZ := Lib.hid (And.intro (HR.out cv' w2 hM') ((Step.mk HF.out rfl rfl rfl rfl (fun _ h => .inl h) : Step w d w1 d).trans hS'))
            clear hM' hS'
            go_wp2_with fail
            refine (outcome_any w2 false).mono ?_
            rintro e w3 ⟨rfl, rfl⟩
            go_wp2_with fail
            go_ret
            exact ⟨rfl, cv', HZ.out.1, HZ.out.2⟩
          · rw [put_full hnr ho (by omega) hfu]
            clear hl h h0 h1 h2 h3 h4 hz hr hnr hp hn hcl hfew hz256
            go_enter Tryz.func81, Tryz.ntmps81
            go_wp2_with fail
            refine HH.out.mono ?_
            rintro e w' ⟨rfl, rfl⟩
            go_wp2_with fail
            refine HO.out.mono ?_
            rintro e w1 ⟨rfl, hM, hF⟩
            have HF := Lib.hid hF
            have HM := Lib.hid hM
            obtain ⟨-, -, -, -, -, c5', -, -⟩ := hM.cells
            rw [show (raw (opS S) l').full = S.full from rfl, hfu] at c5'
            clear c0 c1 c2 c3 c4 c5 c6 c7 hF hM hfu
            go_wp2_with fail
            go_ret
            exact ⟨rfl, Left.of ⟨HK.out, l', HL.out.1, HL.out.2.1, HL.out.2.2, HM.out⟩ (Step.mk HF.out rfl rfl rfl rfl (fun _ h => .inl h))⟩
      · have ho2 : (raw S l).off = true := ho
        rw [ho2] at c6
        rw [put_off hnr ho]
        clear h h0 h1 h2 h3 h4 hz hr hnr hp
        go_enter Tryz.func81, Tryz.ntmps81
        go_wp2_with fail
        refine HH.out.mono ?_
        rintro e w' ⟨rfl, rfl⟩
        go_wp2_with fail
        go_ret
        exact ⟨rfl, Left.same HI.out⟩
    · rw [put_range (.inr (.inr hz))]
      have hz2 : ((s.size : Int) != ((raw S l).z : Int)) = true := by
        show ((s.size : Int) != (S.z : Int)) = true
        simp; omega
      clear h h0 h1 h2 h3 h4 hz hr hp
      go_enter Tryz.func81, Tryz.ntmps81
      go_wp2_with fail
      refine HH.out.mono ?_
      rintro e w' ⟨rfl, rfl⟩
      go_wp2_with fail
      go_ret
      exact ⟨rfl, Left.same HI.out⟩
end
end Go.Proofs.YtghpohiinnallaaGreatDoor.Disk

/-
  The program's disk keeps what the plain one tells: Read, Cut, Fill, Flush.
-/
namespace Go.Proofs.YtghpohiinnallaaGreatDoor.Disk
open Go Go.RowKit
open Go.Proofs.YtghpohiinnallaaGreatDoor.Sha (wp_region_drawn_tail wp_region_kept_tail quiet_load_row)

section
variable {w w' : World} {d : Dk} {S : St}
theorem readIs_any (h : Is w d S) (i : Int) :
    Calls Tryz.prog 83 #[ptr d.pb, .int .i64 i] w fun e w' => e = .returned (.tuple #[.string (readS S i).1, .int .i64 (readS S i).2]) ∧ w = w' := by
  obtain ⟨h0, l, h1, h2, h3, h4⟩ := h
  unfold readS
  by_cases hr : i < 0 ∨ (S.dur.length : Int) ≤ i
  · rw [if_pos hr]
    exact read_out h4 i hr
  · rw [if_neg hr]
    obtain ⟨p, rfl⟩ := Int.eq_ofNat_of_zero_le (show 0 ≤ i by omega)
    have := read_in h4 p (by show p < S.dur.length; omega) (con_length S)
    show Calls _ _ _ _ _
    cases ho : S.off
    · have e : (raw S l).off = false := ho
      rw [e] at this
      simp at this ⊢
      exact this
    · have e : (raw S l).off = true := ho
      rw [e] at this
      simp at this ⊢
      exact this
def cutS (S : St) (x : Int) : St := { S with left := x.toNat }
theorem cutIs_any (h : Is w d S) (x : Int) (h1 : -9223372036854775808 ≤ x) (h2 : x ≤ 9223372036854775807) :
    Calls Tryz.prog 24 #[ptr d.pb, .int .i64 x] w fun e w' => e = .returned (.tuple #[]) ∧ Left w d (cutS S x) w' := by
  obtain ⟨h0, l, _, _, _, h4⟩ := h
  refine (cut_any h4 x).mono fun e w' hh => ?_
  obtain ⟨rfl, hM, hF⟩ := hh
  refine ⟨rfl, Left.of ⟨⟨h0.fit, h0.few, h0.low, h0.most, h0.ops, h0.cache, ?_⟩, x, rfl, h1, h2, hM⟩ (Step.mk hF rfl rfl rfl rfl (fun _ h => .inl h))⟩
  show x.toNat ≤ _
  omega
def fillS (S : St) (x : Bool) : St := { S with full := x }
theorem fillIs_any (h : Is w d S) (x : Bool) :
    Calls Tryz.prog 32 #[ptr d.pb, .bool x] w fun e w' => e = .returned (.tuple #[]) ∧ Left w d (fillS S x) w' := by
  obtain ⟨h0, l, h1, h2, h3, h4⟩ := h
  refine (fill_any h4 x).mono fun e w' hh => ?_
  obtain ⟨rfl, hM, hF⟩ := hh
  exact ⟨rfl, Left.of ⟨⟨h0.fit, h0.few, h0.low, h0.most, h0.ops, h0.cache, h0.left⟩, l, h1, h2, h3, hM⟩ (Step.mk hF rfl rfl rfl rfl (fun _ h => .inl h))⟩
theorem flush_off (ho : S.off = true) : flushS S = (S, 80) := if_pos ho
theorem flush_cut (ho : S.off = false) (hl : S.left = 1) : flushS S = (opS S, 80) := by
  unfold flushS; rw [if_neg (by rw [ho]; simp), if_pos hl]
theorem flush_ok (ho : S.off = false) (hl : S.left ≠ 1) : flushS S = ({ opS S with dur := con S, cache := [] }, 0) := by
  unfold flushS; rw [if_neg (by rw [ho]; simp), if_neg hl]
theorem Ok.raw_len (S : St) (l : Int) : (raw S l).con.length = (raw S l).dur.length := con_length S
set_option maxRecDepth 100000 in
set_option maxHeartbeats 4000000 in
theorem flush_any (h : Is w d S) (hn : S.ops < 1000000) :
    Calls Tryz.prog 82 #[ptr d.pb] w fun e w' => e = .returned (.int .i64 (flushS S).2) ∧ Left w d (flushS S).1 w' := by
  obtain ⟨h0, l, h1, h2, h3, h4⟩ := id h
  obtain ⟨c0, c1, c2, c3, c4, c5, c6, c7⟩ := h4.cells
  have HI := Lib.hid h
  cases ho : S.off
  · have ho2 : (raw S l).off = false := ho
    rw [ho2] at c6
    have HO := Lib.hid (operate_any h4 ho2 hn h2 h3)
    rw [op_raw S l h1] at HO
    have hl2 : (if 0 < l then l - 1 else l) = (if 0 < l then l - 1 else l) := rfl
    have HL : Hid ((opS S).left = (if 0 < l then l - 1 else l).toNat ∧ -9223372036854775808 ≤ (if 0 < l then l - 1 else l) ∧ (if 0 < l then l - 1 else l) ≤ 9223372036854775807) := by
      show S.left - 1 = _ ∧ _
      split <;> omega
    generalize (if 0 < l then l - 1 else l) = l' at HO HL hl2
    clear hl2
    have HK := Lib.hid (h0.op hn)
    have HKA := Lib.hid (h0.flush hn)
    have hcl : S.cache.length ≤ 1000000 := Nat.le_trans h0.cache h0.ops
    have HFT := Lib.hid h0.fit
    have HFW := Lib.hid h0.few
    by_cases hl : l = 1
    · rw [flush_cut ho (by omega)]
      rw [show decide ((raw S l).left = 1) = true from decide_eq_true hl] at HO
      clear hl h h0 h1 h2 h3 h4 hn hcl
      go_enter Tryz.func82, Tryz.ntmps82
      go_wp2_with fail
      refine HO.out.mono ?_
      rintro e w1 ⟨rfl, hM, hF⟩
      have HZ : Hid (Left w d (opS S) w1) := Left.of ⟨HK.out, l', HL.out.1, HL.out.2.1, HL.out.2.2, hM⟩ (Step.mk hF rfl rfl rfl rfl (fun _ h => .inl h))
      clear c0 c1 c2 c3 c4 c5 c6 c7 hF hM
      go_wp2_with fail
      refine (outcome_any w1 true).mono ?_
      rintro e w3 ⟨rfl, rfl⟩
      go_wp2_with fail
      go_ret
      exact ⟨rfl, HZ.out⟩
    · rw [flush_ok ho (by omega)]
      rw [show decide ((raw S l).left = 1) = false from decide_eq_false hl] at HO
      clear hl h h0 h1 h2 h3 h4 hn
      go_enter Tryz.func82, Tryz.ntmps82
      go_wp2_with fail
      refine HO.out.mono ?_
      rintro e w1 ⟨rfl, hM, hF⟩
      obtain ⟨ca, cc, hcv⟩ := hM.shape
      have HCV := Lib.hid hcv
      obtain ⟨-, -, -, k3, -, -, -, -⟩ := hM.cells
      rw [hcv] at k3
      have hS1 : Step w d w1 d := Step.mk hF rfl rfl rfl rfl (fun _ h => .inl h)
      have HM := Lib.hid (And.intro hM hS1)
      clear c0 c1 c2 c3 c4 c5 c6 c7 hF hM hcv hS1
      go_wp2_with fail
      go_loopw [19] (fun i wr => ∃ k : Nat, k ≤ S.cache.length ∧ i = .int .i64 k ∧ Mem wr d { raw (opS S) l' with dur := landL S.dur (S.cache.take k) } ∧ Step w d wr d) (fun i _ => S.cache.length - (intOf i).toNat)
      case atStart => exact ⟨0, Nat.zero_le _, rfl, HM.out⟩
      case round =>
        obtain ⟨k, hk, rfl, hM, hS⟩ := hrel
        have HR := Lib.hid (And.intro hM hS)
        clear hM hS k3
        by_cases hlt : k < S.cache.length
        · obtain ⟨x, hx⟩ : ∃ x, S.cache[k]? = some x := ⟨S.cache[k], List.getElem?_eq_getElem hlt⟩
          obtain ⟨g, c', hv, hgb, k0, k1, hr⟩ := owns_write HR.out.1.cache hx
          have hxp := (HFT.out.wr x (List.mem_of_getElem? hx)).1
          rw [HCV.out] at hv hgb
          obtain ⟨rfl, -, rfl⟩ := Value.slice.inj hv
          have hgs : g < wr.heap.size := (HR.out.1.cache.lt g (by rw [HCV.out]; rfl)).2
          have HT := Lib.hid (landL_take (L := S.dur) hx)
          clear hv hgb hr hx
          obtain ⟨c0, c1, c2, c3, c4, c5, c6, c7⟩ := HR.out.1.cells
          obtain ⟨l0, l1, l2⟩ := HR.out.1.lts
          have hfl : (landL S.dur (S.cache.take k)).length = S.dur.length := landL_length _ _
          have kd := HR.out.1.durAt (i := x.p) (by show x.p < (landL S.dur (S.cache.take k)).length; omega)
          have hfa := fun o => ((HR.out.1.alloc o).dur).free x.p
          have hfa' := (HR.out.1.dur).free x.p
          have hfw := HFW.out
          rw [HCV.out] at c3
          rw [show ({ raw (opS S) l' with dur := landL S.dur (S.cache.take k) } : Raw).dur = landL S.dur (S.cache.take k) from rfl, hfl] at c1
          have HZ : Hid (∀ n, Mem (((wr.alloc (boxW x)).drewN n).setCell ⟨d.db, x.p, none⟩ (.string x.s)) d { raw (opS S) l' with dur := landL S.dur (S.cache.take (k + 1)) } ∧ Step w d (((wr.alloc (boxW x)).drewN n).setCell ⟨d.db, x.p, none⟩ (.string x.s)) d) := fun n => by
            have h1 := ((HR.out.1.alloc (boxW x)).drewN n).setDur x.p x.s
            rw [HT.out]
            exact ⟨h1, HR.out.2.put ((((Fr.refl _ wr).alloc _).drewN n).dbAt _ _)⟩
          clear hfl HT
          go_wp2_with fail
          refine wp_region_drawn_tail 9 (by kernel_rfl) (by kernel_rfl) ?_
          simp only [List.take_succ_cons, List.take_zero, List.drop_succ_cons, List.drop_zero]
          repeat (go_big_quiet_step (fail))
          refine wpQuiet_nil ?_
          rintro _ ⟨nq, rfl⟩
          go_wp2
          go_roundw
          case rel => exact ⟨k + 1, by omega, by simp, (HZ.out nq).1, (HZ.out nq).2⟩
          case measure => simp [intOf]; omega
        · have e : S.cache.take k = S.cache := List.take_of_length_le (by omega)
          have hM := HR.out.1
          rw [e] at hM
          have HE := Lib.hid (empty_any hM (fun x hx => by
            show x.p < (landL S.dur S.cache).length
            rw [landL_length]
            exact (HFT.out.wr x hx).1) rfl (by show (landL S.dur S.cache).length ≤ 4096; rw [landL_length]; exact HFW.out) hcl)
          clear hM e
          go_wp2_with fail
          refine HE.out.mono ?_
          rintro e w2 ⟨rfl, hM, hS⟩
          have hZ : Left w d { opS S with dur := con S, cache := [] } w2 := by
            refine ⟨_, ⟨HKA.out, l', HL.out.1, HL.out.2.1, HL.out.2.2, ?_⟩, HR.out.2.trans hS⟩
            have e2 : fresh (con S) (landL S.dur S.cache) S.cache = con S := fresh_flush
            have e3 : raw { opS S with dur := con S, cache := [] } l' = { raw (opS S) l' with dur := landL S.dur S.cache, cache := [], con := fresh (con S) (landL S.dur S.cache) S.cache } := by
              rw [e2]
              rfl
            rw [e3]
            exact hM
          have HZ := Lib.hid hZ
          clear hM hS hZ
          go_wp2_with fail
          refine (outcome_any w2 false).mono ?_
          rintro e w3 ⟨rfl, rfl⟩
          go_wp2_with fail
          go_ret
          exact ⟨rfl, HZ.out⟩
  · have ho2 : (raw S l).off = true := ho
    rw [ho2] at c6
    rw [flush_off ho]
    clear h h0 h1 h2 h3 h4
    go_enter Tryz.func82, Tryz.ntmps82
    go_wp2_with fail
    go_ret
    exact ⟨rfl, Left.same HI.out⟩
end
end Go.Proofs.YtghpohiinnallaaGreatDoor.Disk

/-
  What a disk tells of itself, of a disk that is like St: Sectors, Size, Durable.
-/
namespace Go.Proofs.YtghpohiinnallaaGreatDoor.Disk
open Go Go.RowKit

section
variable {w : World} {d : Dk} {S : St}
theorem same_sym {v : Value} {w : World} {P : Program} {f : FuncId} {args : Array Value} (h : Calls P f args w fun e w' => e = .returned v ∧ w = w') : Calls P f args w fun e w' => e = .returned v ∧ w' = w :=
  h.mono fun _ _ ⟨he, hw⟩ => ⟨he, hw.symm⟩
theorem sectorsIs (h : Is w d S) : Calls Tryz.prog 144 #[ptr d.pb] w fun e w' => e = .returned (.int .i64 S.dur.length) ∧ w' = w := by
  obtain ⟨_, l, _, _, _, hm⟩ := h
  exact same_sym (sectors_any hm)
theorem sizeIs (h : Is w d S) : Calls Tryz.prog 79 #[ptr d.pb] w fun e w' => e = .returned (.int .i64 S.z) ∧ w' = w := by
  obtain ⟨_, l, _, _, _, hm⟩ := h
  exact same_sym (size_any hm)
end
end Go.Proofs.YtghpohiinnallaaGreatDoor.Disk

/-
  The program's disk keeps what the plain one tells: Crash.
-/
namespace Go.Proofs.YtghpohiinnallaaGreatDoor.Disk
open Go Go.RowKit
open Go.Proofs.YtghpohiinnallaaGreatDoor.Sha (wp_region_drawn_tail wp_region_kept_tail quiet_load_row)

section
variable {w w' : World} {d : Dk} {S : St}
/-- A disk in the midst of a crash: those that survive beside it. -/
structure InCrash (w : World) (d : Dk) (R : Raw) (rv : Value) (K : List Wr) (wr : World) : Prop where
  mem : Mem wr d R
  step : Step w d wr d
  kept : wr.ownsRow w.heap.size wrT 2 rv K.length (K.flatMap wC)
  lts : ∀ k, own d k → k < w.heap.size
theorem InCrash.frame {R : Raw} {rv : Value} {K : List Wr} {wr w2 : World} {F : Nat → Prop} (h : InCrash w d R rv K wr) (hf : Fr F wr w2) (hF : ∀ k, ¬ F k) : InCrash w d R rv K w2 :=
  ⟨h.mem.frame hf fun k e => absurd e (hF k), h.step.put (hf.mono fun k _ e => absurd e (hF k)), Fr.owns h.kept hf fun k _ => hF k, h.lts⟩
theorem InCrash.box {R : Raw} {rv : Value} {K : List Wr} {wr w2 : World} {b : Nat} (h : InCrash w d R rv K wr) (hf : Fr (fun k => k = b) wr w2) (hb : wr.heap.size ≤ b) : InCrash w d R rv K w2 :=
  h.frame (F := fun _ => False) ⟨hf.os, hf.tape, hf.output, hf.size, fun k hk _ => hf.block k hk (by omega)⟩ fun _ e => e
theorem InCrash.setDur {R : Raw} {rv : Value} {K : List Wr} {wr : World} (h : InCrash w d R rv K wr) (i : Nat) (s : ByteArray) : InCrash w d { R with dur := R.dur.set i s } rv K (wr.setCell ⟨d.db, i, none⟩ (.string s)) := by
  refine ⟨h.mem.setDur i s, h.step.put ((Fr.refl _ wr).dbAt _ _), Fr.owns (F := fun k => k = d.db) h.kept (Fr.one _ _ _ _) fun k hk e => ?_, h.lts⟩
  have h1 := h.kept.lt k hk
  have h2 := h.lts d.db (.inr (.inl rfl))
  omega
set_option maxRecDepth 100000 in
set_option maxHeartbeats 4000000 in
theorem crash_any (h : Is w d S) (kv : Value) (ks : List Bool) (torn : Int) (hk : ReadsK w kv ks) (hkl : ks.length ≤ 9223372036854775807) :
    Calls Tryz.prog 28 #[ptr d.pb, kv, .int .i64 torn] w fun e w' => e = .returned (.tuple #[]) ∧ Left w d (crashS S ks torn) w' := by
  obtain ⟨h0, l, h1, h2, h3, h4⟩ := id h
  obtain ⟨c0, c1, c2, c3, c4, c5, c6, c7⟩ := h4.cells
  have hcl : S.cache.length ≤ 1000000 := Nat.le_trans h0.cache h0.ops
  have HC := Lib.hid (chosen_any w d.B d.cv kv S.cache ks h4.cache hk hcl hkl)
  have HX := Lib.hid (h0.crash ks torn)
  have HM4 := Lib.hid h4
  have HFT : Hid (Fit S.z S.dur.length S.dur (chosen S.cache ks)) := ⟨rfl, h0.fit.size, fun w hw => h0.fit.wr w (chosen_mem _ _ hw)⟩
  have HFC := Lib.hid h0.fit
  have hKl := chosen_length S.cache ks
  have hz := h0.most
  have HFW := Lib.hid h0.few
  have HD : Hid (∀ W, Mem W { d with cv := .slice none 0 0 } { raw S 0 with dur := crashL S.z torn S.dur (chosen S.cache ks), cache := [], con := fresh (con S) (crashL S.z torn S.dur (chosen S.cache ks)) S.cache, off := false } → Is W { d with cv := .slice none 0 0 } (crashS S ks torn)) := fun W hM => by
    refine ⟨HX.out, 0, rfl, by omega, by omega, ?_⟩
    rw [fresh_crash] at hM
    exact hM
  obtain ⟨K, hK⟩ : ∃ K, K = chosen S.cache ks := ⟨_, rfl⟩
  rw [← hK] at HC HFT hKl HD
  clear h h0 h1 h2 h3 h4 hk hK HX
  go_enter Tryz.func28, Tryz.ntmps28
  go_wp2_with fail
  refine HC.out.mono ?_
  rintro e w1 ⟨rv, rfl, hO, hb1⟩
  obtain ⟨ra, rc, rfl⟩ := owns_slice hO
  have HR1 : Hid (InCrash w d (raw S l) (.slice ra K.length rc) K w1) := ⟨HM4.out.below hb1, Step.of_below d hb1, hO, fun k hk => (HM4.out.own_lt hk).1⟩
  clear hO hb1 c0 c1 c2 c3 c4 c5 c6 c7 HC
  go_wp2_with fail
  go_loopw [17] (fun i wr => ∃ k : Nat, k ≤ K.length ∧ i = .int .i64 k ∧ InCrash w d { raw S l with dur := upto S.z torn S.dur K k } (.slice ra K.length rc) K wr) (fun i _ => K.length - (intOf i).toNat)
  case atStart => exact ⟨0, Nat.zero_le _, rfl, by rw [upto_zero]; exact HR1.out⟩
  case round =>
    obtain ⟨k, hk, rfl, hM⟩ := hrel
    have HR := Lib.hid hM
    clear hM
    by_cases hlt : k < K.length
    · obtain ⟨x, hx⟩ : ∃ x, K[k]? = some x := ⟨K[k], List.getElem?_eq_getElem hlt⟩
      obtain ⟨g, c', hv, hgb, k0, k1, hr⟩ := owns_write HR.out.kept hx
      have hxp := HFT.out.wr x (List.mem_of_getElem? hx)
      obtain ⟨rfl, -, rfl⟩ := Value.slice.inj hv
      have hgs : g < wr.heap.size := (HR.out.kept.lt g rfl).2
      have HXX := Lib.hid hx
      have HXP := Lib.hid hxp
      have hxp1 : x.p < S.dur.length := hxp.1
      have hfl : (upto S.z torn S.dur K k).length = S.dur.length := upto_length _ _ _ _ _
      obtain ⟨l0, l1, l2⟩ := HR.out.mem.lts
      have hfw := HFW.out
      have HB : Hid (InCrash w d { raw S l with dur := upto S.z torn S.dur K k } (.slice (some ⟨g, 0, none⟩) K.length rc) K (wr.alloc (boxW x))) := HR.out.frame (F := fun _ => False) ((Fr.refl _ wr).alloc _) fun _ e => e
      have hU : Fit S.z S.dur.length (upto S.z torn S.dur K k) [] := HFT.out.upto k
      clear hv hgb hr hx hxp
      by_cases hlast : k + 1 = K.length
      · have hd : ((k : Int) == (K.length : Int) - 1) = true := by simp; omega
        have HT := Lib.hid (tear_any HB.out.mem x torn (by show x.p < (upto S.z torn S.dur K k).length; omega) HXP.out.2 hz (hU.at HXP.out.1) (by show (upto S.z torn S.dur K k).length ≤ 4096; omega))
        have HU := Lib.hid (upto_last S.z torn S.dur K k x HXX.out hlast)
        have hpp := tear_p S.z torn (upto S.z torn S.dur K k) x
        rw [show ({ raw S l with dur := upto S.z torn S.dur K k } : Raw).z = S.z from rfl, show ({ raw S l with dur := upto S.z torn S.dur K k } : Raw).dur = upto S.z torn S.dur K k from rfl] at HT
        generalize tear S.z torn (upto S.z torn S.dur K k) x = y at HT HU hpp
        have hyp : y.p < S.dur.length := by omega
        rw [← hpp] at HU
        clear hpp hU
        go_wp2_with fail
        refine HT.out.mono ?_
        rintro e w3 ⟨rfl, hb3⟩
        have hL3 : Lies w3 wr.heap.size #[.int .i64 x.p, .string x.s] wrT := (Lies.new wr _ _).same (hb3.block _ (by simp))
        have b0 := hL3.cell 0
        have b1 := hL3.cell 1
        have f0 := hL3.free 0
        have f1 := hL3.free 1
        have HL4 : Hid (Lies ((w3.setCell ⟨wr.heap.size, 0, none⟩ (.int .i64 y.p)).setCell ⟨wr.heap.size, 1, none⟩ (.string y.s)) wr.heap.size #[.int .i64 y.p, .string y.s] wrT) := (hL3.set 0 _).set 1 _
        have HC4 : Hid (InCrash w d { raw S l with dur := upto S.z torn S.dur K k } (.slice (some ⟨g, 0, none⟩) K.length rc) K ((w3.setCell ⟨wr.heap.size, 0, none⟩ (.int .i64 y.p)).setCell ⟨wr.heap.size, 1, none⟩ (.string y.s))) := by
          refine HR.out.box (b := wr.heap.size) ?_ (Nat.le_refl _)
          have hb : Below wr.heap.size wr w3 := ((Below.refl _ _).alloc (Nat.le_refl _) _).trans (hb3.mono (by simp))
          exact Fr.setCell (F := fun k => k = wr.heap.size) (Fr.setCell (F := fun k => k = wr.heap.size) (Fr.of_below hb) (fun _ => rfl) _) (fun _ => rfl) _
        clear hb3 hL3
        go_wp2_with fail
        generalize World.setCell (World.setCell w3 _ _) _ _ = w4 at HL4 HC4 ⊢
        obtain ⟨c0, c1, c2, c3, c4, c5, c6, c7⟩ := HC4.out.mem.cells
        have kd := HC4.out.mem.durAt (i := y.p) (by show y.p < (upto S.z torn S.dur K k).length; omega)
        have kf := HC4.out.mem.dur.free y.p
        have b0 := HL4.out.cell 0
        have b1 := HL4.out.cell 1
        rw [show ({ raw S l with dur := upto S.z torn S.dur K k } : Raw).dur = upto S.z torn S.dur K k from rfl, hfl] at c1
        have HZ : Hid (∀ n, InCrash w d { raw S l with dur := upto S.z torn S.dur K (k + 1) } (.slice (some ⟨g, 0, none⟩) K.length rc) K ((w4.drewN n).setCell ⟨d.db, y.p, none⟩ (.string y.s))) := fun n => by
          have := (HC4.out.frame (F := fun _ => False) ((Fr.refl _ w4).drewN n) fun _ e => e).setDur y.p y.s
          rw [HU.out]
          exact this
        clear HU HC4 HL4 hfl
        refine wp_region_drawn_tail 9 (by kernel_rfl) (by kernel_rfl) ?_
        simp only [List.take_succ_cons, List.take_zero, List.drop_succ_cons, List.drop_zero]
        repeat (go_big_quiet_step (fail))
        refine wpQuiet_nil ?_
        rintro _ ⟨nq, rfl⟩
        go_wp2
        go_roundw
        case rel => exact ⟨k + 1, by omega, by simp, HZ.out nq⟩
        case measure => simp [intOf]; omega
      · have hd : ((k : Int) == (K.length : Int) - 1) = false := by simp; omega
        obtain ⟨c0, c1, c2, c3, c4, c5, c6, c7⟩ := HR.out.mem.cells
        have kd := HR.out.mem.durAt (i := x.p) (by show x.p < (upto S.z torn S.dur K k).length; omega)
        have hfa := fun o => ((HR.out.mem.alloc o).dur).free x.p
        have hfa' := (HR.out.mem.dur).free x.p
        rw [show ({ raw S l with dur := upto S.z torn S.dur K k } : Raw).dur = upto S.z torn S.dur K k from rfl, hfl] at c1
        have HU := Lib.hid (upto_succ S.z torn S.dur K k x HXX.out (by omega))
        have HZ : Hid (∀ n, InCrash w d { raw S l with dur := upto S.z torn S.dur K (k + 1) } (.slice (some ⟨g, 0, none⟩) K.length rc) K (((wr.alloc (boxW x)).drewN n).setCell ⟨d.db, x.p, none⟩ (.string x.s))) := fun n => by
          have := (HB.out.frame (F := fun _ => False) ((Fr.refl _ _).drewN n) fun _ e => e).setDur x.p x.s
          rw [HU.out]
          exact this
        clear HU hfl hU
        go_wp2_with fail
        refine wp_region_drawn_tail 9 (by kernel_rfl) (by kernel_rfl) ?_
        simp only [List.take_succ_cons, List.take_zero, List.drop_succ_cons, List.drop_zero]
        repeat (go_big_quiet_step (fail))
        refine wpQuiet_nil ?_
        rintro _ ⟨nq, rfl⟩
        go_wp2
        go_roundw
        case rel => exact ⟨k + 1, by omega, by simp, HZ.out nq⟩
        case measure => simp [intOf]; omega
    · have e : k = K.length := by omega
      have hM := HR.out
      rw [e] at hM
      have HE := Lib.hid (empty_any hM.mem (fun x hx => by
        show x.p < (upto S.z torn S.dur K K.length).length
        rw [upto_length]
        exact (HFC.out.wr x hx).1) (by show (con S).length = (upto S.z torn S.dur K K.length).length; rw [upto_length]; exact con_length S) (by show (upto S.z torn S.dur K K.length).length ≤ 4096; rw [upto_length]; exact HFW.out) hcl)
      have HS := Lib.hid hM.step
      clear hM e
      go_wp2_with fail
      refine HE.out.mono ?_
      rintro e w2 ⟨rfl, hM, hS⟩
      obtain ⟨c0, c1, c2, c3, c4, c5, c6, c7⟩ := hM.cells
      have f4 := hM.free 4
      have f6 := hM.free 6
      have HZ : Hid (Left w d (crashS S ks torn) ((w2.setCell ⟨d.pb, 6, none⟩ (.bool false)).setCell ⟨d.pb, 4, none⟩ (.int .i64 0))) :=
        ⟨_, HD.out _ ((hM.setOff false).setLeft 0), (HS.out.trans hS).put (((Fr.refl _ _).pbAt (d := d) 6 _).pbAt (d := d) 4 _)⟩
      clear hM hS c0 c1 c2 c3
      go_wp2_with fail
      go_end0
      exact ⟨rfl, HZ.out⟩
end
end Go.Proofs.YtghpohiinnallaaGreatDoor.Disk

/-
  Walks of slices.Repeat, zeros, New (the program's).
-/
namespace Go.Proofs.YtghpohiinnallaaGreatDoor.Disk
open Go Go.RowKit
open Go.Proofs.YtghpohiinnallaaGreatDoor.Sha (wp_region_drawn_tail wp_region_kept_tail quiet_load_row)

theorem infoStr : (Tryz.prog.info? 9).map (fun i => (i.zero, i.size, i.bytes)) = some (some (.string ⟨#[]⟩), 1, 16) := by kernel_rfl
theorem sizeStr : (Tryz.prog.info? 9).map (·.size) = some 1 := by kernel_rfl
theorem made_strs (n : Nat) : madeCells (Value.string ⟨#[]⟩).cells n = strs (List.replicate n ⟨#[]⟩) := by
  show madeCells #[.string ⟨#[]⟩] n = _
  apply Array.ext_getElem?
  intro j
  by_cases hj : j < n
  · rw [strs_get (by simpa using hj), Array.getElem?_eq_getElem (by rw [size_madeCells]; exact hj)]
    unfold madeCells at0
    simp [Nat.mod_one, hj, List.getD_eq_getElem?_getD]
  · rw [Array.getElem?_eq_none (by rw [size_madeCells]; omega), Array.getElem?_eq_none (by rw [strs_size, List.length_replicate]; omega)]
theorem make_strs (n : Nat) (hn : n ≤ 100000) (W : World) : (Instr.makeSlice 28 (.int .i64 n) (.int .i64 n)).run Tryz.prog W = .ok (.slice (some ⟨W.heap.size, 0, none⟩) n n) (W.alloc (.cells (strs (List.replicate n ⟨#[]⟩)) strT)) := by
  obtain ⟨i, hi, hz0, hz1, hz2⟩ := info_parts infoStr
  have h := run_make (P := Tryz.prog) W 28 strT i (.string ⟨#[]⟩) Tryz.underlying28 hi hz0 .i64 .i64 n n (by omega) (by omega) (by rw [hz2]; omega) (by omega)
  rw [h, hz1, Int.toNat_natCast, Nat.mul_one, made_strs]
/-- The first m are there, the others are empty. -/
def some? (s : ByteArray) (n m : Nat) : List ByteArray := List.replicate m s ++ List.replicate (n - m) ⟨#[]⟩
theorem some_length (s : ByteArray) {n m : Nat} (h : m ≤ n) : (some? s n m).length = n := by unfold some?; simp; omega
theorem some_all (s : ByteArray) (n : Nat) : some? s n n = List.replicate n s := by unfold some?; simp
theorem some_none (s : ByteArray) (n : Nat) : some? s n 0 = List.replicate n ⟨#[]⟩ := by unfold some?; simp
theorem some_splice (s : ByteArray) (n m k : Nat) (h : m + k ≤ n) : splice ((some? s n m).map Value.string) m (List.replicate k (.string s)) = (some? s n (m + k)).map Value.string := by
  unfold splice some?
  rw [List.length_replicate]
  simp only [List.map_append, List.map_replicate]
  rw [List.take_left' (by simp), List.drop_append, List.drop_replicate, List.drop_replicate, List.length_replicate, show m - (m + k) = 0 by omega, show n - m - (m + k - m) = n - (m + k) by omega, ← List.append_assoc, List.replicate_append_replicate]
  rfl
theorem some_get (s : ByteArray) {n m i : Nat} (h : i < m) (hm : m ≤ n) : (strs (some? s n m))[i]? = some (.string s) := by
  rw [strs_get (by rw [some_length s hm]; omega)]
  unfold at0 some?
  rw [List.getD_eq_getElem?_getD, List.getElem?_append_left (by simpa using h), List.getElem?_replicate, if_pos h]
  rfl
theorem strs_list (L : List ByteArray) : strs L = (L.map Value.string).toArray := rfl
theorem some_succ {s : ByteArray} {n m k : Nat} {w' : World} {b : Nat} (h : m + k ≤ n) (hh : Hid (w'.heap[b]? = some (.cells (splice ((some? s n m).map Value.string) m (List.replicate k (.string s))).toArray strT (0, 0)))) : Lies w' b (strs (some? s n (m + k))) strT := by
  have := hh.out
  rw [some_splice s n m k h] at this
  exact this
theorem wrap_at {x : Int} (h1 : -9223372036854775808 ≤ x) (h2 : x ≤ 9223372036854775807) : IntKind.i64.wrap x = x := by
  rw [IntKind.wrap_i64]
  omega
set_option maxRecDepth 100000 in
set_option maxHeartbeats 1000000 in
theorem repeat_any (w : World) (xb n : Nat) (s : ByteArray) (hx : w.cell? ⟨xb, 0, none⟩ = some (.string s)) (h1 : 1 ≤ n) (h2 : n ≤ 100000) :
    Calls Tryz.prog 77 #[.slice (some ⟨xb, 0, none⟩) 1 1, .int .i64 n] w fun e w' => e = .returned (.slice (some ⟨w.heap.size, 0, none⟩) n n) ∧ Lies w' w.heap.size (strs (List.replicate n s)) strT ∧ Below w.heap.size w w' := by
  have HM := Lib.hid (Tryz.bits_Mul 1 n (by omega) (by omega) w)
  rw [show ((1 * n / 18446744073709551616 : Nat) : Int) = 0 by rw [Nat.div_eq_of_lt (by omega)]; rfl, show ((1 * n % 18446744073709551616 : Nat) : Int) = (n : Int) by rw [Nat.mod_eq_of_lt (by omega), Nat.one_mul]] at HM
  have hmk := make_strs n h2
  have hxb : xb < w.heap.size := World.block_lt_of_cell? w _ hx
  have HB0 : Hid (Below w.heap.size w (w.alloc (.cells (strs (List.replicate n ⟨#[]⟩)) strT))) := (Below.refl _ _).alloc (Nat.le_refl _) _
  have HL0 : Hid (Lies (w.alloc (.cells (strs (List.replicate n ⟨#[]⟩)) strT)) w.heap.size ((some? s n 0).map Value.string).toArray strT) := by
    rw [some_none]; exact Lies.new _ _ _
  have HX0 : Hid ((w.alloc (.cells (strs (List.replicate n ⟨#[]⟩)) strT)).cell? ⟨xb, 0, none⟩ = some (.string s)) := (HB0.out.cell (p := ⟨xb, 0, none⟩) hxb).trans hx
  go_enter Tryz.func77, Tryz.ntmps77
  go_wp2_with fail
  refine HM.out.mono ?_
  rintro e w' ⟨rfl, rfl⟩
  go_wp2_with (refine wpList_copy_splice rfl (.tmp 31) (.tmp 32) 28 28 rfl strT Tryz.underlying28 sizeStr (some ⟨w'.heap.size, 0, none⟩) (some ⟨xb, 0, none⟩) n n 1 1 rfl rfl w'.heap.size 0 ((some? s n 0).map Value.string) strT HL0.out (List.replicate 1 (.string s)) (by show 1 = Nat.min 1 n; exact (Nat.min_eq_left h1).symm) (fun _ => ⟨rfl, _, rfl, fun j v hj => by
    match j, hj with
    | 0, hj => obtain rfl : Value.string s = v := by simpa using hj
               exact HX0.out
    | j + 1, hj => simp at hj⟩) (by rw [List.length_map, some_length s (Nat.zero_le _)]; simpa using h1) (by simp [Value.oneCell']) w'.heap.size w' HB0.out (Nat.le_refl _) ?_; intro w2 hL2 hB2)
  have HS : Hid (Lies w2 w'.heap.size (strs (some? s n 1)) strT ∧ Below w'.heap.size w' w2) := ⟨some_succ (m := 0) (k := 1) (by omega) hL2, hB2⟩
  clear hL2 hB2 HL0 HX0 HB0 hx
  go_loopw [8] (fun i wr => ∃ m : Nat, 1 ≤ m ∧ m ≤ n ∧ i = .int .i64 m ∧ Lies wr w'.heap.size (strs (some? s n m)) strT ∧ Below w'.heap.size w' wr) (fun i _ => n - (intOf i).toNat)
  case atStart => exact ⟨1, Nat.le_refl _, h1, rfl, HS.out⟩
  case round =>
    obtain ⟨m, hm1, hm2, rfl, hL, hB⟩ := hrel
    have HH := Lib.hid (And.intro hL hB)
    clear hL hB
    by_cases hlt : m < n
    · obtain ⟨q, hq⟩ : ∃ q, q = Nat.min m (n - m) := ⟨_, rfl⟩
      have hq1 : q ≤ m := by rw [hq]; exact Nat.min_le_left _ _
      have hq2 : q ≤ n - m := by rw [hq]; exact Nat.min_le_right _ _
      have hq3 : 1 ≤ q := by rw [hq]; exact Nat.le_min.2 ⟨hm1, by omega⟩
      have HQ := Lib.hid hq
      clear hq
      have hm0 : (m : Int) < (n : Int) := by omega
      have HL : Hid (wr.drew.heap[w'.heap.size]? = some (.cells ((some? s n m).map Value.string).toArray strT (0, 0))) := HH.out.1
      have HC : Hid (∀ (j : Nat) (v : Value), (List.replicate q (Value.string s))[j]? = some v → wr.drew.cell? ((⟨w'.heap.size, 0, none⟩ : Addr).add j) = some v) := fun j v hj => by
        rw [addr_add, Nat.zero_add]
        rw [List.getElem?_replicate] at hj
        split at hj
        · have h3 : Lies wr.drew w'.heap.size (strs (some? s n m)) strT := HH.out.1
          rw [h3.cell j, some_get s (by omega) hm2]
          exact hj
        · cases hj
      have HBd : Hid (Below w'.heap.size w' wr.drew) := HH.out.2.drew
      have HF : Hid (m + (List.replicate q (Value.string s)).length ≤ ((some? s n m).map Value.string).length) := by
        show _ ≤ _
        rw [List.length_map, some_length s hm2, List.length_replicate]
        omega
      have HN : Hid ((List.replicate q (Value.string s)).length = Nat.min m (n - m)) := by
        show _ = _
        rw [List.length_replicate]
        exact HQ.out
      have HO : Hid (∀ v ∈ List.replicate q (Value.string s), v.oneCell' = true) := fun v hv => by
        obtain ⟨_, rfl⟩ := List.mem_replicate.1 hv
        rfl
      have HNE : Hid (¬ n = m) := fun e => by omega
      go_wp2_with fail
      go_region_held3 (fun _ => True) (trivial) ((refine step_copy_splice (by rfl) _ _ _ _ (by rfl) strT Tryz.underlying28 sizeStr (if n = m then some ⟨w'.heap.size, 0, none⟩ else some ⟨w'.heap.size, m, none⟩) (some ⟨w'.heap.size, 0, none⟩) (n - m) (n - m) m n (by rfl) (by rfl) w'.heap.size m ((some? s n m).map Value.string) strT HL.out (List.replicate q (.string s)) HN.out (fun _ => ⟨if_neg HNE.out, _, rfl, HC.out⟩) HF.out HO.out w'.heap.size w' HBd.out (Nat.le_refl _) ?_; intro w3 hL3 hB3))
      have HS : Hid (Lies w3 w'.heap.size (strs (some? s n (m + q))) strT ∧ Below w'.heap.size w' w3) := ⟨some_succ (by omega) hL3, hB3⟩
      clear hL3 hB3
      go_wp2_with fail
      go_roundw
      case rel => exact ⟨m + q, by omega, by omega, by rw [wrap_at (by omega) (by omega)]; simp, HS.out⟩
      case measure => rw [wrap_at (by omega) (by omega)]; simp [intOf]; omega
    · obtain rfl : m = n := by omega
      have HZ : Hid (Lies wr w'.heap.size (strs (List.replicate m s)) strT) := by rw [← some_all]; exact HH.out.1
      go_wp2_with fail
      go_ret
      exact ⟨rfl, HZ.out, HH.out.2⟩
end Go.Proofs.YtghpohiinnallaaGreatDoor.Disk

/-
  Walks of zeros, New (the program's).
-/
namespace Go.Proofs.YtghpohiinnallaaGreatDoor.Disk
open Go Go.RowKit

def zs (z : Nat) : ByteArray := ⟨(List.replicate z 0).toArray⟩
theorem zs_size (z : Nat) : (zs z).size = z := by
  show (List.replicate z (0 : UInt8)).toArray.size = z
  simp
theorem repeat_zero : ∀ z : Nat, Lib.repeatL [(0 : UInt8)] z = List.replicate z 0
  | 0 => rfl
  | z + 1 => by
    show [0] ++ Lib.repeatL [0] z = _
    rw [repeat_zero z]
    rfl
theorem zeros_any (w : World) (n z : Nat) (h1 : 1 ≤ n) (h2 : n ≤ 100000) (h3 : z ≤ 100000) :
    Calls Tryz.prog 46 #[.int .i64 n, .int .i64 z] w fun e w' => ∃ b, e = .returned (.slice (some ⟨b, 0, none⟩) n n) ∧ Lies w' b (strs (List.replicate n (zs z))) strT ∧ w.heap.size ≤ b ∧ Below w.heap.size w w' := by
  have HR := Lib.hid (Tryz.strings_Repeat ⟨#[0]⟩ z w (by omega) (by show 1 * z ≤ _; omega))
  rw [show (⟨(Lib.repeatL (⟨#[0]⟩ : ByteArray).data.toList z).toArray⟩ : ByteArray) = zs z from by unfold zs; rw [← repeat_zero]] at HR
  go_enter Tryz.func46, Tryz.ntmps46
  go_wp2_with fail
  refine HR.out.mono ?_
  rintro e w1 ⟨rfl, hb1⟩
  have hs := hb1.size
  have HP := Lib.hid (repeat_any (w1.alloc (.cells #[.string (zs z)] strT)) w1.heap.size n (zs z) ((Lies.new w1 _ _).cell 0) h1 h2)
  have HB := Lib.hid (hb1.alloc hs (.cells #[.string (zs z)] strT))
  have HS := Lib.hid hs
  clear hb1 hs
  go_wp2_with fail
  refine HP.out.mono ?_
  rintro e w2 ⟨rfl, hL, hb2⟩
  have HL := Lib.hid (And.intro hL (HB.out.trans (hb2.mono HB.out.size)))
  have HZ : Hid (w.heap.size ≤ (w1.alloc (.cells #[.string (zs z)] strT)).heap.size) := HB.out.size
  clear hL hb2
  generalize (w1.alloc (.cells #[.string (zs z)] strT)).heap.size = b at HL HZ ⊢
  go_wp2_with fail
  go_ret
  exact ⟨b, rfl, HL.out.1, HZ.out, HL.out.2⟩
def newS (n z : Nat) : St := ⟨z, List.replicate n (zs z), [], 0, false, false, 0⟩
theorem newS_ok {n z : Nat} (h2 : n ≤ 4096) (h3 : 16 ≤ z) (h4 : z ≤ 256) : Ok (newS n z) := by
  refine ⟨⟨rfl, fun x hx => ?_, fun w hw => by cases hw⟩, ?_, h3, h4, by show 0 ≤ _; omega, Nat.le_refl _, by show 0 ≤ _; omega⟩
  · obtain ⟨_, rfl⟩ := List.mem_replicate.1 hx
    exact zs_size z
  · show (List.replicate n (zs z)).length ≤ 4096
    rw [List.length_replicate]
    exact h2
set_option maxHeartbeats 1000000 in
theorem new_any (w : World) (n z : Nat) (h1 : 4 ≤ n) (h2 : n ≤ 4096) (h3 : 16 ≤ z) (h4 : z ≤ 256) :
    Calls Tryz.prog 23 #[.int .i64 n, .int .i64 z] w fun e w' => ∃ d, e = .returned (.tuple #[ptr d.pb, .int .i64 0]) ∧ Is w' d (newS n z) ∧ d.B = w.heap.size ∧ Below w.heap.size w w' := by
  have HZ := Lib.hid (fun W => zeros_any W n z (by omega) (by omega) (by omega))
  go_enter Tryz.func23, Tryz.ntmps23
  go_wp2_with fail
  refine (HZ.out w).mono ?_
  rintro e w1 ⟨b1, rfl, hL1, hs1, hb1⟩
  have H1 := Lib.hid (And.intro hL1 (And.intro hs1 hb1))
  clear hL1 hs1 hb1
  go_wp2_with fail
  refine (HZ.out w1).mono ?_
  rintro e w2 ⟨b2, rfl, hL2, hs2, hb2⟩
  have H2 := Lib.hid (And.intro hL2 (And.intro hs2 hb2))
  clear hL2 hs2 hb2
  go_wp2_with fail
  go_ret2
  have hl1 := H1.out.1.lt
  have hl2 := H2.out.1.lt
  have hle := H1.out.2.2.size
  have hle2 := H2.out.2.2.size
  have hs1 := H1.out.2.1
  have hs2 := H2.out.2.1
  refine ⟨⟨w.heap.size, w2.heap.size, b1, b2, .slice none 0 0⟩, rfl, ⟨newS_ok h2 h3 h4, 0, rfl, by omega, by omega, ⟨?_, ?_, ?_, nil_owns _ _, ?_, fun k hk => by simp [Value.ownBlock] at hk, ?_⟩⟩, rfl, ?_⟩
  · have e : cellsD ⟨w.heap.size, w2.heap.size, b1, b2, .slice none 0 0⟩ (raw (newS n z) 0) = #[.int .i64 z, .slice (some ⟨b1, 0, none⟩) n n, .slice (some ⟨b2, 0, none⟩) n n, .slice none 0 0, .int .i64 0, .bool false, .bool false, .int .i64 0] := by
      unfold cellsD raw newS con
      simp [landL_nil]
    rw [e]
    exact Lies.new _ _ _
  · exact (H1.out.1.same (H2.out.2.2.block _ hl1)).same (Below.heap_alloc _ _ _ (by omega))
  · exact H2.out.1.same (Below.heap_alloc _ _ _ hl2)
  · refine ⟨?_, ?_, ?_⟩
    · show w2.heap.size ≠ b1
      omega
    · show w2.heap.size ≠ b2
      omega
    · show b1 ≠ b2
      omega
  · refine ⟨?_, ?_, ?_⟩
    · show w.heap.size ≤ w2.heap.size
      omega
    · show w.heap.size ≤ b1
      omega
    · show w.heap.size ≤ b2
      omega
  · exact (H1.out.2.2.trans (H2.out.2.2.mono hle)).alloc (by omega) _
theorem new_bad (w : World) (n z : Int) (h : n < 4 ∨ 4096 < n ∨ z < 16 ∨ 256 < z) :
    Calls Tryz.prog 23 #[.int .i64 n, .int .i64 z] w fun e w' => e = .returned (.tuple #[.pointer none, .int .i64 1]) ∧ w = w' := by
  rcases (show n < 4 ∨ (4 ≤ n ∧ 4096 < n) ∨ (4 ≤ n ∧ n ≤ 4096 ∧ z < 16) ∨ (4 ≤ n ∧ n ≤ 4096 ∧ 16 ≤ z ∧ 256 < z) by omega) with h | ⟨h1, h⟩ | ⟨h1, h2, h⟩ | ⟨h1, h2, h3, h⟩
  all_goals
    go_enter Tryz.func23, Tryz.ntmps23
    go_wp2_with fail
    go_ret2
    exact ⟨rfl, rfl⟩
end Go.Proofs.YtghpohiinnallaaGreatDoor.Disk

/-
  Plain facts on crashes: with none, with all, byte by byte.
-/
namespace Go.Proofs.YtghpohiinnallaaGreatDoor.Disk
open Go

theorem crash_whole {z : Nat} {torn : Int} {L : List ByteArray} (h : torn? z torn = false) (ws : List Wr) : crashL z torn L ws = landL L ws := by
  rcases List.eq_nil_or_concat ws with rfl | ⟨a, w, rfl⟩
  · rfl
  · rw [List.concat_eq_append, crashL_snoc, landL_snoc]
    unfold tear
    rw [h]
    rfl
/-- Without survivors. -/
theorem crash_no (S : St) (n : Nat) (torn : Int) : (crashS S (List.replicate n false) torn).dur = S.dur := by
  show crashL S.z torn S.dur (chosen S.cache (List.replicate n false)) = S.dur
  rw [chosen_false _ _ fun b hb => (List.mem_replicate.1 hb).2]
  rfl
/-- With all of them, none torn. -/
theorem crash_all (S : St) (n : Nat) (h : S.cache.length ≤ n) : (crashS S (List.replicate n true) (-1)).dur = con S := by
  show crashL S.z (-1) S.dur (chosen S.cache (List.replicate n true)) = con S
  rw [chosen_all _ _ (by simpa using h) fun b hb => (List.mem_replicate.1 hb).2, crash_whole rfl]
  rfl
/-- The byte at a place. -/
def byt (x : ByteArray) (k : Nat) : Option UInt8 := x.data.toList[k]?
theorem byt_some {x : ByteArray} {k : Nat} (h : k < x.size) : ∃ b, byt x k = some b := by
  have : k < x.data.toList.length := by simpa using h
  exact ⟨_, List.getElem?_eq_getElem this⟩
/-- .. is as the sector had it, or as some write to it. -/
def Old (L : List ByteArray) (ws : List Wr) (i k : Nat) (b : Option UInt8) : Prop := b = byt (at0 L i) k ∨ ∃ w ∈ ws, w.p = i ∧ byt w.s k = b
theorem at0_set_same {L : List ByteArray} {i : Nat} {x : ByteArray} (h : i < L.length) : at0 (L.set i x) i = x := by
  unfold at0
  rw [List.getD_eq_getElem?_getD, List.getElem?_set, if_pos rfl, if_pos h]
  rfl
theorem at0_set_other {L : List ByteArray} {i j : Nat} {x : ByteArray} (h : j ≠ i) : at0 (L.set j x) i = at0 L i := by
  unfold at0
  rw [List.getD_eq_getElem?_getD, List.getD_eq_getElem?_getD, List.getElem?_set_ne h]
theorem land_old {i k : Nat} : ∀ (ws : List Wr) (L : List ByteArray), i < L.length → Old L ws i k (byt (at0 (landL L ws) i) k)
  | [], L, _ => .inl rfl
  | w :: ws, L, hi => by
    rw [landL_cons]
    rcases land_old ws (L.set w.p w.s) (by rw [List.length_set]; exact hi) with h | ⟨x, hx, h1, h2⟩
    · by_cases e : w.p = i
      · subst e
        rw [at0_set_same hi] at h
        exact .inr ⟨w, by simp, rfl, h.symm⟩
      · rw [at0_set_other e] at h
        exact .inl h
    · exact .inr ⟨x, by simp [hx], h1, h2⟩
theorem byt_join {x y : ByteArray} {t z k : Nat} (hx : x.size = z) (hy : y.size = z) (ht : t < z) (_hk : k < z) : byt (x.extract 0 t ++ y.extract t z) k = byt x k ∨ byt (x.extract 0 t ++ y.extract t z) k = byt y k := by
  have hxl : x.data.toList.length = z := by simpa using hx
  have hyl : y.data.toList.length = z := by simpa using hy
  have e : (x.extract 0 t ++ y.extract t z).data.toList = x.data.toList.take t ++ y.data.toList.drop t := by
    rw [ByteArray.data_append, Array.toList_append]
    have e1 : (x.extract 0 t).data.toList = x.data.toList.take t := by
      rw [Lib.extract_data, List.drop_zero, Nat.sub_zero]
    have e2 : (y.extract t z).data.toList = y.data.toList.drop t := by
      rw [Lib.extract_data, List.take_of_length_le (by rw [List.length_drop]; omega)]
    rw [e1, e2]
  unfold byt
  rw [e]
  by_cases h : k < t
  · left
    rw [List.getElem?_append_left (by rw [List.length_take]; omega), List.getElem?_take, if_pos h]
  · right
    rw [List.getElem?_append_right (by rw [List.length_take]; omega), List.length_take, List.getElem?_drop]
    congr 1
    omega
theorem Old.mono {L : List ByteArray} {ws ws' : List Wr} {i k : Nat} {b : Option UInt8} (h : Old L ws i k b) (hs : ∀ w ∈ ws, w ∈ ws') : Old L ws' i k b := by
  rcases h with h | ⟨w, hw, h⟩
  · exact .inl h
  · exact .inr ⟨w, hs w hw, h⟩
/-- Behind any crash each byte is as it was durable, or as some write of the cache had it. -/
theorem crash_old {S : St} (ok : Ok S) (keep : List Bool) (torn : Int) {i k : Nat} (hi : i < S.dur.length) (hk : k < S.z) : Old S.dur S.cache i k (byt (at0 (crashS S keep torn).dur i) k) := by
  show Old S.dur S.cache i k (byt (at0 (crashL S.z torn S.dur (chosen S.cache keep)) i) k)
  have hm : ∀ w ∈ chosen S.cache keep, w ∈ S.cache := fun w hw => chosen_mem _ _ hw
  generalize chosen S.cache keep = ws at hm ⊢
  rcases List.eq_nil_or_concat ws with rfl | ⟨a, w, rfl⟩
  · exact .inl rfl
  · rw [List.concat_eq_append] at hm ⊢
    rw [crashL_snoc]
    have ha : ∀ x ∈ a, x ∈ S.cache := fun x hx => hm x (by simp [hx])
    have hw := hm w (by simp)
    have hl := (land_old (k := k) a S.dur hi).mono ha
    by_cases e : w.p = i
    · subst e
      rw [at0_set_same (by rw [landL_length]; exact hi)]
      cases ht : torn? S.z torn
      · unfold tear
        rw [ht]
        exact .inr ⟨w, hw, rfl, rfl⟩
      · unfold tear
        rw [ht]
        unfold torn? at ht
        simp only [Bool.and_eq_true, decide_eq_true_eq] at ht
        have hfit := ok.fit.take a ha
        rcases byt_join (k := k) (ok.fit.wr w hw).2 (hfit.at (ok.fit.wr w hw).1) (show torn.toNat < S.z by omega) hk with h | h
        · exact .inr ⟨w, hw, rfl, h.symm⟩
        · show Old S.dur S.cache w.p k (byt (w.s.extract 0 torn.toNat ++ (at0 (landL S.dur a) w.p).extract torn.toNat S.z) k)
          rw [h]
          exact hl
    · rw [at0_set_other e]
      exact hl
end Go.Proofs.YtghpohiinnallaaGreatDoor.Disk
