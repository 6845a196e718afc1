/-
  The program's disk keeps what the plain one tells: Read, Cut, Fill, Flush.
-/
import Derived.Test.YtebiebbbkdbffaaDiskWalkG
namespace Go.Proofs.Ytebiebbbkdbffaa.Disk
open Go Go.RowKit
open Go.Proofs.Ytebiebbbkdbffaa.Sha (wp_region_drawn_tail wp_region_kept_tail quiet_load_row)

section
variable {w w' : World} {d : Dk} {S : St}
theorem readIs_any (h : Is w d S) (i : Int) :
    Calls Try.prog 14 #[ptr d.pb, .int .i64 i] w fun e w' => e = .returned (.tuple #[.string (readS S i).1, .int .i64 (readS S i).2]) ∧ w = w' := by
  obtain ⟨h0, l, h1, h2, h3, h4⟩ := h
  unfold readS
  by_cases hr : i < 0 ∨ (S.dur.length : Int) ≤ i
  · rw [if_pos hr]
    exact read_out h4 i hr
  · rw [if_neg hr]
    obtain ⟨p, rfl⟩ := Int.eq_ofNat_of_zero_le (show 0 ≤ i by omega)
    have := read_in h4 p (by show p < S.dur.length; omega) (con_length S)
    show Calls _ _ _ _ _
    cases ho : S.off
    · have e : (raw S l).off = false := ho
      rw [e] at this
      simp at this ⊢
      exact this
    · have e : (raw S l).off = true := ho
      rw [e] at this
      simp at this ⊢
      exact this
def cutS (S : St) (x : Int) : St := { S with left := x.toNat }
theorem cutIs_any (h : Is w d S) (x : Int) (h1 : -9223372036854775808 ≤ x) (h2 : x ≤ 9223372036854775807) :
    Calls Try.prog 12 #[ptr d.pb, .int .i64 x] w fun e w' => e = .returned (.tuple #[]) ∧ Left w d (cutS S x) w' := by
  obtain ⟨h0, l, _, _, _, h4⟩ := h
  refine (cut_any h4 x).mono fun e w' hh => ?_
  obtain ⟨rfl, hM, hF⟩ := hh
  refine ⟨rfl, Left.of ⟨⟨h0.fit, h0.few, h0.low, h0.most, h0.ops, h0.cache, ?_⟩, x, rfl, h1, h2, hM⟩ (Step.mk hF rfl rfl rfl rfl (fun _ h => .inl h))⟩
  show x.toNat ≤ _
  omega
def fillS (S : St) (x : Bool) : St := { S with full := x }
theorem fillIs_any (h : Is w d S) (x : Bool) :
    Calls Try.prog 24 #[ptr d.pb, .bool x] w fun e w' => e = .returned (.tuple #[]) ∧ Left w d (fillS S x) w' := by
  obtain ⟨h0, l, h1, h2, h3, h4⟩ := h
  refine (fill_any h4 x).mono fun e w' hh => ?_
  obtain ⟨rfl, hM, hF⟩ := hh
  exact ⟨rfl, Left.of ⟨⟨h0.fit, h0.few, h0.low, h0.most, h0.ops, h0.cache, h0.left⟩, l, h1, h2, h3, hM⟩ (Step.mk hF rfl rfl rfl rfl (fun _ h => .inl h))⟩
theorem flush_off (ho : S.off = true) : flushS S = (S, 80) := if_pos ho
theorem flush_cut (ho : S.off = false) (hl : S.left = 1) : flushS S = (opS S, 80) := by
  unfold flushS; rw [if_neg (by rw [ho]; simp), if_pos hl]
theorem flush_ok (ho : S.off = false) (hl : S.left ≠ 1) : flushS S = ({ opS S with dur := con S, cache := [] }, 0) := by
  unfold flushS; rw [if_neg (by rw [ho]; simp), if_neg hl]
theorem Ok.raw_len (S : St) (l : Int) : (raw S l).con.length = (raw S l).dur.length := con_length S
set_option maxRecDepth 100000 in
set_option maxHeartbeats 4000000 in
theorem flush_any (h : Is w d S) (hn : S.ops < 1000000) :
    Calls Try.prog 23 #[ptr d.pb] w fun e w' => e = .returned (.int .i64 (flushS S).2) ∧ Left w d (flushS S).1 w' := by
  obtain ⟨h0, l, h1, h2, h3, h4⟩ := id h
  obtain ⟨c0, c1, c2, c3, c4, c5, c6, c7⟩ := h4.cells
  have HI := Lib.hid h
  cases ho : S.off
  · have ho2 : (raw S l).off = false := ho
    rw [ho2] at c6
    have HO := Lib.hid (operate_any h4 ho2 hn h2 h3)
    rw [op_raw S l h1] at HO
    have hl2 : (if 0 < l then l - 1 else l) = (if 0 < l then l - 1 else l) := rfl
    have HL : Hid ((opS S).left = (if 0 < l then l - 1 else l).toNat ∧ -9223372036854775808 ≤ (if 0 < l then l - 1 else l) ∧ (if 0 < l then l - 1 else l) ≤ 9223372036854775807) := by
      show S.left - 1 = _ ∧ _
      split <;> omega
    generalize (if 0 < l then l - 1 else l) = l' at HO HL hl2
    clear hl2
    have HK := Lib.hid (h0.op hn)
    have HKA := Lib.hid (h0.flush hn)
    have hcl : S.cache.length ≤ 1000000 := Nat.le_trans h0.cache h0.ops
    have HFT := Lib.hid h0.fit
    have HFW := Lib.hid h0.few
    by_cases hl : l = 1
    · rw [flush_cut ho (by omega)]
      rw [show decide ((raw S l).left = 1) = true from decide_eq_true hl] at HO
      clear hl h h0 h1 h2 h3 h4 hn hcl
      go_enter Try.func23, Try.ntmps23
      go_wp2_with fail
      refine HO.out.mono ?_
      rintro e w1 ⟨rfl, hM, hF⟩
      have HZ : Hid (Left w d (opS S) w1) := Left.of ⟨HK.out, l', HL.out.1, HL.out.2.1, HL.out.2.2, hM⟩ (Step.mk hF rfl rfl rfl rfl (fun _ h => .inl h))
      clear c0 c1 c2 c3 c4 c5 c6 c7 hF hM
      go_wp2_with fail
      refine (outcome_any w1 true).mono ?_
      rintro e w3 ⟨rfl, rfl⟩
      go_wp2_with fail
      go_ret
      exact ⟨rfl, HZ.out⟩
    · rw [flush_ok ho (by omega)]
      rw [show decide ((raw S l).left = 1) = false from decide_eq_false hl] at HO
      clear hl h h0 h1 h2 h3 h4 hn
      go_enter Try.func23, Try.ntmps23
      go_wp2_with fail
      refine HO.out.mono ?_
      rintro e w1 ⟨rfl, hM, hF⟩
      obtain ⟨ca, cc, hcv⟩ := hM.shape
      have HCV := Lib.hid hcv
      obtain ⟨-, -, -, k3, -, -, -, -⟩ := hM.cells
      rw [hcv] at k3
      have hS1 : Step w d w1 d := Step.mk hF rfl rfl rfl rfl (fun _ h => .inl h)
      have HM := Lib.hid (And.intro hM hS1)
      clear c0 c1 c2 c3 c4 c5 c6 c7 hF hM hcv hS1
      go_wp2_with fail
      go_loopw [19] (fun i wr => ∃ k : Nat, k ≤ S.cache.length ∧ i = .int .i64 k ∧ Mem wr d { raw (opS S) l' with dur := landL S.dur (S.cache.take k) } ∧ Step w d wr d) (fun i _ => S.cache.length - (intOf i).toNat)
      case atStart => exact ⟨0, Nat.zero_le _, rfl, HM.out⟩
      case round =>
        obtain ⟨k, hk, rfl, hM, hS⟩ := hrel
        have HR := Lib.hid (And.intro hM hS)
        clear hM hS k3
        by_cases hlt : k < S.cache.length
        · obtain ⟨x, hx⟩ : ∃ x, S.cache[k]? = some x := ⟨S.cache[k], List.getElem?_eq_getElem hlt⟩
          obtain ⟨g, c', hv, hgb, k0, k1, hr⟩ := owns_write HR.out.1.cache hx
          have hxp := (HFT.out.wr x (List.mem_of_getElem? hx)).1
          rw [HCV.out] at hv hgb
          obtain ⟨rfl, -, rfl⟩ := Value.slice.inj hv
          have hgs : g < wr.heap.size := (HR.out.1.cache.lt g (by rw [HCV.out]; rfl)).2
          have HT := Lib.hid (landL_take (L := S.dur) hx)
          clear hv hgb hr hx
          obtain ⟨c0, c1, c2, c3, c4, c5, c6, c7⟩ := HR.out.1.cells
          obtain ⟨l0, l1, l2⟩ := HR.out.1.lts
          have hfl : (landL S.dur (S.cache.take k)).length = S.dur.length := landL_length _ _
          have kd := HR.out.1.durAt (i := x.p) (by show x.p < (landL S.dur (S.cache.take k)).length; omega)
          have hfa := fun o => ((HR.out.1.alloc o).dur).free x.p
          have hfa' := (HR.out.1.dur).free x.p
          have hfw := HFW.out
          rw [HCV.out] at c3
          rw [show ({ raw (opS S) l' with dur := landL S.dur (S.cache.take k) } : Raw).dur = landL S.dur (S.cache.take k) from rfl, hfl] at c1
          have HZ : Hid (∀ n, Mem (((wr.alloc (boxW x)).drewN n).setCell ⟨d.db, x.p, none⟩ (.string x.s)) d { raw (opS S) l' with dur := landL S.dur (S.cache.take (k + 1)) } ∧ Step w d (((wr.alloc (boxW x)).drewN n).setCell ⟨d.db, x.p, none⟩ (.string x.s)) d) := fun n => by
            have h1 := ((HR.out.1.alloc (boxW x)).drewN n).setDur x.p x.s
            rw [HT.out]
            exact ⟨h1, HR.out.2.put ((((Fr.refl _ wr).alloc _).drewN n).dbAt _ _)⟩
          clear hfl HT
          go_wp2_with fail
          refine wp_region_drawn_tail 9 (by kernel_rfl) (by kernel_rfl) ?_
          simp only [List.take_succ_cons, List.take_zero, List.drop_succ_cons, List.drop_zero]
          repeat (go_big_quiet_step (fail))
          refine wpQuiet_nil ?_
          rintro _ ⟨nq, rfl⟩
          go_wp2
          go_roundw
          case rel => exact ⟨k + 1, by omega, by simp, (HZ.out nq).1, (HZ.out nq).2⟩
          case measure => simp [intOf]; omega
        · have e : S.cache.take k = S.cache := List.take_of_length_le (by omega)
          have hM := HR.out.1
          rw [e] at hM
          have HE := Lib.hid (empty_any hM (fun x hx => by
            show x.p < (landL S.dur S.cache).length
            rw [landL_length]
            exact (HFT.out.wr x hx).1) rfl (by show (landL S.dur S.cache).length ≤ 4096; rw [landL_length]; exact HFW.out) hcl)
          clear hM e
          go_wp2_with fail
          refine HE.out.mono ?_
          rintro e w2 ⟨rfl, hM, hS⟩
          have hZ : Left w d { opS S with dur := con S, cache := [] } w2 := by
            refine ⟨_, ⟨HKA.out, l', HL.out.1, HL.out.2.1, HL.out.2.2, ?_⟩, HR.out.2.trans hS⟩
            have e2 : fresh (con S) (landL S.dur S.cache) S.cache = con S := fresh_flush
            have e3 : raw { opS S with dur := con S, cache := [] } l' = { raw (opS S) l' with dur := landL S.dur S.cache, cache := [], con := fresh (con S) (landL S.dur S.cache) S.cache } := by
              rw [e2]
              rfl
            rw [e3]
            exact hM
          have HZ := Lib.hid hZ
          clear hM hS hZ
          go_wp2_with fail
          refine (outcome_any w2 false).mono ?_
          rintro e w3 ⟨rfl, rfl⟩
          go_wp2_with fail
          go_ret
          exact ⟨rfl, HZ.out⟩
  · have ho2 : (raw S l).off = true := ho
    rw [ho2] at c6
    rw [flush_off ho]
    clear h h0 h1 h2 h3 h4
    go_enter Try.func23, Try.ntmps23
    go_wp2_with fail
    go_ret
    exact ⟨rfl, Left.same HI.out⟩
end
end Go.Proofs.Ytebiebbbkdbffaa.Disk
