/-
  The program's disk keeps what the plain one tells: Crash.
-/
import Derived.Test.YtebiebbbkdbffaaDiskWalkH
namespace Go.Proofs.Ytebiebbbkdbffaa.Disk
open Go Go.RowKit
open Go.Proofs.Ytebiebbbkdbffaa.Sha (wp_region_drawn_tail wp_region_kept_tail quiet_load_row)

section
variable {w w' : World} {d : Dk} {S : St}
/-- A disk in the midst of a crash: those that survive beside it. -/
structure InCrash (w : World) (d : Dk) (R : Raw) (rv : Value) (K : List Wr) (wr : World) : Prop where
  mem : Mem wr d R
  step : Step w d wr d
  kept : wr.ownsRow w.heap.size wrT 2 rv K.length (K.flatMap wC)
  lts : ∀ k, own d k → k < w.heap.size
theorem InCrash.frame {R : Raw} {rv : Value} {K : List Wr} {wr w2 : World} {F : Nat → Prop} (h : InCrash w d R rv K wr) (hf : Fr F wr w2) (hF : ∀ k, ¬ F k) : InCrash w d R rv K w2 :=
  ⟨h.mem.frame hf fun k e => absurd e (hF k), h.step.put (hf.mono fun k _ e => absurd e (hF k)), Fr.owns h.kept hf fun k _ => hF k, h.lts⟩
theorem InCrash.box {R : Raw} {rv : Value} {K : List Wr} {wr w2 : World} {b : Nat} (h : InCrash w d R rv K wr) (hf : Fr (fun k => k = b) wr w2) (hb : wr.heap.size ≤ b) : InCrash w d R rv K w2 :=
  h.frame (F := fun _ => False) ⟨hf.os, hf.tape, hf.output, hf.size, fun k hk _ => hf.block k hk (by omega)⟩ fun _ e => e
theorem InCrash.setDur {R : Raw} {rv : Value} {K : List Wr} {wr : World} (h : InCrash w d R rv K wr) (i : Nat) (s : ByteArray) : InCrash w d { R with dur := R.dur.set i s } rv K (wr.setCell ⟨d.db, i, none⟩ (.string s)) := by
  refine ⟨h.mem.setDur i s, h.step.put ((Fr.refl _ wr).dbAt _ _), Fr.owns (F := fun k => k = d.db) h.kept (Fr.one _ _ _ _) fun k hk e => ?_, h.lts⟩
  have h1 := h.kept.lt k hk
  have h2 := h.lts d.db (.inr (.inl rfl))
  omega
set_option maxRecDepth 100000 in
set_option maxHeartbeats 4000000 in
theorem crash_any (h : Is w d S) (kv : Value) (ks : List Bool) (torn : Int) (hk : ReadsK w kv ks) (hkl : ks.length ≤ 9223372036854775807) :
    Calls Try.prog 17 #[ptr d.pb, kv, .int .i64 torn] w fun e w' => e = .returned (.tuple #[]) ∧ Left w d (crashS S ks torn) w' := by
  obtain ⟨h0, l, h1, h2, h3, h4⟩ := id h
  obtain ⟨c0, c1, c2, c3, c4, c5, c6, c7⟩ := h4.cells
  have hcl : S.cache.length ≤ 1000000 := Nat.le_trans h0.cache h0.ops
  have HC := Lib.hid (chosen_any w d.B d.cv kv S.cache ks h4.cache hk hcl hkl)
  have HX := Lib.hid (h0.crash ks torn)
  have HM4 := Lib.hid h4
  have HFT : Hid (Fit S.z S.dur.length S.dur (chosen S.cache ks)) := ⟨rfl, h0.fit.size, fun w hw => h0.fit.wr w (chosen_mem _ _ hw)⟩
  have HFC := Lib.hid h0.fit
  have hKl := chosen_length S.cache ks
  have hz := h0.most
  have HFW := Lib.hid h0.few
  have HD : Hid (∀ W, Mem W { d with cv := .slice none 0 0 } { raw S 0 with dur := crashL S.z torn S.dur (chosen S.cache ks), cache := [], con := fresh (con S) (crashL S.z torn S.dur (chosen S.cache ks)) S.cache, off := false } → Is W { d with cv := .slice none 0 0 } (crashS S ks torn)) := fun W hM => by
    refine ⟨HX.out, 0, rfl, by omega, by omega, ?_⟩
    rw [fresh_crash] at hM
    exact hM
  obtain ⟨K, hK⟩ : ∃ K, K = chosen S.cache ks := ⟨_, rfl⟩
  rw [← hK] at HC HFT hKl HD
  clear h h0 h1 h2 h3 h4 hk hK HX
  go_enter Try.func17, Try.ntmps17
  go_wp2_with fail
  refine HC.out.mono ?_
  rintro e w1 ⟨rv, rfl, hO, hb1⟩
  obtain ⟨ra, rc, rfl⟩ := owns_slice hO
  have HR1 : Hid (InCrash w d (raw S l) (.slice ra K.length rc) K w1) := ⟨HM4.out.below hb1, Step.of_below d hb1, hO, fun k hk => (HM4.out.own_lt hk).1⟩
  clear hO hb1 c0 c1 c2 c3 c4 c5 c6 c7 HC
  go_wp2_with fail
  go_loopw [17] (fun i wr => ∃ k : Nat, k ≤ K.length ∧ i = .int .i64 k ∧ InCrash w d { raw S l with dur := upto S.z torn S.dur K k } (.slice ra K.length rc) K wr) (fun i _ => K.length - (intOf i).toNat)
  case atStart => exact ⟨0, Nat.zero_le _, rfl, by rw [upto_zero]; exact HR1.out⟩
  case round =>
    obtain ⟨k, hk, rfl, hM⟩ := hrel
    have HR := Lib.hid hM
    clear hM
    by_cases hlt : k < K.length
    · obtain ⟨x, hx⟩ : ∃ x, K[k]? = some x := ⟨K[k], List.getElem?_eq_getElem hlt⟩
      obtain ⟨g, c', hv, hgb, k0, k1, hr⟩ := owns_write HR.out.kept hx
      have hxp := HFT.out.wr x (List.mem_of_getElem? hx)
      obtain ⟨rfl, -, rfl⟩ := Value.slice.inj hv
      have hgs : g < wr.heap.size := (HR.out.kept.lt g rfl).2
      have HXX := Lib.hid hx
      have HXP := Lib.hid hxp
      have hxp1 : x.p < S.dur.length := hxp.1
      have hfl : (upto S.z torn S.dur K k).length = S.dur.length := upto_length _ _ _ _ _
      obtain ⟨l0, l1, l2⟩ := HR.out.mem.lts
      have hfw := HFW.out
      have HB : Hid (InCrash w d { raw S l with dur := upto S.z torn S.dur K k } (.slice (some ⟨g, 0, none⟩) K.length rc) K (wr.alloc (boxW x))) := HR.out.frame (F := fun _ => False) ((Fr.refl _ wr).alloc _) fun _ e => e
      have hU : Fit S.z S.dur.length (upto S.z torn S.dur K k) [] := HFT.out.upto k
      clear hv hgb hr hx hxp
      by_cases hlast : k + 1 = K.length
      · have hd : ((k : Int) == (K.length : Int) - 1) = true := by simp; omega
        have HT := Lib.hid (tear_any HB.out.mem x torn (by show x.p < (upto S.z torn S.dur K k).length; omega) HXP.out.2 hz (hU.at HXP.out.1) (by show (upto S.z torn S.dur K k).length ≤ 4096; omega))
        have HU := Lib.hid (upto_last S.z torn S.dur K k x HXX.out hlast)
        have hpp := tear_p S.z torn (upto S.z torn S.dur K k) x
        rw [show ({ raw S l with dur := upto S.z torn S.dur K k } : Raw).z = S.z from rfl, show ({ raw S l with dur := upto S.z torn S.dur K k } : Raw).dur = upto S.z torn S.dur K k from rfl] at HT
        generalize tear S.z torn (upto S.z torn S.dur K k) x = y at HT HU hpp
        have hyp : y.p < S.dur.length := by omega
        rw [← hpp] at HU
        clear hpp hU
        go_wp2_with fail
        refine HT.out.mono ?_
        rintro e w3 ⟨rfl, hb3⟩
        have hL3 : Lies w3 wr.heap.size #[.int .i64 x.p, .string x.s] wrT := (Lies.new wr _ _).same (hb3.block _ (by simp))
        have b0 := hL3.cell 0
        have b1 := hL3.cell 1
        have f0 := hL3.free 0
        have f1 := hL3.free 1
        have HL4 : Hid (Lies ((w3.setCell ⟨wr.heap.size, 0, none⟩ (.int .i64 y.p)).setCell ⟨wr.heap.size, 1, none⟩ (.string y.s)) wr.heap.size #[.int .i64 y.p, .string y.s] wrT) := (hL3.set 0 _).set 1 _
        have HC4 : Hid (InCrash w d { raw S l with dur := upto S.z torn S.dur K k } (.slice (some ⟨g, 0, none⟩) K.length rc) K ((w3.setCell ⟨wr.heap.size, 0, none⟩ (.int .i64 y.p)).setCell ⟨wr.heap.size, 1, none⟩ (.string y.s))) := by
          refine HR.out.box (b := wr.heap.size) ?_ (Nat.le_refl _)
          have hb : Below wr.heap.size wr w3 := ((Below.refl _ _).alloc (Nat.le_refl _) _).trans (hb3.mono (by simp))
          exact Fr.setCell (F := fun k => k = wr.heap.size) (Fr.setCell (F := fun k => k = wr.heap.size) (Fr.of_below hb) (fun _ => rfl) _) (fun _ => rfl) _
        clear hb3 hL3
        go_wp2_with fail
        generalize World.setCell (World.setCell w3 _ _) _ _ = w4 at HL4 HC4 ⊢
        obtain ⟨c0, c1, c2, c3, c4, c5, c6, c7⟩ := HC4.out.mem.cells
        have kd := HC4.out.mem.durAt (i := y.p) (by show y.p < (upto S.z torn S.dur K k).length; omega)
        have kf := HC4.out.mem.dur.free y.p
        have b0 := HL4.out.cell 0
        have b1 := HL4.out.cell 1
        rw [show ({ raw S l with dur := upto S.z torn S.dur K k } : Raw).dur = upto S.z torn S.dur K k from rfl, hfl] at c1
        have HZ : Hid (∀ n, InCrash w d { raw S l with dur := upto S.z torn S.dur K (k + 1) } (.slice (some ⟨g, 0, none⟩) K.length rc) K ((w4.drewN n).setCell ⟨d.db, y.p, none⟩ (.string y.s))) := fun n => by
          have := (HC4.out.frame (F := fun _ => False) ((Fr.refl _ w4).drewN n) fun _ e => e).setDur y.p y.s
          rw [HU.out]
          exact this
        clear HU HC4 HL4 hfl
        refine wp_region_drawn_tail 9 (by kernel_rfl) (by kernel_rfl) ?_
        simp only [List.take_succ_cons, List.take_zero, List.drop_succ_cons, List.drop_zero]
        repeat (go_big_quiet_step (fail))
        refine wpQuiet_nil ?_
        rintro _ ⟨nq, rfl⟩
        go_wp2
        go_roundw
        case rel => exact ⟨k + 1, by omega, by simp, HZ.out nq⟩
        case measure => simp [intOf]; omega
      · have hd : ((k : Int) == (K.length : Int) - 1) = false := by simp; omega
        obtain ⟨c0, c1, c2, c3, c4, c5, c6, c7⟩ := HR.out.mem.cells
        have kd := HR.out.mem.durAt (i := x.p) (by show x.p < (upto S.z torn S.dur K k).length; omega)
        have hfa := fun o => ((HR.out.mem.alloc o).dur).free x.p
        have hfa' := (HR.out.mem.dur).free x.p
        rw [show ({ raw S l with dur := upto S.z torn S.dur K k } : Raw).dur = upto S.z torn S.dur K k from rfl, hfl] at c1
        have HU := Lib.hid (upto_succ S.z torn S.dur K k x HXX.out (by omega))
        have HZ : Hid (∀ n, InCrash w d { raw S l with dur := upto S.z torn S.dur K (k + 1) } (.slice (some ⟨g, 0, none⟩) K.length rc) K (((wr.alloc (boxW x)).drewN n).setCell ⟨d.db, x.p, none⟩ (.string x.s))) := fun n => by
          have := (HB.out.frame (F := fun _ => False) ((Fr.refl _ _).drewN n) fun _ e => e).setDur x.p x.s
          rw [HU.out]
          exact this
        clear HU hfl hU
        go_wp2_with fail
        refine wp_region_drawn_tail 9 (by kernel_rfl) (by kernel_rfl) ?_
        simp only [List.take_succ_cons, List.take_zero, List.drop_succ_cons, List.drop_zero]
        repeat (go_big_quiet_step (fail))
        refine wpQuiet_nil ?_
        rintro _ ⟨nq, rfl⟩
        go_wp2
        go_roundw
        case rel => exact ⟨k + 1, by omega, by simp, HZ.out nq⟩
        case measure => simp [intOf]; omega
    · have e : k = K.length := by omega
      have hM := HR.out
      rw [e] at hM
      have HE := Lib.hid (empty_any hM.mem (fun x hx => by
        show x.p < (upto S.z torn S.dur K K.length).length
        rw [upto_length]
        exact (HFC.out.wr x hx).1) (by show (con S).length = (upto S.z torn S.dur K K.length).length; rw [upto_length]; exact con_length S) (by show (upto S.z torn S.dur K K.length).length ≤ 4096; rw [upto_length]; exact HFW.out) hcl)
      have HS := Lib.hid hM.step
      clear hM e
      go_wp2_with fail
      refine HE.out.mono ?_
      rintro e w2 ⟨rfl, hM, hS⟩
      obtain ⟨c0, c1, c2, c3, c4, c5, c6, c7⟩ := hM.cells
      have f4 := hM.free 4
      have f6 := hM.free 6
      have HZ : Hid (Left w d (crashS S ks torn) ((w2.setCell ⟨d.pb, 6, none⟩ (.bool false)).setCell ⟨d.pb, 4, none⟩ (.int .i64 0))) :=
        ⟨_, HD.out _ ((hM.setOff false).setLeft 0), (HS.out.trans hS).put (((Fr.refl _ _).pbAt (d := d) 6 _).pbAt (d := d) 4 _)⟩
      clear hM hS c0 c1 c2 c3
      go_wp2_with fail
      go_end0
      exact ⟨rfl, HZ.out⟩
end
end Go.Proofs.Ytebiebbbkdbffaa.Disk
