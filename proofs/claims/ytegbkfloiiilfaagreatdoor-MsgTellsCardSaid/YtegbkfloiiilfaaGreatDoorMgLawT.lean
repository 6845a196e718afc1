/-
  The law walk: MsgTells.
-/
import Derived.Test.YtegbkfloiiilfaaGreatDoorMgLawA
import Derived.Deep.RegionHeld

/-
  The law's walk: MsgTells.
-/
namespace Go.Proofs.YtegbkfloiiilfaaGreatDoor.Msg
open Go Go.RowKit
open Go.Proofs.YtegbkfloiiilfaaGreatDoor.Head
open Go.Proofs.YtegbkfloiiilfaaGreatDoor.Glyph (foldL)
open Go.Proofs.YtegbkfloiiilfaaGreatDoor.Mbx (Bx bxC bxT rbT bxV boxB OneP sizeB sizeRB beqB_self neq_bx guard_bx)
open Go.Proofs.YtegbkfloiiilfaaGreatDoor.Sha (Kept wp_region_kept wp_region_kept_tail quiet_load_row)

set_option maxRecDepth 100000 in
set_option maxHeartbeats 1000000 in
theorem to_box (x : Bx) (w : World) :
    Calls Tryz.prog 21 #[bxV x] w fun e w' => e = .returned (bxV x) ∧ Below w.heap.size w w' := by
  have hl : Lex.Lies ((w.alloc (boxB rbT x)).alloc (boxB bxT x)) (w.heap.size + 1) #[.string x.n, .string x.l, .string x.d] bxT := by
    have := Lex.Lies.new (w.alloc (boxB rbT x)) #[.string x.n, .string x.l, .string x.d] bxT
    have hz : (w.alloc (boxB rbT x)).heap.size = w.heap.size + 1 := by simp
    rwa [hz] at this
  have hb : Below w.heap.size w ((w.alloc (boxB rbT x)).alloc (boxB bxT x)) := ((Below.refl _ w).alloc (Nat.le_refl _) _).alloc (by simp) _
  go_enter Tryz.func21, Tryz.ntmps21
  go_wp2_with fail
  exact bodyPost_ret (v := bxV x) (results_cell_row Tryz.results21 _ _ (w.heap.size + 1) bxT _ (0, 0) _ rfl hl Tryz.underlying46 rfl sizeB) rfl ⟨rfl, hb⟩
theorem quiet_neq_bx {C : World → Prop} {o : Oper} {a : Act} {K : Act → Prop} (x y : Operand) (p q : Bx) (b : Bool) (hr : ∀ w, (binOp .neq bxT (bxV p) (bxV q)).run Tryz.prog w = .ok (.bool b) w) (ho : o.op = .binOp .neq bxT x y bxT) (hx : a.eval x = bxV p) (hy : a.eval y = bxV q) (h : K (a.put o.dst (.bool b))) : o.quiet Tryz.prog a C K :=
  ⟨_, fun w hw => by
    have h1 := hr w
    unfold Oper.quietAt execOp
    simp [ho, hx, hy, h1, run_eqGuard_agg w .neq bxT x y _ _ guard_bx]
    exact ⟨rfl, rfl⟩, h⟩
theorem new_box3 (w : World) (t : TypeId) (x : Bx) : (w.alloc (boxB t x)).rangeAt w.heap.size 0 (bxC x) := by
  intro j u h
  have hb := heap_alloc_new w (boxB t x)
  simp only [World.cell?, hb, Nat.zero_add]
  match j, h with
  | 0, h => exact h
  | 1, h => exact h
  | 2, h => exact h
  | j + 3, h => simp [bxC] at h
abbrev recN : List UInt8 := [82, 101, 99, 101, 105, 118, 101, 100]
set_option maxRecDepth 100000 in
set_option maxHeartbeats 8000000 in
theorem msgTells_any (v : Value) (q : List Head.Fd) (b name list : ByteArray) (w : World) (hv : ReadsF w v q) (hm : MaxAt w) : Calls Tryz.prog 5 #[msV v b, .string name, .string list] w (TrueP w) := by
  obtain ⟨va, vc, rfl⟩ := hv.shape
  obtain ⟨n, hn⟩ : ∃ n, n = q.length := ⟨_, rfl⟩
  rw [← hn] at hv ⊢
  have HNN := Lib.hid hn
  have HA : Hid (Below w.heap.size w (w.alloc (boxM rmT (.slice va n vc) b))) := Lib.hid ((Below.refl _ _).alloc (Nat.le_refl _) _)
  have HX0 := Lib.hid (new_boxM w rmT (.slice va n vc) b)
  have HL0 : Hid (w.heap.size < (w.alloc (boxM rmT (.slice va n vc) b)).heap.size) := Lib.hid (by simp)
  have HCE : Hid (∀ W, Below (w.alloc (boxM rmT (.slice va n vc) b)).heap.size (w.alloc (boxM rmT (.slice va n vc) b)) W → W.cell? ⟨w.heap.size, 0, none⟩ = some (.slice va n vc) ∧ W.cell? ⟨w.heap.size, 0 + 1, none⟩ = some (.string b)) := Lib.hid (fun W hb => twoM (range_below HX0.out HL0.out hb))
  have HLI := Lib.hid (mlight_any _ q b _ (hv.below HA.out))
  have HV := Lib.hid hv
  have HM := Lib.hid hm
  have HWK := Lib.hid (fun W (h : Below w.heap.size w W) => works_any W (hm.below h))
  clear hv hm hn
  cases hl : lightM q b
  · rw [hl] at HLI
    clear hl
    go_enter Tryz.func5, Tryz.ntmps5
    go_wp2_with fail
    refine HLI.out.mono ?_
    rintro e w1 ⟨rfl, hb⟩
    have HB := Lib.hid (HA.out.trans (hb.mono HA.out.size))
    have HW1 := Lib.hid (HWK.out w1 HB.out)
    clear hb
    go_wp2_with fail
    refine HW1.out.mono ?_
    rintro e w2 ⟨rfl, hb⟩
    have HB2 := Lib.hid (HB.out.trans (hb.mono HB.out.size))
    clear hb
    go_wp2_with fail
    go_ret
    exact ⟨rfl, HB2.out⟩
  obtain ⟨⟨hq, hsz⟩, hbz⟩ := lightM_iff hl
  rw [hl] at HLI
  clear hl
  by_cases hs1 : 200 < name.size
  · have d1 : (200 : Int) < (name.size : Int) := by omega
    go_enter Tryz.func5, Tryz.ntmps5
    go_wp2_with fail
    refine HLI.out.mono ?_
    rintro e w1 ⟨rfl, hb⟩
    have HB := Lib.hid (HA.out.trans (hb.mono HA.out.size))
    have HW1 := Lib.hid (HWK.out w1 HB.out)
    clear hb
    go_wp2_with fail
    refine HW1.out.mono ?_
    rintro e w2 ⟨rfl, hb⟩
    have HB2 := Lib.hid (HB.out.trans (hb.mono HB.out.size))
    clear hb
    go_wp2_with fail
    go_ret
    exact ⟨rfl, HB2.out⟩
  have d1 : ¬ (200 : Int) < (name.size : Int) := by omega
  by_cases hs2 : 200 < list.size
  · have d2 : (200 : Int) < (list.size : Int) := by omega
    go_enter Tryz.func5, Tryz.ntmps5
    go_wp2_with fail
    refine HLI.out.mono ?_
    rintro e w1 ⟨rfl, hb⟩
    have HB := Lib.hid (HA.out.trans (hb.mono HA.out.size))
    have HW1 := Lib.hid (HWK.out w1 HB.out)
    clear hb
    go_wp2_with fail
    refine HW1.out.mono ?_
    rintro e w2 ⟨rfl, hb⟩
    have HB2 := Lib.hid (HB.out.trans (hb.mono HB.out.size))
    clear hb
    go_wp2_with fail
    go_ret
    exact ⟨rfl, HB2.out⟩
  have d2 : ¬ (200 : Int) < (list.size : Int) := by omega
  have hsn : ∀ f ∈ q, f.n.size ≤ 1000000 := fun f hf => by have := hsz f hf; omega
  have hsv : ∀ f ∈ q, f.v.size ≤ 1000000 := fun f hf => by have := hsz f hf; omega
  have hsv5 : ∀ f ∈ q, f.v.size ≤ 5000 := fun f hf => by have := hsz f hf; omega
  have hsv50 : ∀ f ∈ q, f.v.size ≤ 50000 := fun f hf => by have := hsz f hf; omega
  have hq3 : q.length ≤ 1000 := by omega
  have HTO := Lib.hid (fun W (h : Below w.heap.size w W) => mto_any _ q b W (HV.out.below h) (by omega))
  have HFR := Lib.hid (fun u W (h : ReadsF W u q) => from_any u q b W h hq3 hsn hsv50)
  have HRF := Lib.hid (fun u W (h : ReadsF W u q) => rfrom_any u q b W h hq3 hsn hsv5)
  unfold OneP at HFR HRF
  have HGE := Lib.hid (fun u W (h : ReadsF W u q) => mget_any u q b name W h hq3 hsn (by omega))
  have HRG := Lib.hid (fun u W (h : ReadsF W u q) => rmget_any u q b name W h hq3 hsn (by omega))
  have HWO := Lib.hid (fun u W (h : ReadsF W u q) => word_any u q b name W h hq3 hsn hsv (by omega))
  have HRW := Lib.hid (fun u W (h : ReadsF W u q) => rword_any u q b name W h hq3 hsn hsv (by omega))
  have HHO := Lib.hid (fun u W (h : ReadsF W u q) => hops_any u q b W h hq3 hsn)
  have HAL := Lib.hid (fun u W (h : ReadsF W u q) => rall_any u q ⟨#[82, 101, 99, 101, 105, 118, 101, 100]⟩ W h (by omega) hsn (by decide))
  rw [show bl (⟨#[82, 101, 99, 101, 105, 118, 101, 100]⟩ : ByteArray) = recN from rfl] at HAL
  have HAU := Lib.hid (fun u W (h : ReadsF W u q) => auto_any u q b W h hq3 hsn hsv)
  have HRA := Lib.hid (fun u W (h : ReadsF W u q) => rauto_any u q b W h hq3 hsn hsv)
  have HSE := Lib.hid (fun u W (h : ReadsF W u q) => seen_any u q b list W h hq3 hsn hsv (by omega))
  have HRS := Lib.hid (fun u W (h : ReadsF W u q) => rseen_any u q b list W h hq3 hsn hsv (by omega))
  generalize fromL q = R at *
  generalize ba (wordL (bl (getL (foldL (bl name)) q))) = wd at *
  generalize getL (foldL (bl name)) q = gt at *
  generalize allL (foldL recN) q = T at *
  generalize autoB (wordOf autoN q) (wordOf precN q) = ab at *
  generalize seenB (bl list) (allL (foldL listN) q) = sb at *
  obtain ⟨m, hmT⟩ : ∃ m, m = T.length := ⟨_, rfl⟩
  rw [← hmT] at HHO
  have HTM := Lib.hid hmT
  have hgg := str_self gt
  have hww := str_self wd
  have hcc : ((R.2 : Int) != (R.2 : Int)) = false := by simp
  have hmm : ((m : Int) == (m : Int)) = true := by simp
  have hab : (ab == ab) = true := by simp
  have hsb : (sb == sb) = true := by simp
  clear hsn hsv hsv5 hsv50 hq3 hsz hq hbz hmT
  go_enter Tryz.func5, Tryz.ntmps5
  go_wp2_with fail
  refine HLI.out.mono ?_
  rintro e w1 ⟨rfl, hb⟩
  have HB1 := Lib.hid (HA.out.trans (hb.mono HA.out.size))
  have HB10 := Lib.hid hb
  obtain ⟨c0, c1⟩ := HCE.out w1 hb
  have HT1 := Lib.hid (HTO.out w1 HB1.out)
  clear hb
  go_wp2_with fail
  refine HT1.out.mono ?_
  rintro e w2 ⟨u, rfl, hf⟩
  obtain ⟨ua, uc, rfl⟩ := owns_slice hf.1
  have hrd := owns_readsF hf.1
  rw [← HNN.out] at hrd ⊢
  have hal2 : Below w2.heap.size w2 (w2.alloc (boxM msT (.slice ua n uc) b)) := (Below.refl _ _).alloc (Nat.le_refl _) _
  have HRD2 := Lib.hid (hrd.below hal2)
  have HB2 := Lib.hid (HB1.out.trans ((hf.2.trans (hal2.mono hf.2.size)).mono HB1.out.size))
  have HB20 := Lib.hid (HB10.out.trans ((hf.2.trans (hal2.mono hf.2.size)).mono HB10.out.size))
  have HX2 := Lib.hid (new_boxM w2 msT (.slice ua n uc) b)
  have HL2 : Hid (w2.heap.size < (w2.alloc (boxM msT (.slice ua n uc) b)).heap.size) := Lib.hid (by simp)
  have HF2 := Lib.hid (HFR.out _ _ HRD2.out)
  clear hf hrd hal2 c0 c1
  go_wp2_with fail
  refine HF2.out.mono ?_
  rintro e w3 ⟨rfl, hb⟩
  have hal3 : Below w3.heap.size w3 (w3.alloc (boxB bxT R.1)) := (Below.refl _ _).alloc (Nat.le_refl _) _
  have HB32 := Lib.hid (hb.trans (hal3.mono hb.size))
  have HB3 := Lib.hid (HB2.out.trans (HB32.out.mono HB2.out.size))
  have HB30 := Lib.hid (HB20.out.trans (HB32.out.mono HB20.out.size))
  have HX3 := Lib.hid (new_box3 w3 bxT R.1)
  have HL3 : Hid (w3.heap.size < (w3.alloc (boxB bxT R.1)).heap.size) := Lib.hid (by simp)
  obtain ⟨c0, c1⟩ := HCE.out _ HB30.out
  have HF3 := Lib.hid (HRF.out _ _ (HV.out.below HB3.out))
  clear hb hal3
  go_wp2_with fail
  refine HF3.out.mono ?_
  rintro e w4 ⟨rfl, hb⟩
  have hal4 : Below w4.heap.size w4 (w4.alloc (boxB rbT R.1)) := (Below.refl _ _).alloc (Nat.le_refl _) _
  have HB43 := Lib.hid (hb.trans (hal4.mono hb.size))
  have HB4 := Lib.hid (HB3.out.trans (HB43.out.mono HB3.out.size))
  have HB42 := Lib.hid (HB32.out.trans (HB43.out.mono HB32.out.size))
  have HX4 := Lib.hid (new_box3 w4 rbT R.1)
  have HL4 : Hid (w4.heap.size < (w4.alloc (boxB rbT R.1)).heap.size) := Lib.hid (by simp)
  -- the four boxes, and the two lists
  have HX0' := Lib.hid (range_below HX0.out HL0.out (HB30.out.trans (HB43.out.mono HB30.out.size)))
  have HX2' := Lib.hid (range_below HX2.out HL2.out HB42.out)
  have HX3' := Lib.hid (range_below HX3.out HL3.out HB43.out)
  have HL : Hid (w.heap.size < (w4.alloc (boxB rbT R.1)).heap.size ∧ w2.heap.size < (w4.alloc (boxB rbT R.1)).heap.size ∧ w3.heap.size < (w4.alloc (boxB rbT R.1)).heap.size) := Lib.hid ⟨Nat.lt_of_lt_of_le HL0.out (HB30.out.trans (HB43.out.mono HB30.out.size)).size, Nat.lt_of_lt_of_le HL2.out HB42.out.size, Nat.lt_of_lt_of_le HL3.out HB43.out.size⟩
  have HRD4 := Lib.hid (HRD2.out.below HB42.out)
  have HV4 := Lib.hid (HV.out.below HB4.out)
  have HQN : Hid (∀ W, (binOp .neq bxT (bxV R.1) (bxV R.1)).run Tryz.prog W = .ok (.bool false) W) := Lib.hid (fun W => by rw [neq_bx, beqB_self]; rfl)
  have HTB : Hid (∀ W, Calls Tryz.prog 21 #[.agg (bxC R.1).toArray] W fun e W' => e = .returned (bxV R.1) ∧ Below W.heap.size W W') := Lib.hid (fun W => to_box R.1 W)
  clear hb hal4 c0 c1
  go_wp2_with fail
  refine wp_region_kept (by kernel_rfl) (by kernel_rfl) ?_
  repeat (first
    | (go_big_quiet_want
       first
         | refine quiet_neq_bx (.tmp 38) (.tmp 40) R.1 R.1 false HQN.out rfl rfl rfl ?_
         | refine quiet_load_row bxT (.tmp 8) rfl w3.heap.size 0 rfl (bxC R.1) _ (fun w' hk => range_below HX3'.out HL.out.2.2 hk) Tryz.underlying46 rfl sizeB ?_
         | refine quiet_load_row rbT (.tmp 10) rfl w4.heap.size 0 rfl (bxC R.1) _ (fun w' hk => range_below HX4.out HL4.out hk) Tryz.underlying51 rfl sizeRB ?_
         | refine quiet_load_row msT (.tmp 7) rfl w2.heap.size 0 rfl (msC (.slice ua n uc) b) _ (fun w' hk => range_below HX2'.out HL.out.2.1 hk) Tryz.underlying25 rfl sizeMs ?_
         | refine quiet_load_row rmT (.tmp 3) rfl w.heap.size 0 rfl (msC (.slice va n vc) b) _ (fun w' hk => range_below HX0'.out HL.out.1 hk) Tryz.underlying31 rfl sizeRm ?_
       go_simp
       go_big_quiet_on)
    | (go_big_quiet_step ((first | (exact fun _ => rfl) | (intro hk; go_at_call 21; exact hk.call (HTB.out _)) | (intro hk; go_at_call 16; exact hk.call (HGE.out _ _ (HRD4.out.below hk.below))) | (intro hk; go_at_call 22; exact hk.call (HRG.out _ _ (HV4.out.below hk.below))) | (intro hk; go_at_call 23; exact hk.call (HWO.out _ _ (HRD4.out.below hk.below))) | (intro hk; go_at_call 24; exact hk.call (HRW.out _ _ (HV4.out.below hk.below)))))))
  refine wpQuiet_nil ?_
  intro W6 hk6
  have HB6 := Lib.hid (HB4.out.trans (hk6.below.mono HB4.out.size))
  have HX0'' := Lib.hid (range_below HX0'.out HL.out.1 hk6.below)
  have HX2'' := Lib.hid (range_below HX2'.out HL.out.2.1 hk6.below)
  have HL6 : Hid (w.heap.size < W6.heap.size ∧ w2.heap.size < W6.heap.size) := Lib.hid ⟨Nat.lt_of_lt_of_le HL.out.1 hk6.below.size, Nat.lt_of_lt_of_le HL.out.2.1 hk6.below.size⟩
  have HQ : Hid (∀ W, Below W6.heap.size W6 W → (W.cell? ⟨w.heap.size, 0, none⟩ = some (.slice va n vc) ∧ W.cell? ⟨w.heap.size, 0 + 1, none⟩ = some (.string b)) ∧ W.cell? ⟨w2.heap.size, 0, none⟩ = some (.slice ua n uc) ∧ W.cell? ⟨w2.heap.size, 0 + 1, none⟩ = some (.string b)) := Lib.hid (fun W hb => ⟨twoM (range_below HX0''.out HL6.out.1 hb), twoM (range_below HX2''.out HL6.out.2 hb)⟩)
  have HRD6 := Lib.hid (HRD4.out.below hk6.below)
  have HV6 := Lib.hid (HV4.out.below hk6.below)
  have HA1 : Hid (∀ W, Below W6.heap.size W6 W → Calls Tryz.prog 25 #[msV (.slice ua n uc) b] W fun e w' => e = .returned (.int .i64 m) ∧ w'.cell? ⟨w.heap.size, 0, none⟩ = some (.slice va n vc) ∧ w'.cell? ⟨w.heap.size, 0 + 1, none⟩ = some (.string b) ∧ w'.cell? ⟨w2.heap.size, 0, none⟩ = some (.slice ua n uc) ∧ w'.cell? ⟨w2.heap.size, 0 + 1, none⟩ = some (.string b) ∧ Below W6.heap.size W6 w' ∧ Below W.heap.size W w') := Lib.hid (fun W hb => by
    refine (HHO.out _ W (HRD6.out.below hb)).mono ?_
    rintro e w' ⟨rfl, ht⟩
    have hb' : Below W6.heap.size W6 w' := hb.trans (ht.mono hb.size)
    exact ⟨rfl, (HQ.out w' hb').1.1, (HQ.out w' hb').1.2, (HQ.out w' hb').2.1, (HQ.out w' hb').2.2, hb', ht⟩)
  have HA2 : Hid (∀ W, Below W6.heap.size W6 W → Calls Tryz.prog 26 #[.slice va n vc, .string ⟨#[82, 101, 99, 101, 105, 118, 101, 100]⟩] W fun e w' => ∃ ta tc, e = .returned (.slice ta m tc) ∧ w'.cell? ⟨w.heap.size, 0, none⟩ = some (.slice va n vc) ∧ w'.cell? ⟨w.heap.size, 0 + 1, none⟩ = some (.string b) ∧ w'.cell? ⟨w2.heap.size, 0, none⟩ = some (.slice ua n uc) ∧ w'.cell? ⟨w2.heap.size, 0 + 1, none⟩ = some (.string b) ∧ Below W6.heap.size W6 w' ∧ Below W.heap.size W w') := Lib.hid (fun W hb => by
    refine (HAL.out _ W (HV6.out.below hb)).mono ?_
    rintro e w' ⟨t, rfl, ht⟩
    obtain ⟨ta, tc, rfl⟩ := owns_slice ht.1
    have hb' : Below W6.heap.size W6 w' := hb.trans (ht.2.mono hb.size)
    exact ⟨ta, tc, by rw [HTM.out], (HQ.out w' hb').1.1, (HQ.out w' hb').1.2, (HQ.out w' hb').2.1, (HQ.out w' hb').2.2, hb', ht.2⟩)
  have HA3 : Hid (∀ W, Below W6.heap.size W6 W → Calls Tryz.prog 27 #[msV (.slice ua n uc) b] W fun e w' => e = .returned (.bool ab) ∧ w'.cell? ⟨w.heap.size, 0, none⟩ = some (.slice va n vc) ∧ w'.cell? ⟨w.heap.size, 0 + 1, none⟩ = some (.string b) ∧ w'.cell? ⟨w2.heap.size, 0, none⟩ = some (.slice ua n uc) ∧ w'.cell? ⟨w2.heap.size, 0 + 1, none⟩ = some (.string b) ∧ Below W6.heap.size W6 w' ∧ Below W.heap.size W w') := Lib.hid (fun W hb => by
    refine (HAU.out _ W (HRD6.out.below hb)).mono ?_
    rintro e w' ⟨rfl, ht⟩
    have hb' : Below W6.heap.size W6 w' := hb.trans (ht.mono hb.size)
    exact ⟨rfl, (HQ.out w' hb').1.1, (HQ.out w' hb').1.2, (HQ.out w' hb').2.1, (HQ.out w' hb').2.2, hb', ht⟩)
  have HA4 : Hid (∀ W, Below W6.heap.size W6 W → Calls Tryz.prog 28 #[msV (.slice va n vc) b] W fun e w' => e = .returned (.bool ab) ∧ w'.cell? ⟨w.heap.size, 0, none⟩ = some (.slice va n vc) ∧ w'.cell? ⟨w.heap.size, 0 + 1, none⟩ = some (.string b) ∧ w'.cell? ⟨w2.heap.size, 0, none⟩ = some (.slice ua n uc) ∧ w'.cell? ⟨w2.heap.size, 0 + 1, none⟩ = some (.string b) ∧ Below W6.heap.size W6 w' ∧ Below W.heap.size W w') := Lib.hid (fun W hb => by
    refine (HRA.out _ W (HV6.out.below hb)).mono ?_
    rintro e w' ⟨rfl, ht⟩
    have hb' : Below W6.heap.size W6 w' := hb.trans (ht.mono hb.size)
    exact ⟨rfl, (HQ.out w' hb').1.1, (HQ.out w' hb').1.2, (HQ.out w' hb').2.1, (HQ.out w' hb').2.2, hb', ht⟩)
  have HA5 : Hid (∀ W, Below W6.heap.size W6 W → Calls Tryz.prog 29 #[msV (.slice ua n uc) b, .string list] W fun e w' => e = .returned (.bool sb) ∧ w'.cell? ⟨w.heap.size, 0, none⟩ = some (.slice va n vc) ∧ w'.cell? ⟨w.heap.size, 0 + 1, none⟩ = some (.string b) ∧ w'.cell? ⟨w2.heap.size, 0, none⟩ = some (.slice ua n uc) ∧ w'.cell? ⟨w2.heap.size, 0 + 1, none⟩ = some (.string b) ∧ Below W6.heap.size W6 w' ∧ Below W.heap.size W w') := Lib.hid (fun W hb => by
    refine (HSE.out _ W (HRD6.out.below hb)).mono ?_
    rintro e w' ⟨rfl, ht⟩
    have hb' : Below W6.heap.size W6 w' := hb.trans (ht.mono hb.size)
    exact ⟨rfl, (HQ.out w' hb').1.1, (HQ.out w' hb').1.2, (HQ.out w' hb').2.1, (HQ.out w' hb').2.2, hb', ht⟩)
  have HA6 : Hid (∀ W, Below W6.heap.size W6 W → Calls Tryz.prog 30 #[msV (.slice va n vc) b, .string list] W fun e w' => e = .returned (.bool sb) ∧ w'.cell? ⟨w.heap.size, 0, none⟩ = some (.slice va n vc) ∧ w'.cell? ⟨w.heap.size, 0 + 1, none⟩ = some (.string b) ∧ w'.cell? ⟨w2.heap.size, 0, none⟩ = some (.slice ua n uc) ∧ w'.cell? ⟨w2.heap.size, 0 + 1, none⟩ = some (.string b) ∧ Below W6.heap.size W6 w' ∧ Below W.heap.size W w') := Lib.hid (fun W hb => by
    refine (HRS.out _ W (HV6.out.below hb)).mono ?_
    rintro e w' ⟨rfl, ht⟩
    have hb' : Below W6.heap.size W6 w' := hb.trans (ht.mono hb.size)
    exact ⟨rfl, (HQ.out w' hb').1.1, (HQ.out w' hb').1.2, (HQ.out w' hb').2.1, (HQ.out w' hb').2.2, hb', ht⟩)
  have HA7 : Hid (∀ W, Below W6.heap.size W6 W → Calls Tryz.prog 10 #[] W fun e w' => e = .returned (.bool true) ∧ w'.cell? ⟨w.heap.size, 0, none⟩ = some (.slice va n vc) ∧ w'.cell? ⟨w.heap.size, 0 + 1, none⟩ = some (.string b) ∧ w'.cell? ⟨w2.heap.size, 0, none⟩ = some (.slice ua n uc) ∧ w'.cell? ⟨w2.heap.size, 0 + 1, none⟩ = some (.string b) ∧ Below W6.heap.size W6 w' ∧ Below W.heap.size W w') := Lib.hid (fun W hb => by
    refine (HWK.out W (HB6.out.trans (hb.mono HB6.out.size))).mono ?_
    rintro e w' ⟨rfl, ht⟩
    have hb' : Below W6.heap.size W6 w' := hb.trans (ht.mono hb.size)
    exact ⟨rfl, (HQ.out w' hb').1.1, (HQ.out w' hb').1.2, (HQ.out w' hb').2.1, (HQ.out w' hb').2.2, hb', ht⟩)
  obtain ⟨⟨c0, c1⟩, e0, e1⟩ := HQ.out W6 (Below.refl _ _)
  clear hk6 hgg hww hcc
  go_wp2_with fail
  go_region_held (fun W => W.cell? ⟨w.heap.size, 0, none⟩ = some (.slice va n vc) ∧ W.cell? ⟨w.heap.size, 0 + 1, none⟩ = some (.string b) ∧ W.cell? ⟨w2.heap.size, 0, none⟩ = some (.slice ua n uc) ∧ W.cell? ⟨w2.heap.size, 0 + 1, none⟩ = some (.string b)) (first | go_keep | (all_goals assumption)) ((first
    | (go_at_call 25; with_reducible refine (HA1.out _ (by (repeat (first | assumption | exact Below.refl _ _ | with_reducible refine bel_drew ?_)))).mono ?_; rintro e wa ⟨rfl, sa0, sa1, sa2, sa3, ba6, baW⟩)
    | (go_at_call 26; with_reducible refine (HA2.out _ (by (repeat (first | assumption | exact Below.refl _ _ | with_reducible refine bel_drew ?_)))).mono ?_; rintro e wb ⟨ta, tc, rfl, sb0, sb1, sb2, sb3, bb6, bbW⟩)
    | (go_at_call 27; with_reducible refine (HA3.out _ (by (repeat (first | assumption | exact Below.refl _ _ | with_reducible refine bel_drew ?_)))).mono ?_; rintro e wc ⟨rfl, sc0, sc1, sc2, sc3, bc6, bcW⟩)
    | (go_at_call 28; with_reducible refine (HA4.out _ (by (repeat (first | assumption | exact Below.refl _ _ | with_reducible refine bel_drew ?_)))).mono ?_; rintro e wd ⟨rfl, sd0, sd1, sd2, sd3, bd6, bdW⟩)
    | (go_at_call 29; with_reducible refine (HA5.out _ (by (repeat (first | assumption | exact Below.refl _ _ | with_reducible refine bel_drew ?_)))).mono ?_; rintro e we ⟨rfl, se0, se1, se2, se3, be6, beW⟩)
    | (go_at_call 30; with_reducible refine (HA6.out _ (by (repeat (first | assumption | exact Below.refl _ _ | with_reducible refine bel_drew ?_)))).mono ?_; rintro e wf ⟨rfl, sf0, sf1, sf2, sf3, bf6, bfW⟩)
    | (go_at_call 10; with_reducible refine (HA7.out _ (by (repeat (first | assumption | exact Below.refl _ _ | with_reducible refine bel_drew ?_)))).mono ?_; rintro e wg ⟨rfl, sg0, sg1, sg2, sg3, bg6, bgW⟩)))
  have HBE : Hid (Below w.heap.size w wg) := Lib.hid (HB6.out.trans (bg6.mono HB6.out.size))
  clear sa0 sa1 sa2 sa3 sb0 sb1 sb2 sb3 sc0 sc1 sc2 sc3 sd0 sd1 sd2 sd3 se0 se1 se2 se3 sf0 sf1 sf2 sf3 sg0 sg1 sg2 sg3 ba6 baW bb6 bbW bc6 bcW bd6 bdW be6 beW bf6 bfW bg6 bgW c0 c1 e0 e1
  go_wp2_with fail
  go_ret
  exact ⟨rfl, HBE.out⟩
end Go.Proofs.YtegbkfloiiilfaaGreatDoor.Msg
