/-
  Walks of what the laws of msg share.
-/
import Derived.Test.YtegbkfloiiilfaaGreatDoorMgRef
import Derived.Test.YtegbkfloiiilfaaGreatDoorMgHeadL
import Derived.Deep.RegionHeld

/-
  Walks: To, Same, Light of the laws, the chapter's example.
-/
namespace Go.Proofs.YtegbkfloiiilfaaGreatDoor.Msg
open Go Go.RowKit
open Go.Proofs.YtegbkfloiiilfaaGreatDoor.Head
open Go.Proofs.YtegbkfloiiilfaaGreatDoor.Glyph (foldL)
open Go.Proofs.YtegbkfloiiilfaaGreatDoor.Mbx (Bx bxV OneP)
open Go.Proofs.YtegbkfloiiilfaaGreatDoor.Sha (Kept wp_region_kept wp_region_kept_tail quiet_load_row)

set_option maxRecDepth 100000 in
set_option maxHeartbeats 4000000 in
theorem mto_any (v : Value) (q : List Head.Fd) (b : ByteArray) (w : World) (hv : ReadsF w v q) (hq : q.length ≤ 1000000) :
    Calls Tryz.prog 18 #[msV v b] w fun e w' => ∃ u, e = .returned (msV u b) ∧ FdsAt w w' u q := by
  obtain ⟨va, vc, rfl⟩ := hv.shape
  obtain ⟨n, hn⟩ : ∃ n, n = q.length := ⟨_, rfl⟩
  rw [← hn] at hv ⊢
  obtain ⟨W2, hW2⟩ : ∃ W2, W2 = ((w.alloc (boxM rmT (.slice va n vc) b)).alloc (boxM msT (.slice none 0 0) ⟨#[]⟩)) := ⟨_, rfl⟩
  have hz1 : (w.alloc (boxM rmT (.slice va n vc) b)).heap.size = w.heap.size + 1 := by simp
  have hz3 : W2.heap.size = w.heap.size + 2 := by rw [hW2]; simp
  have a1 : Below w.heap.size w (w.alloc (boxM rmT (.slice va n vc) b)) := (Below.refl _ _).alloc (Nat.le_refl _) _
  have a2 : Below (w.alloc (boxM rmT (.slice va n vc) b)).heap.size (w.alloc (boxM rmT (.slice va n vc) b)) W2 := by rw [hW2]; exact (Below.refl _ _).alloc (Nat.le_refl _) _
  have hA : Below w.heap.size w W2 := a1.trans (a2.mono a1.size)
  have hR : W2.rangeAt w.heap.size 0 (msC (.slice va n vc) b) := range_below (new_boxM w rmT (.slice va n vc) b) (by simp) a2
  have hX : Res2 w (w.heap.size + 1) msT W2 := by
    refine ⟨⟨none, 0, 0, ⟨#[]⟩, ?_⟩, by omega, hA⟩
    have h1 := Lies.new (w.alloc (boxM rmT (.slice va n vc) b)) #[.slice none 0 0, .string ⟨#[]⟩] msT
    rw [hz1] at h1
    rw [hW2]
    exact h1
  have HA := Lib.hid hA
  have HX := Lib.hid hX
  have HZ := Lib.hid hz3
  have HPU : Hid (∀ W, Below W2.heap.size W2 W → Calls Tryz.prog 44 #[.slice va n vc] W fun e w' => ∃ ua un uc xa xn xc xb, e = .returned (.slice ua un uc) ∧ w'.cell? ⟨w.heap.size + 1, 0, none⟩ = some (.slice xa xn xc) ∧ w'.cell? ⟨w.heap.size + 1, 1, none⟩ = some (.string xb) ∧ w'.frozen? ⟨w.heap.size + 1, 0, none⟩ = false ∧ w'.frozen? ⟨w.heap.size + 1, 1, none⟩ = false ∧ w'.cell? ⟨w.heap.size, 0, none⟩ = some (.slice va n vc) ∧ w'.cell? ⟨w.heap.size, 0 + 1, none⟩ = some (.string b) ∧ Hid (Below W2.heap.size W2 w' ∧ w'.ownsRow W2.heap.size fdT 2 (.slice ua un uc) q.length (q.flatMap fdC))) := Lib.hid (fun W hb => by
    refine (Head.to_any _ q W (hv.below (hA.trans (hb.mono hA.size))) hq).mono ?_
    rintro e w' ⟨u, rfl, ht⟩
    obtain ⟨ua, uc, rfl⟩ := owns_slice ht.1
    have hb' : Below W2.heap.size W2 w' := hb.trans (ht.2.mono hb.size)
    obtain ⟨c0, c1⟩ := twoM (range_below hR (by rw [hz3]; omega) hb')
    obtain ⟨xa, xn, xc, xb, e0, e1, f0, f1⟩ := (hX.on hb').cells
    exact ⟨ua, _, uc, xa, xn, xc, xb, rfl, e0, e1, f0, f1, c0, c1, Lib.hid ⟨hb', owns_low ht.1 hb.size⟩⟩)
  obtain ⟨c0, c1⟩ := twoM hR
  clear hv hn hq a1 a2 hA hR hX hz1 hz3
  go_enter Tryz.func18, Tryz.ntmps18
  go_wp2_with fail
  rw [← hW2]
  clear hW2
  go_region_held (fun W => W.cell? ⟨w.heap.size, 0, none⟩ = some (.slice va n vc) ∧ W.cell? ⟨w.heap.size, 0 + 1, none⟩ = some (.string b)) (first | go_keep | (all_goals assumption)) ((go_at_call 44; with_reducible refine (HPU.out _ (by (repeat (first | assumption | exact Below.refl _ _ | with_reducible refine bel_drew ?_)))).mono ?_; rintro e wa ⟨ua, un, uc, xa, xn, xc, xb, rfl, e0, e1, f0, f1, sa0, sa1, hwa⟩))
  go_wp2_with fail
  obtain ⟨hl2, hb2⟩ := (HX.out.on hwa.out.1).fill (.slice ua un uc) b
  exact bodyPost_ret (v := msV (.slice ua un uc) b) (results_cell_row Tryz.results18 _ _ (w.heap.size + 1) msT _ (0, 0) _ rfl hl2 Tryz.underlying25 rfl sizeMs) rfl ⟨_, rfl, owns_low (owns_fill hwa.out.2 (by have := HZ.out; omega)) HA.out.size, hb2⟩
theorem str_self (b : ByteArray) : (b.toList == b.toList) = true := by simp
set_option maxRecDepth 100000 in
set_option maxHeartbeats 2000000 in
theorem msame_any (u v : Value) (q : List Head.Fd) (b : ByteArray) (w : World) (hu : ReadsF w u q) (hv : ReadsF w v q) (hq : q.length ≤ 1000000) :
    Calls Tryz.prog 13 #[msV u b, msV v b] w (TrueP w) := by
  obtain ⟨ua, uc, rfl⟩ := hu.shape
  obtain ⟨va, vc, rfl⟩ := hv.shape
  obtain ⟨n, hn⟩ : ∃ n, n = q.length := ⟨_, rfl⟩
  rw [← hn] at hu hv ⊢
  obtain ⟨W2, hW2⟩ : ∃ W2, W2 = ((w.alloc (boxM msT (.slice ua n uc) b)).alloc (boxM rmT (.slice va n vc) b)) := ⟨_, rfl⟩
  have hz1 : (w.alloc (boxM msT (.slice ua n uc) b)).heap.size = w.heap.size + 1 := by simp
  have hz3 : W2.heap.size = w.heap.size + 2 := by rw [hW2]; simp
  have a1 : Below w.heap.size w (w.alloc (boxM msT (.slice ua n uc) b)) := (Below.refl _ _).alloc (Nat.le_refl _) _
  have a2 : Below (w.alloc (boxM msT (.slice ua n uc) b)).heap.size (w.alloc (boxM msT (.slice ua n uc) b)) W2 := by rw [hW2]; exact (Below.refl _ _).alloc (Nat.le_refl _) _
  have hA : Below w.heap.size w W2 := a1.trans (a2.mono a1.size)
  have hR1 : W2.rangeAt w.heap.size 0 (msC (.slice ua n uc) b) := range_below (new_boxM w msT (.slice ua n uc) b) (by simp) a2
  have hR2 : W2.rangeAt (w.heap.size + 1) 0 (msC (.slice va n vc) b) := by
    have := new_boxM (w.alloc (boxM msT (.slice ua n uc) b)) rmT (.slice va n vc) b
    rw [hz1] at this
    rw [hW2]
    exact this
  have HA := Lib.hid hA
  have HS := Lib.hid (Head.same_any _ _ q W2 (hu.below hA) (hv.below hA) hq)
  unfold TrueP at HS
  have HC : Hid (∀ W, Below W2.heap.size W2 W → W.cell? ⟨w.heap.size, 0 + 1, none⟩ = some (.string b) ∧ W.cell? ⟨w.heap.size + 1, 0 + 1, none⟩ = some (.string b)) := Lib.hid (fun W hb => ⟨(twoM (range_below hR1 (by rw [hz3]; omega) hb)).2, (twoM (range_below hR2 (by rw [hz3]; omega) hb)).2⟩)
  have hbb := str_self b
  obtain ⟨c0, c1⟩ := twoM hR1
  obtain ⟨d0, d1⟩ := twoM hR2
  clear hu hv hn hq a1 a2 hA hR1 hR2 hz1 hz3
  go_enter Tryz.func13, Tryz.ntmps13
  go_wp2_with fail
  rw [← hW2]
  clear hW2
  refine HS.out.mono ?_
  rintro e w1 ⟨rfl, hb⟩
  have HB := Lib.hid (HA.out.trans (hb.mono HA.out.size))
  clear c0 c1 d0 d1
  obtain ⟨c1, d1⟩ := HC.out w1 hb
  clear hb
  go_wp2_with fail
  go_ret
  exact ⟨rfl, HB.out⟩
def lightM (q : List Head.Fd) (b : ByteArray) : Bool := lightB q && decide (b.size ≤ 3000)
theorem lightM_iff {q : List Head.Fd} {b : ByteArray} (h : lightM q b = true) : (q.length ≤ 30 ∧ ∀ f ∈ q, f.n.size ≤ 200 ∧ f.v.size ≤ 3000) ∧ b.size ≤ 3000 := by
  unfold lightM at h
  rw [Bool.and_eq_true, decide_eq_true_eq] at h
  exact ⟨light_iff h.1, h.2⟩
set_option maxRecDepth 100000 in
set_option maxHeartbeats 2000000 in
theorem mlight_any (v : Value) (q : List Head.Fd) (b : ByteArray) (w : World) (hv : ReadsF w v q) :
    Calls Tryz.prog 17 #[msV v b] w fun e w' => e = .returned (.bool (lightM q b)) ∧ Below w.heap.size w w' := by
  obtain ⟨va, vc, rfl⟩ := hv.shape
  obtain ⟨n, hn⟩ : ∃ n, n = q.length := ⟨_, rfl⟩
  rw [← hn] at hv ⊢
  have HA : Hid (Below w.heap.size w (w.alloc (boxM rmT (.slice va n vc) b))) := Lib.hid ((Below.refl _ _).alloc (Nat.le_refl _) _)
  have HL := Lib.hid (light_any _ q (w.alloc (boxM rmT (.slice va n vc) b)) (hv.below HA.out))
  have HE : Hid (lightM q b = (lightB q && decide (b.size ≤ 3000))) := Lib.hid rfl
  generalize lightM q b = r at *
  generalize lightB q = lb at *
  clear hv hn
  by_cases hb : b.size ≤ 3000
  · have d : (b.size : Int) ≤ 3000 := by omega
    rw [decide_eq_true hb] at HE
    cases lb
    all_goals
      go_enter Tryz.func17, Tryz.ntmps17
      go_wp2_with fail
      refine HL.out.mono ?_
      rintro e w1 ⟨rfl, rfl⟩
      go_wp2_with fail
      go_ret
      exact ⟨ret_bool (by rw [HE.out]; rfl), HA.out⟩
  · have d : ¬ (b.size : Int) ≤ 3000 := by omega
    rw [decide_eq_false hb] at HE
    cases lb
    all_goals
      go_enter Tryz.func17, Tryz.ntmps17
      go_wp2_with fail
      refine HL.out.mono ?_
      rintro e w1 ⟨rfl, rfl⟩
      go_wp2_with fail
      go_ret
      exact ⟨ret_bool (by rw [HE.out]; first | rfl | exact decide_eq_false (by omega)), HA.out⟩

/-! The example. -/
def exS : ByteArray := ⟨#[70, 114, 111, 109, 58, 32, 65, 110, 110, 32, 60, 97, 64, 98, 62, 13, 10, 13, 10, 104, 105, 13, 10]⟩
abbrev exF : Head.Fd := ⟨⟨#[70, 114, 111, 109]⟩, ⟨#[65, 110, 110, 32, 60, 97, 64, 98, 62]⟩⟩
abbrev exB : ByteArray := ⟨#[104, 105, 13, 10]⟩
abbrev exX : Bx := ⟨⟨#[65, 110, 110]⟩, ⟨#[97]⟩, ⟨#[98]⟩⟩
theorem exParse : parseM (bl exS) = (0, [exF], bl exB) := by kernel_rfl
theorem exFrom : fromL [exF] = (exX, 0) := by kernel_rfl
theorem exLines : linL (bl exB) = [[104, 105]] := by kernel_rfl
theorem exText : ba (textL [exF] (bl exB)) = exS := by kernel_rfl
set_option maxRecDepth 100000 in
set_option maxHeartbeats 4000000 in
theorem works_any (w : World) (hm : MaxAt w) : Calls Tryz.prog 10 #[] w (TrueP w) := by
  have HP : Hid (Calls Tryz.prog 11 #[.string exS] w fun e w' => ∃ va vc, e = .returned (.tuple #[msV (.slice va 1 vc) exB, .int .i64 0]) ∧ ReadsF w' (.slice va 1 vc) [exF] ∧ Below w.heap.size w w') := Lib.hid ((parse_any exS w (by decide) hm).mono fun e w' he => by
    obtain ⟨v, he, hr⟩ := he
    rw [exParse] at he hr
    obtain ⟨va, vc, rfl⟩ := owns_slice hr.1
    simp only [ba_bl] at he
    exact ⟨va, vc, he, owns_readsF hr.1, hr.2⟩)
  have hfz : ∀ f ∈ [exF], f.n.size ≤ 10000 ∧ f.v.size ≤ 10000 := by
    intro f hf
    obtain rfl := List.mem_singleton.1 hf
    exact ⟨by decide, by decide⟩
  have HF := Lib.hid (fun v W (h : ReadsF W v [exF]) => from_any v [exF] exB W h (by decide) (fun f hf => by have := hfz f hf; omega) (fun f hf => by have := hfz f hf; omega))
  rw [exFrom] at HF
  unfold OneP at HF
  have HT := Lib.hid (fun v W (h : ReadsF W v [exF]) => text_any v [exF] exB W h (by decide) hfz (by decide))
  rw [exText] at HT
  have HL : Hid (∀ a c W, MaxAt W → Calls Tryz.prog 32 #[msV (.slice a 1 c) exB] W fun e w' => ∃ g uc, e = .returned (.slice (some ⟨g, 0, none⟩) 1 uc) ∧ w'.cell? ⟨g, 0, none⟩ = some (.string ⟨#[104, 105]⟩) ∧ Below W.heap.size W w') := Lib.hid (fun a c W h => (lines_any a 1 c exB W (by decide) h).mono fun e w' he => by
    obtain ⟨u, he, hr, hb⟩ := he
    rw [exLines] at hr
    rcases hr with ⟨a, c, _, h⟩ | ⟨g, c, h, _, _, _, h2⟩
    · cases h
    · exact ⟨g, c, by rw [he, h]; rfl, h2 0 _ rfl, hb⟩)
  have HM := Lib.hid hm
  have t1 : ((⟨#[65, 110, 110]⟩ : ByteArray).toList == [65, 110, 110]) = true := by rw [Lib.toList_data]; rfl
  have t2 : ((⟨#[97]⟩ : ByteArray).toList == [97]) = true := by rw [Lib.toList_data]; rfl
  have t3 : ((⟨#[104, 105]⟩ : ByteArray).toList == [104, 105]) = true := by rw [Lib.toList_data]; rfl
  have t4 : (exS.toList == [70, 114, 111, 109, 58, 32, 65, 110, 110, 32, 60, 97, 64, 98, 62, 13, 10, 13, 10, 104, 105, 13, 10]) = true := by rw [Lib.toList_data]; rfl
  clear hm hfz
  go_enter Tryz.func10, Tryz.ntmps10
  go_wp2_with fail
  refine HP.out.mono ?_
  rintro e w1 ⟨va, vc, rfl, hr, hb⟩
  have HB1 := Lib.hid hb
  have HR1 := Lib.hid hr
  have hal : Below w1.heap.size w1 (w1.alloc (boxM msT (.slice va 1 vc) exB)) := (Below.refl _ _).alloc (Nat.le_refl _) _
  have HAL := Lib.hid hal
  have HF1 := Lib.hid (HF.out _ _ (hr.below hal))
  have HCE : Hid (∀ W, Below (w1.alloc (boxM msT (.slice va 1 vc) exB)).heap.size (w1.alloc (boxM msT (.slice va 1 vc) exB)) W → W.cell? ⟨w1.heap.size, 0, none⟩ = some (.slice va 1 vc) ∧ W.cell? ⟨w1.heap.size, 0 + 1, none⟩ = some (.string exB)) := Lib.hid (fun W hb => twoM (range_below (new_boxM w1 msT (.slice va 1 vc) exB) (by simp) hb))
  clear hb hr hal
  go_wp2_with fail
  refine HF1.out.mono ?_
  rintro e w2 ⟨rfl, hb⟩
  have hal2 : Below w2.heap.size w2 (w2.alloc (Mbx.boxB Mbx.bxT exX)) := (Below.refl _ _).alloc (Nat.le_refl _) _
  have HB2 := Lib.hid (hb.trans (hal2.mono hb.size))
  have HBT := Lib.hid (HB1.out.trans ((HAL.out.trans (HB2.out.mono HAL.out.size)).mono HB1.out.size))
  have HL2 := Lib.hid (HL.out va vc _ (HM.out.below HBT.out))
  obtain ⟨c0, c1⟩ := HCE.out _ HB2.out
  have HX3 : Hid (∀ W, Below (w2.alloc (Mbx.boxB Mbx.bxT exX)).heap.size (w2.alloc (Mbx.boxB Mbx.bxT exX)) W → W.cell? ⟨w2.heap.size, 0, none⟩ = some (.string exX.n) ∧ W.cell? ⟨w2.heap.size, 0 + 1, none⟩ = some (.string exX.l)) := Lib.hid (fun W hb => by
    have hl := Lex.Lies.new w2 #[.string exX.n, .string exX.l, .string exX.d] Mbx.bxT
    have h0 := hl.cell 0
    have h1 := hl.cell 1
    have hlt := hl.lt
    exact ⟨by rw [hb.cell (p := ⟨w2.heap.size, 0, none⟩) hlt]; exact h0, by rw [hb.cell (p := ⟨w2.heap.size, 0 + 1, none⟩) hlt]; exact h1⟩)
  clear hb hal2
  go_wp2_with fail
  refine HL2.out.mono ?_
  rintro e w3 ⟨g, uc, rfl, hg, hb⟩
  have HB3 := Lib.hid (HB2.out.trans (hb.mono HB2.out.size))
  have HB3w := Lib.hid (HBT.out.trans (hb.mono HBT.out.size))
  clear c0 c1
  obtain ⟨c0, c1⟩ := HCE.out w3 HB3.out
  obtain ⟨d0, d1⟩ := HX3.out w3 hb
  have HT3 := Lib.hid (HT.out _ w3 (HR1.out.below (HAL.out.trans (HB3.out.mono HAL.out.size))))
  clear hb
  go_wp2_with fail
  refine HT3.out.mono ?_
  rintro e w4 ⟨rfl, hb⟩
  have HB4 := Lib.hid (HB3w.out.trans (hb.mono HB3w.out.size))
  clear hb
  go_wp2_with fail
  go_ret
  exact ⟨rfl, HB4.out⟩
end Go.Proofs.YtegbkfloiiilfaaGreatDoor.Msg
