/-
  Walks of msg.
-/
import Derived.Test.YtegbkfloiiilfaaGreatDoorMgMem
import Derived.Test.YtegbkfloiiilfaaGreatDoorMgHeadC
import Derived.Test.YtegbkfloiiilfaaGreatDoorMgMbxB
import Derived.Test.YtegbkfloiiilfaaGreatDoorMgHeadD
import Derived.Deep.RegionHeld

/-
  Walks: Parse, Text, Get, Word, Hops, isBulk, Auto, From.
-/
namespace Go.Proofs.YtegbkfloiiilfaaGreatDoor.Msg
open Go Go.RowKit
open Go.Proofs.YtegbkfloiiilfaaGreatDoor.Head
open Go.Proofs.YtegbkfloiiilfaaGreatDoor.Glyph (foldL fold_any)
open Go.Proofs.YtegbkfloiiilfaaGreatDoor.Mbx (Bx noBx bxT bxV oneL OneP one_any Res3 sizeB)
open Go.Proofs.YtegbkfloiiilfaaGreatDoor.Addr (results_ad2)
open Go.Proofs.YtegbkfloiiilfaaGreatDoor.Sha (Kept wp_region_kept wp_region_kept_tail quiet_load_row)

/-! Parse. -/
def PmPost (s : ByteArray) (w : World) (e : Ending) (w' : World) : Prop := ∃ v, e = .returned (.tuple #[msV v (ba (parseM (bl s)).2.2), .int .i64 (parseM (bl s)).1]) ∧ FdsAt w w' v (parseM (bl s)).2.1
theorem PmPost.of {s : ByteArray} {w w' : World} {c : Nat} {F : List Head.Fd} {b : ByteArray} {v : Value} (h : parseM (bl s) = (c, F, bl b)) (hf : FdsAt w w' v F) : PmPost s w (.returned (.tuple #[msV v b, .int .i64 c])) w' := by
  refine ⟨v, ?_, ?_⟩
  · rw [h, ba_bl]
  · rw [h]; exact hf
theorem int_ne {c : Nat} (h : c ≠ 0) : ((c : Int) != 0) = true := by rw [bne_iff_ne]; omega
set_option maxRecDepth 100000 in
set_option maxHeartbeats 2000000 in
theorem parse_any (s : ByteArray) (w : World) (hs : s.size ≤ 1000000) (hm : MaxAt w) :
    Calls Tryz.prog 11 #[.string s] w (PmPost s w) := by
  have HR0 := Lib.hid (Res2.start w msT none 0 0 ⟨#[]⟩)
  have HP := Lib.hid (Head.parse_any s (w.alloc (boxM msT (.slice none 0 0) ⟨#[]⟩)) hs (hm.below ((Below.refl _ _).alloc (Nat.le_refl _) _)))
  by_cases hl : 65536 < s.size
  · have d : (65536 : Int) < (s.size : Int) := by omega
    have HX := Lib.hid (parseM_long (s := bl s) (by rw [bl_len]; exact hl))
    go_enter Tryz.func11, Tryz.ntmps11
    go_wp2_with fail
    exact bodyPost_ret (v := .tuple #[msV (.slice none 0 0) ⟨#[]⟩, .int .i64 2]) (results_ad2 Tryz.results11 _ _ w.heap.size msT _ (0, 0) _ rfl (Lies.new w #[.slice none 0 0, .string ⟨#[]⟩] msT) Tryz.underlying25 rfl sizeMs) rfl (PmPost.of (c := 2) HX.out ⟨World.ownsRow_nil _ _ _ _, HR0.out.below⟩)
  · have d : ¬ (65536 : Int) < (s.size : Int) := by omega
    have hl' : ¬ 65536 < (bl s).length := by rw [bl_len]; exact hl
    by_cases hc : parseC (bl s) = 0
    · have HX := Lib.hid (parseM_good hl' hc)
      have HP2 : Hid (Calls Tryz.prog 37 #[.string s] (w.alloc (boxM msT (.slice none 0 0) ⟨#[]⟩)) fun e w' => ∃ va vn vc, e = .returned (.tuple #[.slice va vn vc, .string (ba (parseB (bl s))), .int .i64 0]) ∧ FdsAt (w.alloc (boxM msT (.slice none 0 0) ⟨#[]⟩)) w' (.slice va vn vc) (parseF (bl s))) := Lib.hid (HP.out.mono fun e w' he => by
        obtain ⟨v, he, hf⟩ := he
        rw [hc] at he
        obtain ⟨va, vc, rfl⟩ := owns_slice hf.1
        exact ⟨va, _, vc, he, hf⟩)
      rw [← bl_ba (parseB (bl s))] at HX
      generalize parseF (bl s) = F at *
      generalize ba (parseB (bl s)) = b at *
      clear hc HP hm
      go_enter Tryz.func11, Tryz.ntmps11
      go_wp2_with fail
      refine HP2.out.mono ?_
      rintro e w1 ⟨va, vn, vc, rfl, hf⟩
      have HF := Lib.hid hf.1
      have HR1 := Lib.hid (HR0.out.on hf.2)
      obtain ⟨a0, n0, c0, x0, d0, d1, f0, f1⟩ := HR1.out.cells
      clear hf
      go_wp2_with fail
      obtain ⟨hl2, hb2⟩ := HR1.out.fill (.slice va vn vc) b
      exact bodyPost_ret (v := .tuple #[msV (.slice va vn vc) b, .int .i64 0]) (results_ad2 Tryz.results11 _ _ w.heap.size msT _ (0, 0) _ rfl hl2 Tryz.underlying25 rfl sizeMs) rfl (PmPost.of (c := 0) HX.out ⟨owns_low (owns_fill HF.out (by simp)) (by simp), hb2⟩)
    · have HX := Lib.hid (parseM_bad hl' hc)
      have hq := int_ne hc
      have HP2 : Hid (Calls Tryz.prog 37 #[.string s] (w.alloc (boxM msT (.slice none 0 0) ⟨#[]⟩)) fun e w' => ∃ v b, e = .returned (.tuple #[v, .string b, .int .i64 (parseC (bl s))]) ∧ Below (w.alloc (boxM msT (.slice none 0 0) ⟨#[]⟩)).heap.size (w.alloc (boxM msT (.slice none 0 0) ⟨#[]⟩)) w') := Lib.hid (HP.out.mono fun e w' he => by
        obtain ⟨v, he, hf⟩ := he
        exact ⟨v, _, he, hf.2⟩)
      generalize parseC (bl s) = c at *
      clear hc HP hm
      go_enter Tryz.func11, Tryz.ntmps11
      go_wp2_with fail
      refine HP2.out.mono ?_
      rintro e w1 ⟨v, b, rfl, hf⟩
      have HR1 := Lib.hid (HR0.out.on hf)
      obtain ⟨a0, n0, c0, x0, d0, d1, f0, f1⟩ := HR1.out.cells
      clear hf
      go_wp2_with fail
      obtain ⟨hl2, hb2⟩ := HR1.out.fill (.slice none 0 0) ⟨#[]⟩
      exact bodyPost_ret (v := .tuple #[msV (.slice none 0 0) ⟨#[]⟩, .int .i64 c]) (results_ad2 Tryz.results11 _ _ w.heap.size msT _ (0, 0) _ rfl hl2 Tryz.underlying25 rfl sizeMs) rfl (PmPost.of HX.out ⟨World.ownsRow_nil _ _ _ _, hb2⟩)

/-! Text. -/
theorem text_end (q : List Head.Fd) (b : ByteArray) : ba (textL q (bl b)) = (ba (printL q) ++ (⟨#[13, 10]⟩ : ByteArray)) ++ b := by
  apply bl_inj
  rw [bl_ba]
  show _ = ((ba (printL q) ++ (⟨#[13, 10]⟩ : ByteArray)) ++ b).data.toList
  rw [ByteArray.data_append, ByteArray.data_append]
  simp [textL]
theorem printL_bound {q : List Head.Fd} (hq : q.length ≤ 1000) (hs : ∀ f ∈ q, f.n.size ≤ 10000 ∧ f.v.size ≤ 10000) : (ba (printL q)).size ≤ 50000000 := by
  rw [ba_size]
  have := printL_len q hs
  omega
set_option maxRecDepth 100000 in
set_option maxHeartbeats 2000000 in
theorem text_any (v : Value) (q : List Head.Fd) (b : ByteArray) (w : World) (hv : ReadsF w v q) (hq : q.length ≤ 1000) (hs : ∀ f ∈ q, f.n.size ≤ 10000 ∧ f.v.size ≤ 10000) (hb : b.size ≤ 1000000) :
    Calls Tryz.prog 14 #[msV v b] w fun e w' => e = .returned (.string (ba (textL q (bl b)))) ∧ Below w.heap.size w w' := by
  obtain ⟨va, vc, rfl⟩ := hv.shape
  obtain ⟨n, hn⟩ : ∃ n, n = q.length := ⟨_, rfl⟩
  rw [← hn] at hv ⊢
  have HA : Hid (Below w.heap.size w (w.alloc (boxM msT (.slice va n vc) b))) := Lib.hid ((Below.refl _ _).alloc (Nat.le_refl _) _)
  have HR := Lib.hid (new_boxM w msT (.slice va n vc) b)
  have HL : Hid (w.heap.size < (w.alloc (boxM msT (.slice va n vc) b)).heap.size) := Lib.hid (by simp)
  have HP := Lib.hid (fun W (h : Below w.heap.size w W) => print_any _ q W (hv.below h) hq hs)
  have hpz := printL_bound hq hs
  rw [text_end]
  generalize ba (printL q) = p at *
  clear hv hn hs hq
  go_enter Tryz.func14, Tryz.ntmps14
  go_wp2_with fail
  refine wp_region_kept (by kernel_rfl) (by kernel_rfl) ?_
  repeat (first
    | (go_big_quiet_want
       first
         | refine quiet_load_sl 23 68 (.tmp 3) rfl ⟨w.heap.size, 0, none⟩ rfl (.slice va n vc) (fun w' hk => (twoM (range_below HR.out HL.out hk)).1) Tryz.underlying23 ?_
         | refine quiet_load_str 9 (.tmp 7) rfl ⟨w.heap.size, 0 + 1, none⟩ rfl (.string b) (fun w' hk => (twoM (range_below HR.out HL.out hk)).2) Tryz.underlying9 ?_
       go_simp
       go_big_quiet_on)
    | (go_big_quiet_step ((first | (exact fun _ => rfl) | (intro hk; go_at_call 40; exact hk.call (HP.out _ (HA.out.trans (hk.below.mono HA.out.size))))))))
  refine wpQuiet_nil ?_
  intro W2 hk2
  have HK2 := Lib.hid (HA.out.trans (hk2.below.mono HA.out.size))
  clear hk2
  go_wp2_with fail
  go_ret
  exact ⟨rfl, HK2.out⟩

/-! Get, Word, Hops. -/
theorem getL_le {p : List UInt8} {q : List Head.Fd} {z : Nat} (hs : ∀ f ∈ q, f.v.size ≤ z) : (getL p q).size ≤ z := by
  unfold getL
  cases h : q.find? (nmB p) with
  | none => exact Nat.zero_le _
  | some f => exact hs f (List.mem_of_find?_eq_some h)
set_option maxRecDepth 100000 in
set_option maxHeartbeats 1000000 in
theorem mget_any (v : Value) (q : List Head.Fd) (b name : ByteArray) (w : World) (hv : ReadsF w v q) (hq : q.length ≤ 1000) (hs : ∀ f ∈ q, f.n.size ≤ 1000000) (hz : name.size ≤ 1000000) :
    Calls Tryz.prog 16 #[msV v b, .string name] w fun e w' => e = .returned (.string (getL (foldL (bl name)) q)) ∧ Below w.heap.size w w' := by
  obtain ⟨va, vc, rfl⟩ := hv.shape
  obtain ⟨n, hn⟩ : ∃ n, n = q.length := ⟨_, rfl⟩
  rw [← hn] at hv ⊢
  have HA : Hid (Below w.heap.size w (w.alloc (boxM msT (.slice va n vc) b))) := Lib.hid ((Below.refl _ _).alloc (Nat.le_refl _) _)
  have HG := Lib.hid (get_any _ q name (w.alloc (boxM msT (.slice va n vc) b)) (hv.below HA.out) (by omega) hs hz)
  generalize getL (foldL (bl name)) q = g at *
  generalize q.any (nmB (foldL (bl name))) = gb at *
  clear hv hn hs hq
  go_enter Tryz.func16, Tryz.ntmps16
  go_wp2_with fail
  refine HG.out.mono ?_
  rintro e w1 ⟨rfl, hb⟩
  have HB := Lib.hid (HA.out.trans (hb.mono HA.out.size))
  clear hb
  go_wp2_with fail
  go_ret
  exact ⟨rfl, HB.out⟩
set_option maxRecDepth 100000 in
set_option maxHeartbeats 1000000 in
theorem word_any (v : Value) (q : List Head.Fd) (b name : ByteArray) (w : World) (hv : ReadsF w v q) (hq : q.length ≤ 1000) (hs : ∀ f ∈ q, f.n.size ≤ 1000000) (hvs : ∀ f ∈ q, f.v.size ≤ 1000000) (hz : name.size ≤ 1000000) :
    Calls Tryz.prog 23 #[msV v b, .string name] w fun e w' => e = .returned (.string (ba (wordL (bl (getL (foldL (bl name)) q))))) ∧ Below w.heap.size w w' := by
  obtain ⟨va, vc, rfl⟩ := hv.shape
  obtain ⟨n, hn⟩ : ∃ n, n = q.length := ⟨_, rfl⟩
  rw [← hn] at hv ⊢
  have HA : Hid (Below w.heap.size w (w.alloc (boxM msT (.slice va n vc) b))) := Lib.hid ((Below.refl _ _).alloc (Nat.le_refl _) _)
  have HG := Lib.hid (mget_any _ q b name (w.alloc (boxM msT (.slice va n vc) b)) (hv.below HA.out) hq hs hz)
  have hgz := getL_le (p := foldL (bl name)) hvs
  generalize getL (foldL (bl name)) q = g at *
  have HI := Lib.hid (fun W => idx_any g W hgz)
  have HF := Lib.hid (fun (x : ByteArray) W (h : x.size ≤ 1000000) => fold_any x W h)
  clear hv hn hs hq hvs
  go_enter Tryz.func23, Tryz.ntmps23
  go_wp2_with fail
  refine HG.out.mono ?_
  rintro e w1 ⟨rfl, hb⟩
  have HB := Lib.hid (HA.out.trans (hb.mono HA.out.size))
  clear hb
  go_wp2_with fail
  refine (HI.out _).mono ?_
  rintro e w2 ⟨x, rfl, hx, hb⟩
  have HB2 := Lib.hid (HB.out.trans (hb.mono HB.out.size))
  clear hb
  rcases hx with ⟨rfl, hw⟩ | ⟨k, rfl, hk, hw⟩
  · have HW : Hid (ba (foldL (bl g)) = ba (wordL (bl g))) := Lib.hid (by unfold wordL; rw [hw])
    have HF1 := Lib.hid (HF.out g w2 hgz)
    rw [show Glyph.ba (foldL (Glyph.bl g)) = ba (wordL (bl g)) from HW.out] at HF1
    clear hw
    go_wp2_with fail
    refine HF1.out.mono ?_
    rintro e w3 ⟨rfl, hb⟩
    have HB3 := Lib.hid (HB2.out.trans (hb.mono HB2.out.size))
    clear hb
    go_wp2_with fail
    go_ret
    exact ⟨rfl, HB3.out⟩
  · have hk2 : k ≤ g.size := by rw [bl_len] at hk; exact hk
    have HW : Hid (ba (foldL (bl (g.extract 0 k))) = ba (wordL (bl g))) := Lib.hid (by unfold wordL; rw [hw, bl_extract]; simp)
    have hez : (g.extract 0 k).size ≤ 1000000 := by rw [ByteArray.size_extract]; omega
    have HF1 := Lib.hid (HF.out (g.extract 0 k) w2 hez)
    rw [show Glyph.ba (foldL (Glyph.bl (g.extract 0 k))) = ba (wordL (bl g)) from HW.out] at HF1
    clear hw hk hez
    go_wp2_with fail
    refine HF1.out.mono ?_
    rintro e w3 ⟨rfl, hb⟩
    have HB3 := Lib.hid (HB2.out.trans (hb.mono HB2.out.size))
    clear hb
    go_wp2_with fail
    go_ret
    exact ⟨rfl, HB3.out⟩
set_option maxRecDepth 100000 in
set_option maxHeartbeats 1000000 in
theorem hops_any (v : Value) (q : List Head.Fd) (b : ByteArray) (w : World) (hv : ReadsF w v q) (hq : q.length ≤ 1000) (hs : ∀ f ∈ q, f.n.size ≤ 1000000) :
    Calls Tryz.prog 25 #[msV v b] w fun e w' => e = .returned (.int .i64 (allL (foldL [82, 101, 99, 101, 105, 118, 101, 100]) q).length) ∧ Below w.heap.size w w' := by
  obtain ⟨va, vc, rfl⟩ := hv.shape
  obtain ⟨n, hn⟩ : ∃ n, n = q.length := ⟨_, rfl⟩
  rw [← hn] at hv ⊢
  have HA : Hid (Below w.heap.size w (w.alloc (boxM msT (.slice va n vc) b))) := Lib.hid ((Below.refl _ _).alloc (Nat.le_refl _) _)
  have HG := Lib.hid (all_any _ q ⟨#[82, 101, 99, 101, 105, 118, 101, 100]⟩ (w.alloc (boxM msT (.slice va n vc) b)) (hv.below HA.out) (by omega) hs (by decide))
  rw [show bl (⟨#[82, 101, 99, 101, 105, 118, 101, 100]⟩ : ByteArray) = [82, 101, 99, 101, 105, 118, 101, 100] from rfl] at HG
  generalize allL (foldL [82, 101, 99, 101, 105, 118, 101, 100]) q = T at *
  clear hv hn hs hq
  go_enter Tryz.func25, Tryz.ntmps25
  go_wp2_with fail
  refine HG.out.mono ?_
  rintro e w1 ⟨u, rfl, hf⟩
  obtain ⟨ua, uc, rfl⟩ := owns_slice hf.1
  have HB := Lib.hid (HA.out.trans (hf.2.mono HA.out.size))
  clear hf
  go_wp2_with fail
  go_ret
  exact ⟨rfl, HB.out⟩

/-! Auto. -/
def bulkB (p : List UInt8) : Bool := decide (p = [98, 117, 108, 107]) || (decide (p = [106, 117, 110, 107]) || decide (p = [108, 105, 115, 116]))
theorem lit_eq (x : ByteArray) (l : List UInt8) : (x.toList == l) = decide (bl x = l) := by
  rw [Lib.toList_data, Bool.eq_iff_iff, beq_iff_eq, decide_eq_true_eq]
set_option maxRecDepth 100000 in
set_option maxHeartbeats 1000000 in
theorem bulk_any (p : ByteArray) (w : World) : Calls Tryz.prog 53 #[.string p] w fun e w' => e = .returned (.bool (bulkB (bl p))) ∧ w = w' := by
  have h1 := lit_eq p [98, 117, 108, 107]
  have h2 := lit_eq p [106, 117, 110, 107]
  have h3 := lit_eq p [108, 105, 115, 116]
  have HE : Hid (bulkB (bl p) = (decide (bl p = [98, 117, 108, 107]) || (decide (bl p = [106, 117, 110, 107]) || decide (bl p = [108, 105, 115, 116])))) := Lib.hid rfl
  generalize bulkB (bl p) = r at *
  generalize decide (bl p = [98, 117, 108, 107]) = b1 at *
  generalize decide (bl p = [106, 117, 110, 107]) = b2 at *
  generalize decide (bl p = [108, 105, 115, 116]) = b3 at *
  cases b1 <;> cases b2 <;> cases b3
  all_goals
    go_enter Tryz.func53, Tryz.ntmps53
    go_wp2_with fail
    go_ret
    exact ⟨by rw [HE.out]; rfl, rfl⟩
abbrev autoN : List UInt8 := [65, 117, 116, 111, 45, 83, 117, 98, 109, 105, 116, 116, 101, 100]
abbrev precN : List UInt8 := [80, 114, 101, 99, 101, 100, 101, 110, 99, 101]
def wordOf (p : List UInt8) (q : List Head.Fd) : List UInt8 := wordL (bl (getL (foldL p) q))
theorem auto_split (a p : List UInt8) : autoB a p = ((!decide (a = []) && !decide (a = [110, 111])) || bulkB p) := rfl
set_option maxRecDepth 100000 in
set_option maxHeartbeats 2000000 in
theorem auto_any (v : Value) (q : List Head.Fd) (b : ByteArray) (w : World) (hv : ReadsF w v q) (hq : q.length ≤ 1000) (hs : ∀ f ∈ q, f.n.size ≤ 1000000) (hvs : ∀ f ∈ q, f.v.size ≤ 1000000) :
    Calls Tryz.prog 27 #[msV v b] w fun e w' => e = .returned (.bool (autoB (wordOf autoN q) (wordOf precN q))) ∧ Below w.heap.size w w' := by
  obtain ⟨va, vc, rfl⟩ := hv.shape
  obtain ⟨n, hn⟩ : ∃ n, n = q.length := ⟨_, rfl⟩
  rw [← hn] at hv ⊢
  have HA : Hid (Below w.heap.size w (w.alloc (boxM msT (.slice va n vc) b))) := Lib.hid ((Below.refl _ _).alloc (Nat.le_refl _) _)
  have HR := Lib.hid (new_boxM w msT (.slice va n vc) b)
  have HL : Hid (w.heap.size < (w.alloc (boxM msT (.slice va n vc) b)).heap.size) := Lib.hid (by simp)
  have HW1 : Hid (Calls Tryz.prog 23 #[msV (.slice va n vc) b, .string ⟨#[65, 117, 116, 111, 45, 83, 117, 98, 109, 105, 116, 116, 101, 100]⟩] (w.alloc (boxM msT (.slice va n vc) b)) fun e w' => e = .returned (.string (ba (wordOf autoN q))) ∧ Below (w.alloc (boxM msT (.slice va n vc) b)).heap.size (w.alloc (boxM msT (.slice va n vc) b)) w') := Lib.hid (word_any _ q b ⟨#[65, 117, 116, 111, 45, 83, 117, 98, 109, 105, 116, 116, 101, 100]⟩ _ (hv.below HA.out) hq hs hvs (by decide))
  have HW2 : Hid (∀ W, Below w.heap.size w W → Calls Tryz.prog 23 #[msV (.slice va n vc) b, .string ⟨#[80, 114, 101, 99, 101, 100, 101, 110, 99, 101]⟩] W fun e w' => e = .returned (.string (ba (wordOf precN q))) ∧ Below W.heap.size W w') := Lib.hid (fun W h => word_any _ q b ⟨#[80, 114, 101, 99, 101, 100, 101, 110, 99, 101]⟩ W (hv.below h) hq hs hvs (by decide))
  have HB := Lib.hid (fun W => bulk_any (ba (wordOf precN q)) W)
  rw [bl_ba] at HB
  rw [auto_split]
  have h1 : (ba (wordOf autoN q)).toList.isEmpty = decide (wordOf autoN q = []) := by
    rw [empty_any, bl_ba]
    cases wordOf autoN q <;> rfl
  have h2 := lit_eq (ba (wordOf autoN q)) [110, 111]
  rw [bl_ba] at h2
  generalize bulkB (wordOf precN q) = bb at *
  generalize decide (wordOf autoN q = []) = b1 at *
  generalize decide (wordOf autoN q = [110, 111]) = b2 at *
  generalize ba (wordOf autoN q) = x at *
  generalize ba (wordOf precN q) = y at *
  clear hv hn hs hq hvs
  cases b1 <;> cases b2
  all_goals
    go_enter Tryz.func27, Tryz.ntmps27
    go_wp2_with fail
    refine HW1.out.mono ?_
    rintro e w1 ⟨rfl, hb⟩
    have HB1 := Lib.hid (HA.out.trans (hb.mono HA.out.size))
    obtain ⟨c0, c1⟩ := twoM (range_below HR.out HL.out hb)
    clear hb
    go_wp2_with fail
    first
      | (go_ret; exact ⟨rfl, HB1.out⟩)
      | (refine (HW2.out _ HB1.out).mono ?_
         rintro e w2 ⟨rfl, hb⟩
         have HB2 := Lib.hid (HB1.out.trans (hb.mono HB1.out.size))
         clear hb
         go_wp2_with fail
         refine (HB.out _).mono ?_
         rintro e w3 ⟨rfl, rfl⟩
         go_wp2_with fail
         go_ret
         exact ⟨ret_bool (by cases bb <;> rfl), HB2.out⟩)

/-! From. -/
def fromT (T : List ByteArray) : Bx × Nat := match T with | [] => (noBx, 6) | [v] => oneL (bl v) | _ => (noBx, 7)
abbrev fromN : List UInt8 := [70, 114, 111, 109]
def fromL (q : List Head.Fd) : Bx × Nat := fromT (allL (foldL fromN) q)
theorem all_size {p : List UInt8} {q : List Head.Fd} {z : Nat} (hs : ∀ f ∈ q, f.v.size ≤ z) : ∀ x ∈ allL p q, x.size ≤ z := by
  intro x hx
  unfold allL at hx
  obtain ⟨f, hf, rfl⟩ := List.mem_map.1 hx
  exact hs f (List.mem_filter.1 hf).1
theorem from_many {T : List ByteArray} (h0 : T.length ≠ 0) (h1 : T.length ≠ 1) : fromT T = (noBx, 7) := by
  match T, h0, h1 with
  | [], h0, _ => exact absurd rfl h0
  | [a], _, h1 => exact absurd rfl h1
  | a :: c :: r, _, _ => rfl
set_option maxRecDepth 100000 in
set_option maxHeartbeats 2000000 in
theorem from_any (v : Value) (q : List Head.Fd) (b : ByteArray) (w : World) (hv : ReadsF w v q) (hq : q.length ≤ 1000) (hs : ∀ f ∈ q, f.n.size ≤ 1000000) (hvs : ∀ f ∈ q, f.v.size ≤ 50000) :
    Calls Tryz.prog 19 #[msV v b] w (OneP (fromL q) w) := by
  obtain ⟨va, vc, rfl⟩ := hv.shape
  obtain ⟨n, hn⟩ : ∃ n, n = q.length := ⟨_, rfl⟩
  rw [← hn] at hv ⊢
  obtain ⟨W0, hW0⟩ : ∃ W0, W0 = w.alloc (boxM msT (.slice va n vc) b) := ⟨_, rfl⟩
  have HA : Hid (Below w.heap.size w ((w.alloc (boxM msT (.slice va n vc) b)).alloc (Mbx.boxB bxT noBx))) := Lib.hid (((Below.refl _ _).alloc (Nat.le_refl _) _).alloc (by simp) _)
  have HR0 : Hid (Res3 w (w.heap.size + 1) bxT ((w.alloc (boxM msT (.slice va n vc) b)).alloc (Mbx.boxB bxT noBx))) := Lib.hid (by
    have hz : (w.alloc (boxM msT (.slice va n vc) b)).heap.size = w.heap.size + 1 := by simp
    have := Lex.Lies.new (w.alloc (boxM msT (.slice va n vc) b)) #[.string noBx.n, .string noBx.l, .string noBx.d] bxT
    rw [hz] at this
    exact ⟨⟨noBx, this⟩, by omega, HA.out⟩)
  have HG := Lib.hid (all_any _ q ⟨#[70, 114, 111, 109]⟩ ((w.alloc (boxM msT (.slice va n vc) b)).alloc (Mbx.boxB bxT noBx)) (hv.below HA.out) (by omega) hs (by decide))
  rw [show bl (⟨#[70, 114, 111, 109]⟩ : ByteArray) = fromN from rfl] at HG
  have hsz := all_size (p := foldL fromN) hvs
  unfold fromL
  generalize allL (foldL fromN) q = T at *
  clear hv hn hs hq hvs hW0
  by_cases h0 : T.length = 0
  · obtain rfl := List.length_eq_zero_iff.1 h0
    clear hsz h0
    go_enter Tryz.func19, Tryz.ntmps19
    go_wp2_with fail
    refine HG.out.mono ?_
    rintro e w1 ⟨u, rfl, hf⟩
    obtain ⟨ua, uc, rfl⟩ := owns_slice hf.1
    have HR1 := Lib.hid (HR0.out.on hf.2)
    obtain ⟨x, c0, c1, c2, f0, f1, f2⟩ := HR1.out.cells
    rw [List.length_nil]
    clear hf
    go_wp2_with fail
    obtain ⟨hl2, hb2⟩ := HR1.out.fill noBx
    exact bodyPost_ret (v := .tuple #[bxV noBx, .int .i64 6]) (results_ad2 Tryz.results19 _ _ (w.heap.size + 1) bxT _ (0, 0) _ rfl hl2 Tryz.underlying46 rfl sizeB) rfl ⟨rfl, hb2⟩
  · by_cases h1 : T.length = 1
    · obtain ⟨x, rfl⟩ : ∃ b, T = [b] := List.length_eq_one_iff.1 h1
      have HO := Lib.hid (fun W => one_any x W (hsz x (by simp)))
      rw [show fromT [x] = oneL (bl x) from rfl]
      rw [show Lex.bl x = bl x from rfl] at HO
      generalize oneL (bl x) = R at *
      clear hsz h0 h1
      go_enter Tryz.func19, Tryz.ntmps19
      go_wp2_with fail
      refine HG.out.mono ?_
      rintro e w1 ⟨u, rfl, hf⟩
      obtain ⟨ua, uc, rfl⟩ := owns_slice hf.1
      have hrd := owns_readsS hf.1
      obtain ⟨g, rfl, hg⟩ : ∃ g, ua = some ⟨g, 0, none⟩ ∧ w1.cell? ⟨g, 0, none⟩ = some (.string x) := by
        rcases hrd with ⟨a, c, _, h⟩ | ⟨g, c, h, _, _, _, h2⟩
        · cases h
        · obtain ⟨rfl, _, _⟩ := Value.slice.inj h
          exact ⟨g, rfl, h2 0 x rfl⟩
      have HR1 := Lib.hid (HR0.out.on hf.2)
      rw [show [x].length = 1 from rfl]
      clear hf hrd
      go_wp2_with fail
      refine (HO.out _).mono ?_
      rintro e w2 ⟨rfl, hb⟩
      have HR2 := Lib.hid (HR1.out.on hb)
      obtain ⟨y, c0, c1, c2, f0, f1, f2⟩ := HR2.out.cells
      clear hb hg
      go_wp2_with fail
      obtain ⟨hl2, hb2⟩ := HR2.out.fill R.1
      exact bodyPost_ret (v := .tuple #[bxV R.1, .int .i64 R.2]) (results_ad2 Tryz.results19 _ _ (w.heap.size + 1) bxT _ (0, 0) _ rfl hl2 Tryz.underlying46 rfl sizeB) rfl ⟨rfl, hb2⟩
    · rw [from_many h0 h1]
      have e0 : ((T.length : Int) == 0) = false := by rw [beq_eq_false_iff_ne]; omega
      have e1 : ((T.length : Int) == 1) = false := by rw [beq_eq_false_iff_ne]; omega
      obtain ⟨m, hm⟩ : ∃ m, m = T.length := ⟨_, rfl⟩
      have HM := Lib.hid hm
      rw [← hm] at e0 e1
      clear hsz h0 h1 hm
      go_enter Tryz.func19, Tryz.ntmps19
      go_wp2_with fail
      refine HG.out.mono ?_
      rintro e w1 ⟨u, rfl, hf⟩
      obtain ⟨ua, uc, rfl⟩ := owns_slice hf.1
      rw [← HM.out]
      have HR1 := Lib.hid (HR0.out.on hf.2)
      obtain ⟨x, c0, c1, c2, f0, f1, f2⟩ := HR1.out.cells
      clear hf
      go_wp2_with fail
      obtain ⟨hl2, hb2⟩ := HR1.out.fill noBx
      exact bodyPost_ret (v := .tuple #[bxV noBx, .int .i64 7]) (results_ad2 Tryz.results19 _ _ (w.heap.size + 1) bxT _ (0, 0) _ rfl hl2 Tryz.underlying46 rfl sizeB) rfl ⟨rfl, hb2⟩
end Go.Proofs.YtegbkfloiiilfaaGreatDoor.Msg

/-
  Walks: Seen and its function literal, With, Lines.
-/
namespace Go.Proofs.YtegbkfloiiilfaaGreatDoor.Msg
open Go Go.RowKit
open Go.Proofs.YtegbkfloiiilfaaGreatDoor.Head
open Go.Proofs.YtegbkfloiiilfaaGreatDoor.Glyph (foldL fold_any)
open Go.Proofs.YtegbkfloiiilfaaGreatDoor.Sha (Kept wp_region_kept wp_region_kept_tail quiet_load_row)

/-! Seen. -/
/-- Does a value end with this? -/
def sfxB (p : List UInt8) (v : ByteArray) : Bool := Lib.hasSuffix (foldL (bl v)) p
abbrev seenF (g : Nat) : Value := .func (.func 55) #[] #[.pointer (some ⟨g, 0, none⟩)]
set_option maxRecDepth 100000 in
set_option maxHeartbeats 1000000 in
theorem seen1_any (v : ByteArray) (p : List UInt8) (g : Nat) (w : World) (hs : v.size ≤ 1000000) (hc : w.cell? ⟨g, 0, none⟩ = some (.string (ba p))) :
    Calls Tryz.prog 55 #[.string v, .pointer (some ⟨g, 0, none⟩)] w fun e w' => e = .returned (.bool (sfxB p v)) ∧ Below w.heap.size w w' := by
  have hg := cell_lt hc
  have HC : Hid (∀ W, Kept w W → W.cell? ⟨g, 0, none⟩ = some (.string (ba p))) := Lib.hid (fun W hk => by rw [hk.below.cell (p := ⟨g, 0, none⟩) hg]; exact hc)
  have HF : Hid (∀ W, Calls Tryz.prog 50 #[.string v] W fun e w' => e = .returned (.string (ba (foldL (bl v)))) ∧ Below W.heap.size W w') := Lib.hid (fun W => fold_any v W hs)
  have HS : Hid (∀ W, Calls Tryz.prog 56 #[.string (ba (foldL (bl v))), .string (ba p)] W fun e w' => e = .returned (.bool (sfxB p v)) ∧ W = w') := Lib.hid (fun W => (Tryz.strings_HasSuffix (ba (foldL (bl v))) (ba p) W (by rw [ba_size]; unfold foldL; rw [List.length_map, bl_len]; omega)).mono fun e w' ⟨h1, h2⟩ => ⟨by rw [h1]; unfold sfxB; simp, h2.symm⟩)
  generalize ba (foldL (bl v)) = fv at *
  generalize sfxB p v = r at *
  generalize ba p = pb at *
  clear hc hg
  go_enter Tryz.func55, Tryz.ntmps55
  go_wp2_with fail
  refine wp_region_kept (by kernel_rfl) (by kernel_rfl) ?_
  repeat (first
    | (go_big_quiet_want
       first
         | refine quiet_load_str 9 (.tmp 1) rfl ⟨g, 0, none⟩ rfl (.string pb) (fun w' hk => HC.out w' hk) Tryz.underlying9 ?_
       go_simp
       go_big_quiet_on)
    | (go_big_quiet_step ((first | (exact fun _ => rfl) | (intro hk; go_at_call 50; exact hk.call (HF.out _)) | (intro hk; go_at_call 56; exact hk.call_same (HS.out _))))))
  refine wpQuiet_nil ?_
  intro W2 hk2
  have HK2 := Lib.hid hk2.below
  clear hk2
  go_wp2_with fail
  go_ret
  exact ⟨rfl, HK2.out⟩
set_option maxRecDepth 100000 in
set_option maxHeartbeats 1000000 in
theorem indexT_any (u : Value) (T : List ByteArray) (p : List UInt8) (g : Nat) (w : World) (hv : ReadsS w u T) (hl : T.length ≤ 1000000) (hs : ∀ x ∈ T, x.size ≤ 1000000) (hc : w.cell? ⟨g, 0, none⟩ = some (.string (ba p))) :
    Calls Tryz.prog 87 #[u, seenF g] w fun e w' => ∃ x : Int, e = .returned (.int .i64 x) ∧ decide (0 ≤ x) = T.any (sfxB p) ∧ Below w.heap.size w w' := by
  obtain ⟨n, hn⟩ : ∃ n, n = T.length := ⟨_, rfl⟩
  obtain ⟨va, vc, rfl⟩ : ∃ a c, u = .slice a n c := by
    rcases hv with ⟨a, c, rfl, rfl⟩ | ⟨b, c, rfl, _⟩
    · exact ⟨a, c, by rw [hn]; rfl⟩
    · exact ⟨_, c, by rw [hn]⟩
  have HV : Hid (∀ i x, T[i]? = some x → ∃ b, va = some ⟨b, 0, none⟩ ∧ b < w.heap.size ∧ w.cell? ⟨b, i, none⟩ = some (.string x)) := Lib.hid (by
    intro i x hi
    rcases hv with ⟨a, c, _, h⟩ | ⟨b, c, h, _, _, h1, h2⟩
    · rw [h] at hi; simp at hi
    · obtain ⟨rfl, _, _⟩ := Value.slice.inj h
      exact ⟨b, rfl, h1, h2 i x hi⟩)
  have HNN := Lib.hid hn
  have hnb : n ≤ 1000000 := by omega
  have HC := Lib.hid hc
  have HS := Lib.hid hs
  clear hv hn hl hc hs
  go_enter Tryz.func87, Tryz.ntmps87
  go_wp2_with fail
  go_loopw [8] (fun i wr => ∃ k : Nat, k ≤ n ∧ i = .int .i64 k ∧ Hid ((T.take k).any (sfxB p) = false ∧ Below w.heap.size w wr)) (fun i _ => n - (intOf i).toNat)
  case atStart => exact ⟨0, Nat.zero_le _, rfl, Lib.hid ⟨by simp, Below.refl _ _⟩⟩
  case round =>
    obtain ⟨k, hk, rfl, hall⟩ := hrel
    by_cases hlt : k < n
    · obtain ⟨x, hx⟩ : ∃ a, T[k]? = some a := ⟨T[k]'(by have := HNN.out; omega), List.getElem?_eq_getElem _⟩
      obtain ⟨b, rfl, hb0, hcell0⟩ := HV.out k x hx
      have hcell : wr.cell? ⟨b, k, none⟩ = some (.string x) := by rw [hall.out.2.cell (p := ⟨b, k, none⟩) hb0]; exact hcell0
      have HL := Lib.hid (seen1_any x p g wr (HS.out x (List.mem_of_getElem? hx)) (by rw [hall.out.2.cell (p := ⟨g, 0, none⟩) (cell_lt HC.out)]; exact HC.out))
      clear hcell0
      cases hb : sfxB p x
      · have HN := Lib.hid (any_take hx hall.out.1 hb)
        rw [hb] at HL
        clear hx hb
        go_wp2_with fail
        refine HL.out.mono ?_
        rintro e w1 ⟨rfl, hb⟩
        have HB := Lib.hid (And.intro HN.out (hall.out.2.trans (hb.mono hall.out.2.size)))
        clear hb
        go_wp2_with fail
        go_roundw
        case rel => exact ⟨k + 1, by omega, by simp, HB⟩
        case measure => simp [intOf]; omega
      · have HE : Hid (T.any (sfxB p) = true) := Lib.hid (List.any_eq_true.2 ⟨x, List.mem_of_getElem? hx, hb⟩)
        rw [hb] at HL
        clear hx hb
        go_wp2_with fail
        refine HL.out.mono ?_
        rintro e w1 ⟨rfl, hb⟩
        have HB := Lib.hid (hall.out.2.trans (hb.mono hall.out.2.size))
        clear hb
        go_wp2_with fail
        go_ret
        exact ⟨_, rfl, by rw [HE.out]; exact decide_eq_true (by omega), HB.out⟩
    · have HE : Hid (T.any (sfxB p) = false) := Lib.hid (by
        have h := hall.out.1
        rw [List.take_of_length_le (by have := HNN.out; omega)] at h
        exact h)
      go_wp2_with fail
      go_ret
      exact ⟨_, rfl, by rw [HE.out]; rfl, hall.out.2⟩
set_option maxRecDepth 100000 in
set_option maxHeartbeats 1000000 in
theorem containsT_any (u : Value) (T : List ByteArray) (p : List UInt8) (g : Nat) (w : World) (hv : ReadsS w u T) (hl : T.length ≤ 1000000) (hs : ∀ x ∈ T, x.size ≤ 1000000) (hc : w.cell? ⟨g, 0, none⟩ = some (.string (ba p))) :
    Calls Tryz.prog 54 #[u, seenF g] w fun e w' => e = .returned (.bool (T.any (sfxB p))) ∧ Below w.heap.size w w' := by
  have HX := Lib.hid (indexT_any u T p g w hv hl hs hc)
  clear hv
  go_enter Tryz.func54, Tryz.ntmps54
  go_wp2_with fail
  refine HX.out.mono ?_
  rintro e w1 ⟨x, rfl, hx, hb⟩
  have HE := Lib.hid (And.intro hx hb)
  clear hx hb
  go_wp2_with fail
  go_ret
  exact ⟨ret_bool HE.out.1, HE.out.2⟩
abbrev listN : List UInt8 := [76, 105, 115, 116, 45, 73, 100]
theorem seen_split (x : List UInt8) (T : List ByteArray) : seenB x T = T.any (sfxB (idL x)) := rfl
theorem id_end (x : ByteArray) : ba (idL (bl x)) = ((⟨#[60]⟩ : ByteArray) ++ ba (foldL (bl x))) ++ ⟨#[62]⟩ := by
  apply bl_inj
  rw [bl_ba]
  show _ = (((⟨#[60]⟩ : ByteArray) ++ ba (foldL (bl x))) ++ ⟨#[62]⟩ : ByteArray).data.toList
  rw [ByteArray.data_append, ByteArray.data_append]
  simp [idL]
set_option maxRecDepth 100000 in
set_option maxHeartbeats 1000000 in
theorem seen_any (v : Value) (q : List Head.Fd) (b list : ByteArray) (w : World) (hv : ReadsF w v q) (hq : q.length ≤ 1000) (hs : ∀ f ∈ q, f.n.size ≤ 1000000) (hvs : ∀ f ∈ q, f.v.size ≤ 1000000) (hz : list.size ≤ 1000000) :
    Calls Tryz.prog 29 #[msV v b, .string list] w fun e w' => e = .returned (.bool (seenB (bl list) (allL (foldL listN) q))) ∧ Below w.heap.size w w' := by
  obtain ⟨va, vc, rfl⟩ := hv.shape
  obtain ⟨n, hn⟩ : ∃ n, n = q.length := ⟨_, rfl⟩
  rw [← hn] at hv ⊢
  have HA : Hid (Below w.heap.size w (w.alloc (boxM msT (.slice va n vc) b))) := Lib.hid ((Below.refl _ _).alloc (Nat.le_refl _) _)
  have HR := Lib.hid (new_boxM w msT (.slice va n vc) b)
  have HL : Hid (w.heap.size < (w.alloc (boxM msT (.slice va n vc) b)).heap.size) := Lib.hid (by simp)
  have HF : Hid (∀ W, Calls Tryz.prog 50 #[.string list] W fun e w' => e = .returned (.string (ba (foldL (bl list)))) ∧ Below W.heap.size W w') := Lib.hid (fun W => fold_any list W hz)
  have HG : Hid (∀ W, Below w.heap.size w W → Calls Tryz.prog 45 #[.slice va n vc, .string ⟨#[76, 105, 115, 116, 45, 73, 100]⟩] W fun e w' => ∃ u, e = .returned u ∧ TxAt W w' u (allL (foldL listN) q)) := Lib.hid (fun W h => all_any _ q ⟨#[76, 105, 115, 116, 45, 73, 100]⟩ W (hv.below h) (by omega) hs (by decide))
  have hTs := all_size (p := foldL listN) hvs
  have hTl : (allL (foldL listN) q).length ≤ 1000000 := by
    have : (allL (foldL listN) q).length ≤ q.length := by
      unfold allL
      rw [List.length_map]
      exact (List.filter_sublist (p := nmB (foldL listN)) (l := q)).length_le
    omega
  rw [seen_split]
  have hid := id_end list
  have hfz : (ba (foldL (bl list))).size ≤ 1000000 := by rw [ba_size]; unfold foldL; rw [List.length_map, bl_len]; omega
  have HT := Lib.hid (fun u g W (h1 : ReadsS W u (allL (foldL listN) q)) (h2 : W.cell? ⟨g, 0, none⟩ = some (.string (ba (idL (bl list))))) => containsT_any u (allL (foldL listN) q) (idL (bl list)) g W h1 hTl hTs h2)
  generalize allL (foldL listN) q = T at *
  generalize T.any (sfxB (idL (bl list))) = r at *
  rw [hid] at HT
  generalize ba (foldL (bl list)) = fl at *
  have HID : Hid (∀ W : World, (W.alloc (.cells #[.string ((⟨#[60]⟩ ++ fl) ++ ⟨#[62]⟩)] strT)).cell? ⟨W.heap.size, 0, none⟩ = some (.string ((⟨#[60]⟩ ++ fl) ++ ⟨#[62]⟩))) := Lib.hid (fun W => new_str W _)
  clear hv hn hs hq hvs hz hTs hTl hid
  go_enter Tryz.func29, Tryz.ntmps29
  go_wp2_with fail
  refine (HF.out _).mono ?_
  rintro e w1 ⟨rfl, hb⟩
  have HB1 := Lib.hid (HA.out.trans (hb.mono HA.out.size))
  have HB1b := Lib.hid hb
  have hal : Below w1.heap.size w1 (w1.alloc (.cells #[.string ((⟨#[60]⟩ ++ fl) ++ ⟨#[62]⟩)] strT)) := (Below.refl _ _).alloc (Nat.le_refl _) _
  have HAL := Lib.hid hal
  obtain ⟨c0, c1⟩ := twoM (range_below HR.out HL.out (hb.trans (hal.mono hb.size)))
  have HG1 := Lib.hid (HG.out _ (HB1.out.trans (hal.mono HB1.out.size)))
  clear hb hal
  go_wp2_with fail
  refine HG1.out.mono ?_
  rintro e w2 ⟨u, rfl, hf⟩
  have hz1 : (w1.alloc (.cells #[.string ((⟨#[60]⟩ ++ fl) ++ ⟨#[62]⟩)] strT)).heap.size = w1.heap.size + 1 := by simp
  have HT1 := Lib.hid (HT.out u w1.heap.size w2 (owns_readsS hf.1) (by
    rw [hf.2.cell (p := ⟨w1.heap.size, 0, none⟩) (by rw [hz1]; exact Nat.lt_succ_self _)]
    exact HID.out w1))
  have HB2 := Lib.hid (HB1.out.trans ((HAL.out.trans (hf.2.mono HAL.out.size)).mono HB1.out.size))
  obtain ⟨ua, uc, rfl⟩ := owns_slice hf.1
  clear hf hz1 c0 c1
  go_wp2_with fail
  refine HT1.out.mono ?_
  rintro e w3 ⟨rfl, hb⟩
  have HB3 := Lib.hid (HB2.out.trans (hb.mono HB2.out.size))
  clear hb
  go_wp2_with fail
  go_ret
  exact ⟨rfl, HB3.out⟩

/-! Lines. -/
theorem split_any (s : ByteArray) (w : World) (hs : s.size ≤ 100000000) (hm : MaxAt w) :
    Calls Tryz.prog 57 #[.string s, .string endS] w fun e w' => e = .returned (.slice (some ⟨w.heap.size, 0, none⟩) (spl (bl s)).length (spl (bl s)).length) ∧ w' = w.alloc (.cells (((spl (bl s)).map ba).map Value.string).toArray strT) := by
  obtain ⟨m, hm⟩ := hm
  have HS := Tryz.strings_Split s endS m w (by omega) hm (by decide)
  rw [spl_split s.size s (Nat.le_refl _)] at HS
  have hlen := Lib.splitB_all endS (by decide) 0 _ s rfl
  rw [spl_split s.size s (Nat.le_refl _), List.length_map] at hlen
  rw [← hlen] at HS
  exact HS
/-- The lines, in memory. -/
theorem lines_mem (s : List UInt8) (w : World) (hz : (spl s).length ≤ 1000000) (O : List (List UInt8)) (hO : ∃ t, spl s = O ++ t) : ReadsS (w.alloc (.cells (((spl s).map ba).map Value.string).toArray strT)) (.slice (some ⟨w.heap.size, 0, none⟩) O.length (spl s).length) (O.map ba) := by
  obtain ⟨t, ht⟩ := hO
  refine .inr ⟨w.heap.size, (spl s).length, by rw [List.length_map], by rw [List.length_map, ht, List.length_append]; omega, by omega, by simp, fun i x hi => ?_⟩
  rw [cell_of_row _ _ _ _ _ _ (heap_alloc_new w _)]
  rw [List.getElem?_toArray, List.getElem?_map, ht, List.map_append, List.getElem?_append_left (List.getElem?_eq_some_iff.1 hi).1, hi]
  rfl
set_option maxRecDepth 100000 in
set_option maxHeartbeats 1000000 in
theorem lines_any (a : Option Addr) (n c : Nat) (b : ByteArray) (w : World) (hb : b.size ≤ 100000) (hm : MaxAt w) :
    Calls Tryz.prog 32 #[msV (.slice a n c) b] w fun e w' => ∃ u, e = .returned u ∧ ReadsS w' u ((linL (bl b)).map ba) ∧ Below w.heap.size w w' := by
  obtain ⟨W0, hW0⟩ : ∃ W0, W0 = w.alloc (boxM msT (.slice a n c) b) := ⟨_, rfl⟩
  have hal : Below w.heap.size w W0 := by rw [hW0]; exact (Below.refl _ _).alloc (Nat.le_refl _) _
  obtain ⟨O, l, hO⟩ := spl_last (bl b)
  have HE := Lib.hid (linL_end hO)
  have HS := split_any b W0 (by omega) (hm.below hal)
  have hcnt := spl_count b.size (bl b) (by rw [bl_len]; exact Nat.le_refl _)
  rw [bl_len] at hcnt
  have HMO := lines_mem (bl b) W0 (by omega) O ⟨[l], hO⟩
  have HMA := lines_mem (bl b) W0 (by omega) (spl (bl b)) ⟨[], by simp⟩
  have hlen : (spl (bl b)).length = O.length + 1 := by rw [hO]; simp
  have hlast : (W0.alloc (.cells (((spl (bl b)).map ba).map Value.string).toArray strT)).cell? ⟨W0.heap.size, O.length, none⟩ = some (.string (ba l)) := by
    rw [cell_of_row _ _ _ _ _ _ (heap_alloc_new W0 _)]
    rw [List.getElem?_toArray, hO]
    simp
  have HB : Hid (Below w.heap.size w (W0.alloc (.cells (((spl (bl b)).map ba).map Value.string).toArray strT))) := Lib.hid (hal.alloc hal.size _)
  obtain ⟨cs, hcs⟩ : ∃ cs, cs = (((spl (bl b)).map ba).map Value.string).toArray := ⟨_, rfl⟩
  rw [← hcs] at HS HB HMO HMA hlast
  rw [hlen] at HS HMO HMA
  have HMAH : Hid (ReadsS (W0.alloc (.cells cs strT)) (.slice (some ⟨W0.heap.size, 0, none⟩) (O.length + 1) (O.length + 1)) ((O ++ [l]).map ba)) := Lib.hid (by rw [← hO]; exact HMA)
  have HMOH := Lib.hid HMO
  have HSH := Lib.hid HS
  obtain ⟨k, hk⟩ : ∃ k, k = O.length := ⟨_, rfl⟩
  have hkz : k ≤ 1000000 := by omega
  rw [← hk] at HSH HMOH HMAH hlast
  have hem : (ba l).toList.isEmpty = decide (l = []) := by rw [empty_any, bl_ba]; cases l <;> rfl
  clear hcs hcnt hlen HMO HMA HS hO hk hal
  generalize linL (bl b) = L at *
  subst hW0
  obtain ⟨g, hg⟩ : ∃ g, g = (w.alloc (boxM msT (.slice a n c) b)).heap.size := ⟨_, rfl⟩
  rw [← hg] at HSH HMOH HMAH hlast
  obtain ⟨W1, hW1⟩ : ∃ W1, W1 = (w.alloc (boxM msT (.slice a n c) b)).alloc (.cells cs strT) := ⟨_, rfl⟩
  rw [← hW1] at HSH HMOH HMAH hlast HB
  by_cases hl : l = []
  · rw [decide_eq_true hl] at hem
    rw [if_pos hl] at HE
    clear hW1 hg hl
    generalize ba l = lb at *
    go_enter Tryz.func32, Tryz.ntmps32
    go_wp2_with fail
    refine HSH.out.mono ?_
    rintro e w1 ⟨rfl, rfl⟩
    go_wp2_with fail
    go_ret
    exact ⟨_, rfl, by rw [HE.out]; exact HMOH.out, HB.out⟩
  · rw [decide_eq_false hl] at hem
    rw [if_neg hl] at HE
    clear hW1 hg hl
    generalize ba l = lb at *
    go_enter Tryz.func32, Tryz.ntmps32
    go_wp2_with fail
    refine HSH.out.mono ?_
    rintro e w1 ⟨rfl, rfl⟩
    go_wp2_with fail
    go_ret
    exact ⟨_, rfl, by rw [HE.out]; exact HMAH.out, HB.out⟩

/-! With. -/
set_option maxRecDepth 100000 in
set_option maxHeartbeats 4000000 in
theorem with_any (v : Value) (q : List Head.Fd) (b name value : ByteArray) (w : World) (hv : ReadsF w v q) (hq : q.length ≤ 1000) (hs : ∀ f ∈ q, f.n.size ≤ 1000000) (hz : name.size ≤ 1000000) :
    Calls Tryz.prog 34 #[msV v b, .string name, .string value] w fun e w' => ∃ u, e = .returned (msV u b) ∧ FdsAt w w' u (putL (foldL (bl name)) ⟨name, value⟩ q) := by
  obtain ⟨va, vc, rfl⟩ := hv.shape
  obtain ⟨n, hn⟩ : ∃ n, n = q.length := ⟨_, rfl⟩
  rw [← hn] at hv ⊢
  obtain ⟨W2, hW2⟩ : ∃ W2, W2 = (((w.alloc (boxM msT (.slice va n vc) b)).alloc (boxM msT (.slice none 0 0) ⟨#[]⟩)).alloc (boxF fdT ⟨name, value⟩)) := ⟨_, rfl⟩
  have hz1 : (w.alloc (boxM msT (.slice va n vc) b)).heap.size = w.heap.size + 1 := by simp
  have hz2 : ((w.alloc (boxM msT (.slice va n vc) b)).alloc (boxM msT (.slice none 0 0) ⟨#[]⟩)).heap.size = w.heap.size + 2 := by simp
  have hz3 : W2.heap.size = w.heap.size + 3 := by rw [hW2]; simp
  have a1 : Below w.heap.size w (w.alloc (boxM msT (.slice va n vc) b)) := (Below.refl _ _).alloc (Nat.le_refl _) _
  have a2 : Below (w.alloc (boxM msT (.slice va n vc) b)).heap.size (w.alloc (boxM msT (.slice va n vc) b)) ((w.alloc (boxM msT (.slice va n vc) b)).alloc (boxM msT (.slice none 0 0) ⟨#[]⟩)) := (Below.refl _ _).alloc (Nat.le_refl _) _
  have a3 : Below ((w.alloc (boxM msT (.slice va n vc) b)).alloc (boxM msT (.slice none 0 0) ⟨#[]⟩)).heap.size ((w.alloc (boxM msT (.slice va n vc) b)).alloc (boxM msT (.slice none 0 0) ⟨#[]⟩)) W2 := by rw [hW2]; exact (Below.refl _ _).alloc (Nat.le_refl _) _
  have hA : Below w.heap.size w W2 := a1.trans ((a2.trans (a3.mono a2.size)).mono a1.size)
  -- the message's box, the field's box, the result's box
  have hR : W2.rangeAt w.heap.size 0 (msC (.slice va n vc) b) := range_below (range_below (new_boxM w msT (.slice va n vc) b) (by simp) a2) (by rw [hz2]; omega) a3
  have hF : W2.rangeAt (w.heap.size + 2) 0 (fdC ⟨name, value⟩) := by
    have := new_boxF ((w.alloc (boxM msT (.slice va n vc) b)).alloc (boxM msT (.slice none 0 0) ⟨#[]⟩)) fdT ⟨name, value⟩
    rw [hz2] at this
    rw [hW2]
    exact this
  have hX : Res2 w (w.heap.size + 1) msT W2 := by
    refine ⟨⟨none, 0, 0, ⟨#[]⟩, ?_⟩, by omega, hA⟩
    have h1 := Lies.new (w.alloc (boxM msT (.slice va n vc) b)) #[.slice none 0 0, .string ⟨#[]⟩] msT
    rw [hz1] at h1
    exact h1.same (a3.block _ (by rw [hz2]; omega))
  have HA := Lib.hid hA
  have HR := Lib.hid hR
  have HF := Lib.hid hF
  have HX := Lib.hid hX
  have HZ := Lib.hid hz3
  have HPU : Hid (∀ W, Below W2.heap.size W2 W → Calls Tryz.prog 58 #[.slice va n vc, fdV ⟨name, value⟩] W fun e w' => ∃ ua un uc xa xn xc xb, e = .returned (.slice ua un uc) ∧ w'.cell? ⟨w.heap.size + 1, 0, none⟩ = some (.slice xa xn xc) ∧ w'.cell? ⟨w.heap.size + 1, 1, none⟩ = some (.string xb) ∧ w'.frozen? ⟨w.heap.size + 1, 0, none⟩ = false ∧ w'.frozen? ⟨w.heap.size + 1, 1, none⟩ = false ∧ w'.cell? ⟨w.heap.size, 0, none⟩ = some (.slice va n vc) ∧ w'.cell? ⟨w.heap.size, 0 + 1, none⟩ = some (.string b) ∧ w'.cell? ⟨w.heap.size + 2, 0, none⟩ = some (.string name) ∧ w'.cell? ⟨w.heap.size + 2, 0 + 1, none⟩ = some (.string value) ∧ Hid (Below W2.heap.size W2 w' ∧ w'.ownsRow W2.heap.size fdT 2 (.slice ua un uc) (putL (foldL (bl name)) ⟨name, value⟩ q).length ((putL (foldL (bl name)) ⟨name, value⟩ q).flatMap fdC))) := Lib.hid (fun W hb => by
    refine (put_any _ q ⟨name, value⟩ W (hv.below (hA.trans (hb.mono hA.size))) (by omega) hs hz).mono ?_
    rintro e w' ⟨u, rfl, ht⟩
    obtain ⟨ua, uc, rfl⟩ := owns_slice ht.1
    have hb' : Below W2.heap.size W2 w' := hb.trans (ht.2.mono hb.size)
    obtain ⟨c0, c1⟩ := twoM (range_below hR (by rw [hz3]; omega) hb')
    obtain ⟨d0, d1⟩ := two (range_below hF (by rw [hz3]; omega) hb')
    obtain ⟨xa, xn, xc, xb, e0, e1, f0, f1⟩ := (hX.on hb').cells
    exact ⟨ua, _, uc, xa, xn, xc, xb, rfl, e0, e1, f0, f1, c0, c1, d0, d1, Lib.hid ⟨hb', owns_low ht.1 hb.size⟩⟩)
  obtain ⟨c0, c1⟩ := twoM hR
  obtain ⟨d0, d1⟩ := two hF
  clear hv hn hs hq hz a1 a2 a3 hA hR hF hX hz1 hz2 hz3
  generalize putL (foldL (bl name)) ⟨name, value⟩ q = PL at *
  go_enter Tryz.func34, Tryz.ntmps34
  go_wp2_with fail
  rw [← hW2]
  clear hW2
  go_region_held (fun W => W.cell? ⟨w.heap.size, 0, none⟩ = some (.slice va n vc) ∧ W.cell? ⟨w.heap.size, 0 + 1, none⟩ = some (.string b) ∧ W.cell? ⟨w.heap.size + 2, 0, none⟩ = some (.string name) ∧ W.cell? ⟨w.heap.size + 2, 0 + 1, none⟩ = some (.string value)) (first | go_keep | (all_goals assumption)) ((go_at_call 58; with_reducible refine (HPU.out _ (by (repeat (first | assumption | exact Below.refl _ _ | with_reducible refine bel_drew ?_)))).mono ?_; rintro e wa ⟨ua, un, uc, xa, xn, xc, xb, rfl, e0, e1, f0, f1, sa0, sa1, sa2, sa3, hwa⟩))
  go_wp2_with fail
  obtain ⟨hl2, hb2⟩ := (HX.out.on hwa.out.1).fill (.slice ua un uc) b
  exact bodyPost_ret (v := msV (.slice ua un uc) b) (results_cell_row Tryz.results34 _ _ (w.heap.size + 1) msT _ (0, 0) _ rfl hl2 Tryz.underlying25 rfl sizeMs) rfl ⟨_, rfl, owns_low (owns_fill hwa.out.2 (by have := HZ.out; omega)) HA.out.size, hb2⟩
end Go.Proofs.YtegbkfloiiilfaaGreatDoor.Msg
