/-
  Walks of the document msg.
-/
import Derived.Test.YtegbkfloiiilfaaGreatDoorMgWalk
import Derived.Test.YtegbkfloiiilfaaGreatDoorMgHeadR
import Derived.Test.YtegbkfloiiilfaaGreatDoorMgHeadS
import Derived.Test.YtegbkfloiiilfaaGreatDoorMgMbxR

/-
  Walks of the document's answer: Parse, Text, Get, Word, Auto, Seen, From, Lines.
-/
namespace Go.Proofs.YtegbkfloiiilfaaGreatDoor.Msg
open Go Go.RowKit
open Go.Proofs.YtegbkfloiiilfaaGreatDoor.Head
open Go.Proofs.YtegbkfloiiilfaaGreatDoor.Glyph (foldL refFold_any)
open Go.Proofs.YtegbkfloiiilfaaGreatDoor.Mbx (Bx noBx bxC bxT rbT bxV oneL OneP one_bad one_good one_many refRead_any readL ReadP Res3 sizeRB three)
open Go.Proofs.YtegbkfloiiilfaaGreatDoor.Addr (results_ad2)
open Go.Proofs.YtegbkfloiiilfaaGreatDoor.Sha (Kept wp_region_kept wp_region_kept_tail quiet_load_row)

/-! Parse. -/
def RmPost (s : ByteArray) (w : World) (e : Ending) (w' : World) : Prop := ∃ v, e = .returned (.tuple #[msV v (ba (parseM (bl s)).2.2), .int .i64 (parseM (bl s)).1]) ∧ FdsR w w' v (parseM (bl s)).2.1
theorem RmPost.of {s : ByteArray} {w w' : World} {c : Nat} {F : List Head.Fd} {b : ByteArray} {v : Value} (h : parseM (bl s) = (c, F, bl b)) (hf : FdsR w w' v F) : RmPost s w (.returned (.tuple #[msV v b, .int .i64 c])) w' := by
  refine ⟨v, ?_, ?_⟩
  · rw [h, ba_bl]
  · rw [h]; exact hf
set_option maxRecDepth 100000 in
set_option maxHeartbeats 2000000 in
theorem rmparse_any (s : ByteArray) (w : World) (hs : s.size ≤ 1000000) :
    Calls Tryz.prog 12 #[.string s] w (RmPost s w) := by
  have HR0 := Lib.hid (Res2.start w rmT none 0 0 ⟨#[]⟩)
  have HP := Lib.hid (rparse_any s (w.alloc (boxM rmT (.slice none 0 0) ⟨#[]⟩)) hs)
  unfold RpPost at HP
  by_cases hl : 65536 < s.size
  · have d : (65536 : Int) < (s.size : Int) := by omega
    have HX := Lib.hid (parseM_long (s := bl s) (by rw [bl_len]; exact hl))
    go_enter Tryz.func12, Tryz.ntmps12
    go_wp2_with fail
    exact bodyPost_ret (v := .tuple #[msV (.slice none 0 0) ⟨#[]⟩, .int .i64 2]) (results_ad2 Tryz.results12 _ _ w.heap.size rmT _ (0, 0) _ rfl (Lies.new w #[.slice none 0 0, .string ⟨#[]⟩] rmT) Tryz.underlying31 rfl sizeRm) rfl (RmPost.of (c := 2) HX.out ⟨World.ownsRow_nil _ _ _ _, HR0.out.below⟩)
  · have d : ¬ (65536 : Int) < (s.size : Int) := by omega
    have hl' : ¬ 65536 < (bl s).length := by rw [bl_len]; exact hl
    by_cases hc : parseC (bl s) = 0
    · have HX := Lib.hid (parseM_good hl' hc)
      have HP2 : Hid (Calls Tryz.prog 38 #[.string s] (w.alloc (boxM rmT (.slice none 0 0) ⟨#[]⟩)) fun e w' => ∃ va vn vc, e = .returned (.tuple #[.slice va vn vc, .string (ba (parseB (bl s))), .int .i64 0]) ∧ FdsR (w.alloc (boxM rmT (.slice none 0 0) ⟨#[]⟩)) w' (.slice va vn vc) (parseF (bl s))) := Lib.hid (HP.out.mono fun e w' he => by
        obtain ⟨v, he, hf⟩ := he
        rw [hc] at he
        obtain ⟨va, vc, rfl⟩ := owns_slice hf.1
        exact ⟨va, _, vc, he, hf⟩)
      rw [← bl_ba (parseB (bl s))] at HX
      generalize parseF (bl s) = F at *
      generalize ba (parseB (bl s)) = b at *
      clear hc HP
      go_enter Tryz.func12, Tryz.ntmps12
      go_wp2_with fail
      refine HP2.out.mono ?_
      rintro e w1 ⟨va, vn, vc, rfl, hf⟩
      have HF := Lib.hid hf.1
      have HR1 := Lib.hid (HR0.out.on hf.2)
      obtain ⟨a0, n0, c0, x0, d0, d1, f0, f1⟩ := HR1.out.cells
      clear hf
      go_wp2_with fail
      obtain ⟨hl2, hb2⟩ := HR1.out.fill (.slice va vn vc) b
      exact bodyPost_ret (v := .tuple #[msV (.slice va vn vc) b, .int .i64 0]) (results_ad2 Tryz.results12 _ _ w.heap.size rmT _ (0, 0) _ rfl hl2 Tryz.underlying31 rfl sizeRm) rfl (RmPost.of (c := 0) HX.out ⟨owns_low (owns_fill HF.out (by simp)) (by simp), hb2⟩)
    · have HX := Lib.hid (parseM_bad hl' hc)
      have hq := int_ne hc
      have HP2 : Hid (Calls Tryz.prog 38 #[.string s] (w.alloc (boxM rmT (.slice none 0 0) ⟨#[]⟩)) fun e w' => ∃ v b, e = .returned (.tuple #[v, .string b, .int .i64 (parseC (bl s))]) ∧ Below (w.alloc (boxM rmT (.slice none 0 0) ⟨#[]⟩)).heap.size (w.alloc (boxM rmT (.slice none 0 0) ⟨#[]⟩)) w') := Lib.hid (HP.out.mono fun e w' he => by
        obtain ⟨v, he, hf⟩ := he
        exact ⟨v, _, he, hf.2⟩)
      generalize parseC (bl s) = c at *
      clear hc HP
      go_enter Tryz.func12, Tryz.ntmps12
      go_wp2_with fail
      refine HP2.out.mono ?_
      rintro e w1 ⟨v, b, rfl, hf⟩
      have HR1 := Lib.hid (HR0.out.on hf)
      obtain ⟨a0, n0, c0, x0, d0, d1, f0, f1⟩ := HR1.out.cells
      clear hf
      go_wp2_with fail
      obtain ⟨hl2, hb2⟩ := HR1.out.fill (.slice none 0 0) ⟨#[]⟩
      exact bodyPost_ret (v := .tuple #[msV (.slice none 0 0) ⟨#[]⟩, .int .i64 c]) (results_ad2 Tryz.results12 _ _ w.heap.size rmT _ (0, 0) _ rfl hl2 Tryz.underlying31 rfl sizeRm) rfl (RmPost.of HX.out ⟨World.ownsRow_nil _ _ _ _, hb2⟩)

/-! Text. -/
set_option maxRecDepth 100000 in
set_option maxHeartbeats 2000000 in
theorem rtext_any (v : Value) (q : List Head.Fd) (b : ByteArray) (w : World) (hv : ReadsF w v q) (hq : q.length ≤ 1000) (hs : ∀ f ∈ q, f.n.size ≤ 10000 ∧ f.v.size ≤ 10000) (hb : b.size ≤ 1000000) :
    Calls Tryz.prog 15 #[msV v b] w fun e w' => e = .returned (.string (ba (textL q (bl b)))) ∧ Below w.heap.size w w' := by
  obtain ⟨va, vc, rfl⟩ := hv.shape
  obtain ⟨n, hn⟩ : ∃ n, n = q.length := ⟨_, rfl⟩
  rw [← hn] at hv ⊢
  have HA : Hid (Below w.heap.size w (w.alloc (boxM rmT (.slice va n vc) b))) := Lib.hid ((Below.refl _ _).alloc (Nat.le_refl _) _)
  have HR := Lib.hid (new_boxM w rmT (.slice va n vc) b)
  have HL : Hid (w.heap.size < (w.alloc (boxM rmT (.slice va n vc) b)).heap.size) := Lib.hid (by simp)
  have HP := Lib.hid (fun W (h : Below w.heap.size w W) => rprint_any _ q W (hv.below h) hq hs)
  have hpz := printL_bound hq hs
  rw [text_end]
  generalize ba (printL q) = p at *
  clear hv hn hs hq
  go_enter Tryz.func15, Tryz.ntmps15
  go_wp2_with fail
  refine wp_region_kept (by kernel_rfl) (by kernel_rfl) ?_
  repeat (first
    | (go_big_quiet_want
       first
         | refine quiet_load_sl 29 65 (.tmp 3) rfl ⟨w.heap.size, 0, none⟩ rfl (.slice va n vc) (fun w' hk => (twoM (range_below HR.out HL.out hk)).1) Tryz.underlying29 ?_
         | refine quiet_load_str 9 (.tmp 7) rfl ⟨w.heap.size, 0 + 1, none⟩ rfl (.string b) (fun w' hk => (twoM (range_below HR.out HL.out hk)).2) Tryz.underlying9 ?_
       go_simp
       go_big_quiet_on)
    | (go_big_quiet_step ((first | (exact fun _ => rfl) | (intro hk; go_at_call 41; exact hk.call (HP.out _ (HA.out.trans (hk.below.mono HA.out.size))))))))
  refine wpQuiet_nil ?_
  intro W2 hk2
  have HK2 := Lib.hid (HA.out.trans (hk2.below.mono HA.out.size))
  clear hk2
  go_wp2_with fail
  go_ret
  exact ⟨rfl, HK2.out⟩

/-! Get, Word. -/
set_option maxRecDepth 100000 in
set_option maxHeartbeats 1000000 in
theorem rmget_any (v : Value) (q : List Head.Fd) (b name : ByteArray) (w : World) (hv : ReadsF w v q) (hq : q.length ≤ 1000) (hs : ∀ f ∈ q, f.n.size ≤ 1000000) (hz : name.size ≤ 1000000) :
    Calls Tryz.prog 22 #[msV v b, .string name] w fun e w' => e = .returned (.string (getL (foldL (bl name)) q)) ∧ Below w.heap.size w w' := by
  obtain ⟨va, vc, rfl⟩ := hv.shape
  obtain ⟨n, hn⟩ : ∃ n, n = q.length := ⟨_, rfl⟩
  rw [← hn] at hv ⊢
  have HA : Hid (Below w.heap.size w (w.alloc (boxM rmT (.slice va n vc) b))) := Lib.hid ((Below.refl _ _).alloc (Nat.le_refl _) _)
  have HG := Lib.hid (rget_any _ q name (w.alloc (boxM rmT (.slice va n vc) b)) (hv.below HA.out) (by omega) hs hz)
  generalize getL (foldL (bl name)) q = g at *
  generalize q.any (nmB (foldL (bl name))) = gb at *
  clear hv hn hs hq
  go_enter Tryz.func22, Tryz.ntmps22
  go_wp2_with fail
  refine HG.out.mono ?_
  rintro e w1 ⟨rfl, hb⟩
  have HB := Lib.hid (HA.out.trans (hb.mono HA.out.size))
  clear hb
  go_wp2_with fail
  go_ret
  exact ⟨rfl, HB.out⟩
theorem ends_ways (c : UInt8) : ((c.toNat : Int) != 59) = !(decide (c = 59)) ∧ ((c.toNat : Int) != 32) = !(decide (c = 32)) ∧ ((c.toNat : Int) != 9) = !(decide (c = 9)) := by
  have h : ∀ (k : Nat), k < 256 → ((c.toNat : Int) != (k : Int)) = !(decide (c = UInt8.ofNat k)) := fun k hk => by
    rw [Bool.eq_iff_iff, bne_iff_ne, Bool.not_eq_true', decide_eq_false_iff_not]
    constructor
    · intro h e
      apply h
      rw [e]
      have : (UInt8.ofNat k).toNat = k := by simp; omega
      rw [this]
    · intro h e
      apply h
      have : c.toNat = k := by omega
      rw [← this]
      simp
  exact ⟨h 59 (by omega), h 32 (by omega), h 9 (by omega)⟩
set_option maxRecDepth 100000 in
set_option maxHeartbeats 2000000 in
theorem rword_any (v : Value) (q : List Head.Fd) (b name : ByteArray) (w : World) (hv : ReadsF w v q) (hq : q.length ≤ 1000) (hs : ∀ f ∈ q, f.n.size ≤ 1000000) (hvs : ∀ f ∈ q, f.v.size ≤ 1000000) (hz : name.size ≤ 1000000) :
    Calls Tryz.prog 24 #[msV v b, .string name] w fun e w' => e = .returned (.string (ba (wordL (bl (getL (foldL (bl name)) q))))) ∧ Below w.heap.size w w' := by
  obtain ⟨va, vc, rfl⟩ := hv.shape
  obtain ⟨n, hn⟩ : ∃ n, n = q.length := ⟨_, rfl⟩
  rw [← hn] at hv ⊢
  have HA : Hid (Below w.heap.size w (w.alloc (boxM rmT (.slice va n vc) b))) := Lib.hid ((Below.refl _ _).alloc (Nat.le_refl _) _)
  have HG := Lib.hid (rmget_any _ q b name (w.alloc (boxM rmT (.slice va n vc) b)) (hv.below HA.out) hq hs hz)
  have hgz := getL_le (p := foldL (bl name)) hvs
  generalize getL (foldL (bl name)) q = g at *
  have HF := Lib.hid (fun (x : ByteArray) W (h : x.size ≤ 1000000) => refFold_any x W h)
  clear hv hn hs hq hvs
  go_enter Tryz.func24, Tryz.ntmps24
  go_wp2_with fail
  refine HG.out.mono ?_
  rintro e w1 ⟨rfl, hb⟩
  have HB := Lib.hid (HA.out.trans (hb.mono HA.out.size))
  clear hb
  go_wp2_with fail
  go_loopw [6] (fun i wr => ∃ k : Nat, k ≤ g.size ∧ i = .int .i64 k ∧ Hid (headW (bl g) = (bl g).take k ++ headW ((bl g).drop k)) ∧ w1 = wr) (fun i _ => g.size - (intOf i).toNat)
  case atStart => exact ⟨0, Nat.zero_le _, rfl, Lib.hid rfl, rfl⟩
  case round =>
    obtain ⟨k, hk, rfl, hW, rfl⟩ := hrel
    have hez : (g.extract 0 k).size ≤ 1000000 := by rw [ByteArray.size_extract]; omega
    have hext : bl (g.extract 0 k) = (bl g).take k := by rw [bl_extract]; simp
    by_cases hlt : k < g.size
    · have hget : (bl g)[k]? = some g[k] := by rw [List.getElem?_eq_getElem (by rw [bl_len]; exact hlt)]; rfl
      obtain ⟨t1, t2, t3⟩ := ends_ways g[k]
      have hee : ends g[k] = (decide (g[k] = 59) || decide (g[k] = 32) || decide (g[k] = 9)) := by
        unfold ends
        rw [Bool.eq_iff_iff]
        simp
      have HE1 : ends g[k] = true → Hid (ba (foldL (bl (g.extract 0 k))) = ba (wordL (bl g))) := fun h => Lib.hid (by unfold wordL; rw [head_here hget hW.out h, hext])
      have HE2 : ends g[k] = false → Hid (headW (bl g) = (bl g).take (k + 1) ++ headW ((bl g).drop (k + 1))) := fun h => Lib.hid (head_on hget hW.out h)
      rw [hee] at HE1 HE2
      generalize decide (g[k] = 59) = b1 at *
      generalize decide (g[k] = 32) = b2 at *
      generalize decide (g[k] = 9) = b3 at *
      clear hget hee hext
      rcases (show (b1 || b2 || b3) = true ∨ (b1 = false ∧ b2 = false ∧ b3 = false) from by cases b1 <;> cases b2 <;> cases b3 <;> simp) with hor | ⟨rfl, rfl, rfl⟩
      · have HE := HE1 hor
        have HF1 := Lib.hid (HF.out (g.extract 0 k) w1 hez)
        rw [show Glyph.ba (foldL (Glyph.bl (g.extract 0 k))) = ba (wordL (bl g)) from HE.out] at HF1
        clear HE1 HE2 hez
        rcases (show b1 = true ∨ (b1 = false ∧ b2 = true) ∨ (b1 = false ∧ b2 = false ∧ b3 = true) from by cases b1 <;> cases b2 <;> cases b3 <;> simp_all) with rfl | ⟨rfl, rfl⟩ | ⟨rfl, rfl, rfl⟩
        all_goals
          go_wp2_with fail
          refine HF1.out.mono ?_
          rintro e w3 ⟨rfl, hb⟩
          have HB3 := Lib.hid (HB.out.trans (hb.mono HB.out.size))
          clear hb
          go_wp2_with fail
          go_ret
          exact ⟨rfl, HB3.out⟩
      · have HE := HE2 rfl
        clear HE1 HE2 hez
        go_wp2_with fail
        go_roundw
        case rel => exact ⟨k + 1, by omega, by simp, HE, trivial⟩
        case measure => simp [intOf]; omega
    · have HE : Hid (ba (foldL (bl (g.extract 0 k))) = ba (wordL (bl g))) := Lib.hid (by
        unfold wordL
        rw [head_all (by rw [bl_len]; omega) hW.out, hext, List.take_of_length_le (by rw [bl_len]; omega)])
      have HF1 := Lib.hid (HF.out (g.extract 0 k) w1 hez)
      rw [show Glyph.ba (foldL (Glyph.bl (g.extract 0 k))) = ba (wordL (bl g)) from HE.out] at HF1
      clear hext hez
      go_wp2_with fail
      refine HF1.out.mono ?_
      rintro e w3 ⟨rfl, hb⟩
      have HB3 := Lib.hid (HB.out.trans (hb.mono HB.out.size))
      clear hb
      go_wp2_with fail
      go_ret
      exact ⟨rfl, HB3.out⟩

/-! Auto. -/
set_option maxRecDepth 100000 in
set_option maxHeartbeats 4000000 in
theorem rauto_any (v : Value) (q : List Head.Fd) (b : ByteArray) (w : World) (hv : ReadsF w v q) (hq : q.length ≤ 1000) (hs : ∀ f ∈ q, f.n.size ≤ 1000000) (hvs : ∀ f ∈ q, f.v.size ≤ 1000000) :
    Calls Tryz.prog 28 #[msV v b] w fun e w' => e = .returned (.bool (autoB (wordOf autoN q) (wordOf precN q))) ∧ Below w.heap.size w w' := by
  obtain ⟨va, vc, rfl⟩ := hv.shape
  obtain ⟨n, hn⟩ : ∃ n, n = q.length := ⟨_, rfl⟩
  rw [← hn] at hv ⊢
  have HA : Hid (Below w.heap.size w (w.alloc (boxM rmT (.slice va n vc) b))) := Lib.hid ((Below.refl _ _).alloc (Nat.le_refl _) _)
  have HR := Lib.hid (new_boxM w rmT (.slice va n vc) b)
  have HL : Hid (w.heap.size < (w.alloc (boxM rmT (.slice va n vc) b)).heap.size) := Lib.hid (by simp)
  have HW1 : Hid (Calls Tryz.prog 24 #[msV (.slice va n vc) b, .string ⟨#[65, 117, 116, 111, 45, 83, 117, 98, 109, 105, 116, 116, 101, 100]⟩] (w.alloc (boxM rmT (.slice va n vc) b)) fun e w' => e = .returned (.string (ba (wordOf autoN q))) ∧ Below (w.alloc (boxM rmT (.slice va n vc) b)).heap.size (w.alloc (boxM rmT (.slice va n vc) b)) w') := Lib.hid (rword_any _ q b ⟨#[65, 117, 116, 111, 45, 83, 117, 98, 109, 105, 116, 116, 101, 100]⟩ _ (hv.below HA.out) hq hs hvs (by decide))
  have HW2 : Hid (∀ W, Below w.heap.size w W → Calls Tryz.prog 24 #[msV (.slice va n vc) b, .string ⟨#[80, 114, 101, 99, 101, 100, 101, 110, 99, 101]⟩] W fun e w' => e = .returned (.string (ba (wordOf precN q))) ∧ Below W.heap.size W w') := Lib.hid (fun W h => rword_any _ q b ⟨#[80, 114, 101, 99, 101, 100, 101, 110, 99, 101]⟩ W (hv.below h) hq hs hvs (by decide))
  have HE : Hid (autoB (wordOf autoN q) (wordOf precN q) = ((!decide (wordOf autoN q = []) && !decide (wordOf autoN q = [110, 111])) || (decide (wordOf precN q = [98, 117, 108, 107]) || (decide (wordOf precN q = [106, 117, 110, 107]) || decide (wordOf precN q = [108, 105, 115, 116]))))) := Lib.hid rfl
  have h1 : (ba (wordOf autoN q)).toList.isEmpty = decide (wordOf autoN q = []) := by
    rw [empty_any, bl_ba]
    cases wordOf autoN q <;> rfl
  have h2 := lit_eq (ba (wordOf autoN q)) [110, 111]
  have h3 := lit_eq (ba (wordOf precN q)) [98, 117, 108, 107]
  have h4 := lit_eq (ba (wordOf precN q)) [106, 117, 110, 107]
  have h5 := lit_eq (ba (wordOf precN q)) [108, 105, 115, 116]
  rw [bl_ba] at h2 h3 h4 h5
  generalize autoB (wordOf autoN q) (wordOf precN q) = r at *
  generalize decide (wordOf autoN q = []) = b1 at *
  generalize decide (wordOf autoN q = [110, 111]) = b2 at *
  generalize decide (wordOf precN q = [98, 117, 108, 107]) = b3 at *
  generalize decide (wordOf precN q = [106, 117, 110, 107]) = b4 at *
  generalize decide (wordOf precN q = [108, 105, 115, 116]) = b5 at *
  generalize ba (wordOf autoN q) = x at *
  generalize ba (wordOf precN q) = y at *
  clear hv hn hs hq hvs
  rcases (show (b1 = false ∧ b2 = false) ∨ (b1 = false ∧ b2 = true ∧ b3 = true) ∨ (b1 = false ∧ b2 = true ∧ b3 = false ∧ b4 = true) ∨ (b1 = false ∧ b2 = true ∧ b3 = false ∧ b4 = false) ∨ (b1 = true ∧ b3 = true) ∨ (b1 = true ∧ b3 = false ∧ b4 = true) ∨ (b1 = true ∧ b3 = false ∧ b4 = false) from by cases b1 <;> cases b2 <;> cases b3 <;> cases b4 <;> simp) with ⟨rfl, rfl⟩ | ⟨rfl, rfl, rfl⟩ | ⟨rfl, rfl, rfl, rfl⟩ | ⟨rfl, rfl, rfl, rfl⟩ | ⟨rfl, rfl⟩ | ⟨rfl, rfl, rfl⟩ | ⟨rfl, rfl, rfl⟩
  all_goals
    go_enter Tryz.func28, Tryz.ntmps28
    go_wp2_with fail
    refine HW1.out.mono ?_
    rintro e w1 ⟨rfl, hb⟩
    have HB1 := Lib.hid (HA.out.trans (hb.mono HA.out.size))
    obtain ⟨c0, c1⟩ := twoM (range_below HR.out HL.out hb)
    clear hb
    go_wp2_with fail
    refine (HW2.out _ HB1.out).mono ?_
    rintro e w2 ⟨rfl, hb⟩
    have HB2 := Lib.hid (HB1.out.trans (hb.mono HB1.out.size))
    clear hb
    go_wp2_with fail
    go_ret
    exact ⟨ret_bool (by rw [HE.out]; first | rfl | (cases b5 <;> rfl) | (cases b2 <;> cases b5 <;> rfl)), HB2.out⟩
end Go.Proofs.YtegbkfloiiilfaaGreatDoor.Msg

/-
  Walks of the document's answer: Seen, From, Lines.
-/
namespace Go.Proofs.YtegbkfloiiilfaaGreatDoor.Msg
open Go Go.RowKit
open Go.Proofs.YtegbkfloiiilfaaGreatDoor.Head
open Go.Proofs.YtegbkfloiiilfaaGreatDoor.Glyph (foldL refFold_any)
open Go.Proofs.YtegbkfloiiilfaaGreatDoor.Mbx (Bx noBx bxC bxT rbT bxV oneL OneP one_bad one_good one_many refRead_any readL ReadP ReadsB Res3 sizeRB three)
open Go.Proofs.YtegbkfloiiilfaaGreatDoor.Addr (results_ad2)

/-! Seen. -/
/-- A list of texts, its shape, and where its texts stand. -/
theorem strs_shape {w : World} {u : Value} {T : List ByteArray} (hv : ReadsS w u T) {n : Nat} (hn : n = T.length) : ∃ a c, u = .slice a n c ∧ ∀ i x, T[i]? = some x → ∃ b, a = some ⟨b, 0, none⟩ ∧ b < w.heap.size ∧ w.cell? ⟨b, i, none⟩ = some (.string x) := by
  rcases hv with ⟨a, c, rfl, rfl⟩ | ⟨b, c, rfl, _, _, h1, h2⟩
  · exact ⟨a, c, by rw [hn]; rfl, fun i x hi => by simp at hi⟩
  · exact ⟨_, c, by rw [hn], fun i x hi => ⟨b, rfl, h1, h2 i x hi⟩⟩
set_option maxRecDepth 100000 in
set_option maxHeartbeats 4000000 in
theorem rseen_any (v : Value) (q : List Head.Fd) (b list : ByteArray) (w : World) (hv : ReadsF w v q) (hq : q.length ≤ 1000) (hs : ∀ f ∈ q, f.n.size ≤ 1000000) (hvs : ∀ f ∈ q, f.v.size ≤ 1000000) (hz : list.size ≤ 1000000) :
    Calls Tryz.prog 30 #[msV v b, .string list] w fun e w' => e = .returned (.bool (seenB (bl list) (allL (foldL listN) q))) ∧ Below w.heap.size w w' := by
  obtain ⟨va, vc, rfl⟩ := hv.shape
  obtain ⟨n, hn⟩ : ∃ n, n = q.length := ⟨_, rfl⟩
  rw [← hn] at hv ⊢
  have HA : Hid (Below w.heap.size w (w.alloc (boxM rmT (.slice va n vc) b))) := Lib.hid ((Below.refl _ _).alloc (Nat.le_refl _) _)
  have HR := Lib.hid (new_boxM w rmT (.slice va n vc) b)
  have HL : Hid (w.heap.size < (w.alloc (boxM rmT (.slice va n vc) b)).heap.size) := Lib.hid (by simp)
  have HF : Hid (∀ W, Calls Tryz.prog 51 #[.string list] W fun e w' => e = .returned (.string (ba (foldL (bl list)))) ∧ Below W.heap.size W w') := Lib.hid (fun W => refFold_any list W hz)
  have HG : Hid (∀ W, Below w.heap.size w W → Calls Tryz.prog 26 #[.slice va n vc, .string ⟨#[76, 105, 115, 116, 45, 73, 100]⟩] W fun e w' => ∃ u, e = .returned u ∧ TxAt W w' u (allL (foldL listN) q)) := Lib.hid (fun W h => rall_any _ q ⟨#[76, 105, 115, 116, 45, 73, 100]⟩ W (hv.below h) (by omega) hs (by decide))
  have HTS := Lib.hid (all_size (p := foldL listN) hvs)
  have hTl : (allL (foldL listN) q).length ≤ 1000000 := Nat.le_trans (all_le _ q) (by omega)
  have hfz : (ba (foldL (bl list))).size ≤ 1000000 := by rw [ba_size]; unfold foldL; rw [List.length_map, bl_len]; omega
  have hidz : (ba (idL (bl list))).size ≤ 1000002 := by
    rw [ba_size] at *
    unfold idL
    rw [List.length_cons, List.length_append]
    simp only [List.length_cons, List.length_nil]
    omega
  rw [seen_split]
  have hid := id_end list
  have HSF := Lib.hid (fun v => show sfxB (idL (bl list)) v = Lib.hasSuffix (ba (foldL (bl v))).data.toList (ba (idL (bl list))).data.toList by unfold sfxB; simp)
  generalize allL (foldL listN) q = T at *
  generalize idL (bl list) = P at *
  generalize ba (foldL (bl list)) = fl at *
  generalize hpb : ba P = pb at *
  have HID := Lib.hid hid
  have HFV := Lib.hid (fun (x : ByteArray) W (h : x.size ≤ 1000000) => refFold_any x W h)
  clear hv hn hs hq hvs hz hid hpb
  go_enter Tryz.func30, Tryz.ntmps30
  go_wp2_with fail
  refine (HF.out _).mono ?_
  rintro e w1 ⟨rfl, hb⟩
  have HB1 := Lib.hid (HA.out.trans (hb.mono HA.out.size))
  obtain ⟨c0, c1⟩ := twoM (range_below HR.out HL.out hb)
  have HG1 := Lib.hid (HG.out _ HB1.out)
  clear hb
  go_wp2_with fail
  rw [← HID.out]
  refine HG1.out.mono ?_
  rintro e w2 ⟨u, rfl, hf⟩
  have HB2 := Lib.hid (HB1.out.trans (hf.2.mono HB1.out.size))
  obtain ⟨m, hm⟩ : ∃ m, m = T.length := ⟨_, rfl⟩
  obtain ⟨ua, uc, rfl, hsh⟩ := strs_shape (owns_readsS hf.1) hm
  have HV := Lib.hid hsh
  have HMM := Lib.hid hm
  have hml : m ≤ 1000000 := by omega
  clear hf hsh hm c0 c1 hTl
  go_wp2_with fail
  go_loopw [7] (fun i wr => ∃ k : Nat, k ≤ m ∧ i = .int .i64 k ∧ Hid ((T.take k).any (sfxB P) = false ∧ Below w2.heap.size w2 wr)) (fun i _ => m - (intOf i).toNat)
  case atStart => exact ⟨0, Nat.zero_le _, rfl, Lib.hid ⟨by simp, Below.refl _ _⟩⟩
  case round =>
    obtain ⟨k, hk, rfl, hall⟩ := hrel
    by_cases hlt : k < m
    · obtain ⟨x, hx⟩ : ∃ a, T[k]? = some a := ⟨T[k]'(by have := HMM.out; omega), List.getElem?_eq_getElem _⟩
      obtain ⟨g, rfl, hg, hc⟩ := HV.out k x hx
      have hcell : wr.cell? ⟨g, k, none⟩ = some (.string x) := by rw [hall.out.2.cell (p := ⟨g, k, none⟩) hg]; exact hc
      have hxz := HTS.out x (List.mem_of_getElem? hx)
      have HF1 : Hid (Calls Tryz.prog 51 #[.string x] wr fun e w' => e = .returned (.string (ba (foldL (bl x)))) ∧ Below wr.heap.size wr w') := Lib.hid (HFV.out x wr hxz)
      have hraw := Lib.hasSuffix_raw (ba (foldL (bl x))) pb
      rw [← HSF.out x] at hraw
      have hyz : (ba (foldL (bl x))).size ≤ 1000000 := by rw [ba_size]; unfold foldL; rw [List.length_map, bl_len]; omega
      have HN1 : sfxB P x = false → Hid ((T.take (k + 1)).any (sfxB P) = false) := fun h => Lib.hid (any_take hx hall.out.1 h)
      have HE1 : sfxB P x = true → Hid (T.any (sfxB P) = true) := fun h => Lib.hid (List.any_eq_true.2 ⟨x, List.mem_of_getElem? hx, h⟩)
      generalize sfxB P x = r at *
      generalize ba (foldL (bl x)) = y at *
      clear hx hc hg
      by_cases hle : pb.size ≤ y.size
      · have d : (pb.size : Int) ≤ (y.size : Int) := by omega
        have hsub : (y.size : Int) - (pb.size : Int) = ((y.size - pb.size : Nat) : Int) := by omega
        rw [decide_eq_true hle, Bool.true_and] at hraw
        cases r
        · have HN := HN1 rfl
          clear HN1 HE1
          go_wp2_with fail
          refine HF1.out.mono ?_
          rintro e w3 ⟨rfl, hb⟩
          have HB3 := Lib.hid (And.intro HN.out (hall.out.2.trans (hb.mono hall.out.2.size)))
          clear hb
          go_wp2_with fail
          go_roundw
          case rel => exact ⟨k + 1, by omega, by simp, HB3⟩
          case measure => simp [intOf]; omega
        · have HE := HE1 rfl
          clear HN1 HE1
          go_wp2_with fail
          refine HF1.out.mono ?_
          rintro e w3 ⟨rfl, hb⟩
          have HB3 := Lib.hid (HB2.out.trans ((hall.out.2.trans (hb.mono hall.out.2.size)).mono HB2.out.size))
          clear hb
          go_wp2_with fail
          go_ret
          exact ⟨ret_bool (by rw [HE.out]), HB3.out⟩
      · have d : ¬ (pb.size : Int) ≤ (y.size : Int) := by omega
        rw [decide_eq_false hle, Bool.false_and] at hraw
        have HN := HN1 hraw.symm
        clear HN1 HE1 hraw
        go_wp2_with fail
        refine HF1.out.mono ?_
        rintro e w3 ⟨rfl, hb⟩
        have HB3 := Lib.hid (And.intro HN.out (hall.out.2.trans (hb.mono hall.out.2.size)))
        clear hb
        go_wp2_with fail
        go_roundw
        case rel => exact ⟨k + 1, by omega, by simp, HB3⟩
        case measure => simp [intOf]; omega
    · have HE : Hid (T.any (sfxB P) = false) := Lib.hid (by
        have h := hall.out.1
        rw [List.take_of_length_le (by have := HMM.out; omega)] at h
        exact h)
      have HB3 := Lib.hid (HB2.out.trans (hall.out.2.mono HB2.out.size))
      go_wp2_with fail
      go_ret
      exact ⟨ret_bool (by rw [HE.out]), HB3.out⟩

/-! From. -/
set_option maxRecDepth 100000 in
set_option maxHeartbeats 4000000 in
theorem rfrom_any (v : Value) (q : List Head.Fd) (b : ByteArray) (w : World) (hv : ReadsF w v q) (hq : q.length ≤ 1000) (hs : ∀ f ∈ q, f.n.size ≤ 1000000) (hvs : ∀ f ∈ q, f.v.size ≤ 5000) :
    Calls Tryz.prog 20 #[msV v b] w (OneP (fromL q) w) := by
  obtain ⟨va, vc, rfl⟩ := hv.shape
  obtain ⟨n, hn⟩ : ∃ n, n = q.length := ⟨_, rfl⟩
  rw [← hn] at hv ⊢
  have HA : Hid (Below w.heap.size w ((w.alloc (boxM rmT (.slice va n vc) b)).alloc (Mbx.boxB rbT noBx))) := Lib.hid (((Below.refl _ _).alloc (Nat.le_refl _) _).alloc (by simp) _)
  have HR0 : Hid (Res3 w (w.heap.size + 1) rbT ((w.alloc (boxM rmT (.slice va n vc) b)).alloc (Mbx.boxB rbT noBx))) := Lib.hid (by
    have hz : (w.alloc (boxM rmT (.slice va n vc) b)).heap.size = w.heap.size + 1 := by simp
    have := Lex.Lies.new (w.alloc (boxM rmT (.slice va n vc) b)) #[.string noBx.n, .string noBx.l, .string noBx.d] rbT
    rw [hz] at this
    exact ⟨⟨noBx, this⟩, by omega, HA.out⟩)
  have HG := Lib.hid (rall_any _ q ⟨#[70, 114, 111, 109]⟩ ((w.alloc (boxM rmT (.slice va n vc) b)).alloc (Mbx.boxB rbT noBx)) (hv.below HA.out) (by omega) hs (by decide))
  rw [show bl (⟨#[70, 114, 111, 109]⟩ : ByteArray) = fromN from rfl] at HG
  have hsz := all_size (p := foldL fromN) hvs
  have hTl : (allL (foldL fromN) q).length ≤ 1000 := Nat.le_trans (all_le _ q) hq
  unfold fromL
  generalize allL (foldL fromN) q = T at *
  clear hv hn hs hq hvs
  by_cases h0 : T.length = 0
  · obtain rfl := List.length_eq_zero_iff.1 h0
    clear hsz h0 hTl
    go_enter Tryz.func20, Tryz.ntmps20
    go_wp2_with fail
    refine HG.out.mono ?_
    rintro e w1 ⟨u, rfl, hf⟩
    obtain ⟨ua, uc, rfl⟩ := owns_slice hf.1
    have HR1 := Lib.hid (HR0.out.on hf.2)
    obtain ⟨x, c0, c1, c2, f0, f1, f2⟩ := HR1.out.cells
    rw [List.length_nil]
    clear hf
    go_wp2_with fail
    obtain ⟨hl2, hb2⟩ := HR1.out.fill noBx
    exact bodyPost_ret (v := .tuple #[bxV noBx, .int .i64 6]) (results_ad2 Tryz.results20 _ _ (w.heap.size + 1) rbT _ (0, 0) _ rfl hl2 Tryz.underlying51 rfl sizeRB) rfl ⟨rfl, hb2⟩
  · by_cases h1 : T.length = 1
    · obtain ⟨x, rfl⟩ : ∃ b, T = [b] := List.length_eq_one_iff.1 h1
      have HO : Hid (∀ W, Calls Tryz.prog 47 #[.string x] W (ReadP (readL (bl x)) W)) := Lib.hid (fun W => refRead_any x W (hsz x (by simp)))
      rw [show fromT [x] = oneL (bl x) from rfl]
      have HG2 : Hid (Calls Tryz.prog 26 #[.slice va n vc, .string ⟨#[70, 114, 111, 109]⟩] ((w.alloc (boxM rmT (.slice va n vc) b)).alloc (Mbx.boxB rbT noBx)) fun e w' => ∃ g c, e = .returned (.slice (some ⟨g, 0, none⟩) 1 c) ∧ w'.cell? ⟨g, 0, none⟩ = some (.string x) ∧ Below ((w.alloc (boxM rmT (.slice va n vc) b)).alloc (Mbx.boxB rbT noBx)).heap.size ((w.alloc (boxM rmT (.slice va n vc) b)).alloc (Mbx.boxB rbT noBx)) w') := Lib.hid (HG.out.mono fun e w' he => by
        obtain ⟨u, he, hf⟩ := he
        rcases owns_readsS hf.1 with ⟨a, c, _, h⟩ | ⟨g, c, h, _, _, _, h2⟩
        · cases h
        · exact ⟨g, c, by rw [he, h]; rfl, h2 0 x rfl, hf.2⟩)
      clear hsz h0 h1 hTl HG
      by_cases hr0 : (readL (bl x)).1 = 0
      · obtain ⟨B, hB⟩ : ∃ B, readL (bl x) = (0, B) := ⟨(readL (bl x)).2, by rw [← hr0]⟩
        have HR2 : Hid (∀ W, Calls Tryz.prog 47 #[.string x] W fun e W' => ∃ va vn vc, e = .returned (.tuple #[.slice va vn vc, .int .i64 0]) ∧ vn = B.length ∧ ReadsB W' (.slice va vn vc) B ∧ Below W.heap.size W W') := Lib.hid fun W => (HO.out W).mono fun e W' he => by
          obtain ⟨v, he, hr, hb⟩ := he
          rw [hB] at he hr
          obtain ⟨va, vc, rfl⟩ := hr.shape
          exact ⟨va, _, vc, he, rfl, hr, hb⟩
        by_cases h1 : B.length = 1
        · obtain ⟨bx, rfl⟩ : ∃ b, B = [b] := List.length_eq_one_iff.1 h1
          have HX : Hid (oneL (bl x) = (bx, 0)) := Lib.hid (one_good hB)
          clear hr0 hB HO h1
          go_enter Tryz.func20, Tryz.ntmps20
          go_wp2_with fail
          refine HG2.out.mono ?_
          rintro e w1 ⟨g, c, rfl, hg, hb⟩
          have HR1 := Lib.hid (HR0.out.on hb)
          clear hb
          go_wp2_with fail
          refine (HR2.out _).mono ?_
          rintro e w2 ⟨ba0, vn, bc0, rfl, hvn, hr, hb⟩
          obtain ⟨g2, o2, rfl, hg2, hrow⟩ := hr.at_ 0 bx rfl
          rw [Nat.zero_mul, Nat.add_zero] at hrow
          obtain ⟨d0, d1, d2⟩ := three hrow
          have HRR := Lib.hid (HR1.out.on hb)
          obtain ⟨y, c0, c1, c2, f0, f1, f2⟩ := HRR.out.cells
          have hq : ((vn : Int) != 1) = false := by rw [hvn]; rfl
          have hv0 : 0 < vn := by rw [hvn]; simp
          clear hb hr hrow hvn hg
          go_wp2_with fail
          obtain ⟨hl2, hb2⟩ := HRR.out.fill bx
          exact bodyPost_ret (v := .tuple #[bxV bx, .int .i64 0]) (results_ad2 Tryz.results20 _ _ (w.heap.size + 1) rbT _ (0, 0) _ rfl hl2 Tryz.underlying51 rfl sizeRB) rfl (OneP.of HX.out hb2)
        · have HX : Hid (oneL (bl x) = (noBx, 130)) := Lib.hid (one_many hB h1)
          clear hr0 hB HO
          go_enter Tryz.func20, Tryz.ntmps20
          go_wp2_with fail
          refine HG2.out.mono ?_
          rintro e w1 ⟨g, c, rfl, hg, hb⟩
          have HR1 := Lib.hid (HR0.out.on hb)
          clear hb
          go_wp2_with fail
          refine (HR2.out _).mono ?_
          rintro e w2 ⟨ba0, vn, bc0, rfl, hvn, hr, hb⟩
          have HRR := Lib.hid (HR1.out.on hb)
          obtain ⟨y, c0, c1, c2, f0, f1, f2⟩ := HRR.out.cells
          have hq : ((vn : Int) != 1) = true := by rw [bne_iff_ne, hvn]; omega
          clear hb hr hvn hg
          go_wp2_with fail
          obtain ⟨hl2, hb2⟩ := HRR.out.fill noBx
          exact bodyPost_ret (v := .tuple #[bxV noBx, .int .i64 130]) (results_ad2 Tryz.results20 _ _ (w.heap.size + 1) rbT _ (0, 0) _ rfl hl2 Tryz.underlying51 rfl sizeRB) rfl (OneP.of (c := 130) HX.out hb2)
      · have HX : Hid (oneL (bl x) = (noBx, (readL (bl x)).1)) := Lib.hid (one_bad hr0)
        have hne := int_ne hr0
        generalize readL (bl x) = R at *
        have HR2 : Hid (∀ W, Calls Tryz.prog 47 #[.string x] W fun e W' => ∃ v, e = .returned (.tuple #[v, .int .i64 R.1]) ∧ Below W.heap.size W W') := Lib.hid fun W => (HO.out W).mono fun e W' he => by
          obtain ⟨v, he, hr, hb⟩ := he
          exact ⟨v, he, hb⟩
        clear HO hr0
        go_enter Tryz.func20, Tryz.ntmps20
        go_wp2_with fail
        refine HG2.out.mono ?_
        rintro e w1 ⟨g, c, rfl, hg, hb⟩
        have HR1 := Lib.hid (HR0.out.on hb)
        clear hb
        go_wp2_with fail
        refine (HR2.out _).mono ?_
        rintro e w2 ⟨u, rfl, hb⟩
        have HRR := Lib.hid (HR1.out.on hb)
        obtain ⟨y, c0, c1, c2, f0, f1, f2⟩ := HRR.out.cells
        clear hb hg
        go_wp2_with fail
        obtain ⟨hl2, hb2⟩ := HRR.out.fill noBx
        exact bodyPost_ret (v := .tuple #[bxV noBx, .int .i64 R.1]) (results_ad2 Tryz.results20 _ _ (w.heap.size + 1) rbT _ (0, 0) _ rfl hl2 Tryz.underlying51 rfl sizeRB) rfl (OneP.of HX.out hb2)
    · rw [from_many h0 h1]
      have e0 : ((T.length : Int) == 0) = false := by rw [beq_eq_false_iff_ne]; omega
      have e1 : (1 : Int) < (T.length : Int) := by omega
      obtain ⟨m, hm⟩ : ∃ m, m = T.length := ⟨_, rfl⟩
      have HM := Lib.hid hm
      rw [← hm] at e0 e1
      clear hsz h0 h1 hm hTl
      go_enter Tryz.func20, Tryz.ntmps20
      go_wp2_with fail
      refine HG.out.mono ?_
      rintro e w1 ⟨u, rfl, hf⟩
      obtain ⟨ua, uc, rfl⟩ := owns_slice hf.1
      rw [← HM.out]
      have HR1 := Lib.hid (HR0.out.on hf.2)
      obtain ⟨x, c0, c1, c2, f0, f1, f2⟩ := HR1.out.cells
      clear hf
      go_wp2_with fail
      obtain ⟨hl2, hb2⟩ := HR1.out.fill noBx
      exact bodyPost_ret (v := .tuple #[bxV noBx, .int .i64 7]) (results_ad2 Tryz.results20 _ _ (w.heap.size + 1) rbT _ (0, 0) _ rfl hl2 Tryz.underlying51 rfl sizeRB) rfl ⟨rfl, hb2⟩

/-! Lines. -/
/-- The lines read so far, the line at hand, the place. -/
structure RlAt (s : ByteArray) (w wr : World) (u : Value) (O : List (List UInt8)) (L : ByteArray) (i : Nat) : Prop where
  own : TxAt w wr u (O.map ba)
  eq : spl (bl s) = O ++ glue (bl L) (spl ((bl s).drop i))
  few : O.length ≤ i
  size : L.size ≤ i
set_option maxRecDepth 100000 in
set_option maxHeartbeats 4000000 in
theorem rlins_any (a : Option Addr) (n c : Nat) (s : ByteArray) (w : World) (hs : s.size ≤ 100000) :
    Calls Tryz.prog 33 #[msV (.slice a n c) s] w fun e w' => ∃ u, e = .returned u ∧ TxAt w w' u ((linL (bl s)).map ba) := by
  have hal : Below w.heap.size w (w.alloc (boxM rmT (.slice a n c) s)) := (Below.refl _ _).alloc (Nat.le_refl _) _
  have HI : Hid (RlAt s w (w.alloc (boxM rmT (.slice a n c) s)) (.slice none 0 0) [] ⟨#[]⟩ 0) := Lib.hid ⟨(TxAt.start w).on hal, by rw [List.drop_zero, glue_nil (spl_ne _)]; rfl, Nat.le_refl _, Nat.le_refl _⟩
  clear hal
  go_enter Tryz.func33, Tryz.ntmps33
  go_wp2_with fail
  go_loopw [3, 4, 6] (fun u l i wr => ∃ (O : List (List UInt8)) (L : ByteArray) (k : Nat), k ≤ s.size ∧ i = .int .i64 k ∧ l = .string L ∧ L.size ≤ 100000 ∧ Hid (RlAt s w wr u O L k)) (fun _ _ i _ => s.size - (intOf i).toNat)
  case atStart => exact ⟨[], _, 0, Nat.zero_le _, rfl, rfl, Nat.zero_le _, HI⟩
  case round =>
    clear HI
    obtain ⟨O, L, i, hi, rfl, rfl, hLz, hI⟩ := hrel
    obtain ⟨ua, uc, rfl⟩ := owns_slice hI.out.own.1
    obtain ⟨m, hm⟩ : ∃ m, m = (O.map ba).length := ⟨_, rfl⟩
    have hmi : m ≤ i := by rw [hm, List.length_map]; exact hI.out.few
    rw [← hm] at hI ⊢
    have HMM := Lib.hid hm
    clear hm
    by_cases hlt : i < s.size
    · have hd := drop_cons s i hlt
      by_cases h13 : (s[i].toNat = 13 ∧ ∃ h : i + 1 < s.size, s[i + 1].toNat = 10)
      · obtain ⟨e13, h1, e10⟩ := h13
        have c13 : s[i] = 13 := by rw [← UInt8.toNat_inj]; exact e13
        have c10 : s[i + 1] = 10 := by rw [← UInt8.toNat_inj]; exact e10
        have t13 : ((s[i].toNat : Int) == 13) = true := by rw [e13]; rfl
        have t10 : ((s[i + 1].toNat : Int) == 10) = true := by rw [e10]; rfl
        obtain ⟨a', c', w4, hr, hh⟩ := hI.out.own.add HMM.out.symm L (by omega)
        have HR := Lib.hid hr
        have HN : Hid (RlAt s w w4 (.slice a' (m + 1) c') (O ++ [bl L]) ⟨#[]⟩ (i + 1 + 1)) := Lib.hid ⟨by rw [List.map_append, List.map_cons, List.map_nil, ba_bl]; exact hh.out, by
          rw [hI.out.eq, hd, drop_cons s (i + 1) h1, c13, c10, glue_here]
          simp, by rw [List.length_append]; have := hI.out.few; simp only [List.length_cons, List.length_nil]; omega, Nat.zero_le _⟩
        clear hr hh hd e13 e10 c13 c10
        go_wp2_with (at_builtin; refine Lib.wpList_append_run _ rfl _ _ _ _ rfl _ _ rfl rfl _ _ HR.out ?_)
        go_roundw
        case rel => exact ⟨_, _, i + 1 + 1, by omega, by simp, rfl, by decide, HN⟩
        case measure => simp [intOf]; omega
      · have hcr : crlf (s[i] :: (bl s).drop (i + 1)) = false := by
          cases hc : crlf (s[i] :: (bl s).drop (i + 1))
          · rfl
          · exfalso
            apply h13
            by_cases h1 : i + 1 < s.size
            · rw [drop_cons s (i + 1) h1] at hc
              simp only [crlf, Bool.and_eq_true, beq_iff_eq] at hc
              exact ⟨by rw [hc.1]; rfl, h1, by rw [hc.2]; rfl⟩
            · rw [drop_end s (i + 1) h1] at hc
              cases hc
        have hls := hI.out.size
        have hxz : (s.extract i (i + 1)).size = 1 := by rw [ByteArray.size_extract]; omega
        have hex : bl (s.extract i (i + 1)) = [s[i]] := by
          rw [bl_extract, hd, show i + 1 - i = 1 by omega]
          rfl
        have hNz : (L ++ s.extract i (i + 1)).size ≤ i + 1 := by rw [ByteArray.size_append, hxz]; omega
        have HN : Hid (RlAt s w wr (.slice ua m uc) O (L ++ s.extract i (i + 1)) (i + 1)) := Lib.hid ⟨hI.out.own, by
          rw [hI.out.eq, hd, glue_cons _ hcr, bl_app, hex], by have := hI.out.few; omega, hNz⟩
        clear hd hcr hex hls
        rcases (show s[i].toNat ≠ 13 ∨ (s[i].toNat = 13 ∧ ¬ i + 1 < s.size) ∨ (s[i].toNat = 13 ∧ ∃ h : i + 1 < s.size, s[i + 1].toNat ≠ 10) from by
          by_cases e : s[i].toNat = 13
          · by_cases h1 : i + 1 < s.size
            · exact .inr (.inr ⟨e, h1, fun h => h13 ⟨e, h1, h⟩⟩)
            · exact .inr (.inl ⟨e, h1⟩)
          · exact .inl e) with e | ⟨e, h1⟩ | ⟨e, h1, e2⟩
        · have t13 : ((s[i].toNat : Int) == 13) = false := by rw [beq_eq_false_iff_ne]; omega
          clear h13
          go_wp2_with fail
          go_roundw
          case rel => exact ⟨_, _, i + 1, by omega, by simp, rfl, by omega, HN⟩
          case measure => simp [intOf]; omega
        · have t13 : ((s[i].toNat : Int) == 13) = true := by rw [e]; rfl
          have d1 : ¬ (i : Int) + 1 < (s.size : Int) := by omega
          clear h13 e
          go_wp2_with fail
          go_roundw
          case rel => exact ⟨_, _, i + 1, by omega, by simp, rfl, by omega, HN⟩
          case measure => simp [intOf]; omega
        · have t13 : ((s[i].toNat : Int) == 13) = true := by rw [e]; rfl
          have t10 : ((s[i + 1].toNat : Int) == 10) = false := by rw [beq_eq_false_iff_ne]; omega
          clear h13 e e2
          go_wp2_with fail
          go_roundw
          case rel => exact ⟨_, _, i + 1, by omega, by simp, rfl, by omega, HN⟩
          case measure => simp [intOf]; omega
    · have hsp : spl (bl s) = O ++ [bl L] := by
        rw [hI.out.eq, drop_end s i hlt, glue_end]
      have HE := Lib.hid (linL_end hsp)
      have hem : L.toList.isEmpty = decide (bl L = []) := by rw [empty_any]; cases bl L <;> rfl
      clear hsp
      by_cases hl : bl L = []
      · rw [decide_eq_true hl] at hem
        rw [if_pos hl] at HE
        clear hl
        go_wp2_with fail
        go_ret
        exact ⟨_, rfl, by rw [HE.out, HMM.out]; have := hI.out.own; rw [HMM.out] at this; exact this⟩
      · rw [decide_eq_false hl] at hem
        rw [if_neg hl] at HE
        obtain ⟨a', c', w4, hr, hh⟩ := hI.out.own.add HMM.out.symm L (by omega)
        have HR := Lib.hid hr
        have HF : Hid (TxAt w w4 (.slice a' (m + 1) c') ((linL (bl s)).map ba)) := Lib.hid (by
          rw [HE.out, List.map_append, List.map_cons, List.map_nil, ba_bl]
          exact hh.out)
        clear hr hh hl
        go_wp2_with (at_builtin; refine Lib.wpList_append_run _ rfl _ _ _ _ rfl _ _ rfl rfl _ _ HR.out ?_)
        go_ret
        exact ⟨_, rfl, HF.out⟩
end Go.Proofs.YtegbkfloiiilfaaGreatDoor.Msg
