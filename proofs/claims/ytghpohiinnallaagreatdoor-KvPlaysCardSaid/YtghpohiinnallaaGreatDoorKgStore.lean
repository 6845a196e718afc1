/-
  A store in memory: apply, texts, what tells of it.
-/
import Derived.Test.YtghpohiinnallaaGreatDoorKgPairs
import Derived.Test.YtghpohiinnallaaGreatDoorKgLog
import Derived.Deep.Cut
import Derived.Test.YtghpohiinnallaaGreatDoorKgWal

/-
  Walks of the store: changes applied in one pass; the texts of pairs.
-/
namespace Go.Proofs.YtghpohiinnallaaGreatDoor.Kv
open Go Go.RowKit
open Go.Proofs.YtghpohiinnallaaGreatDoor.Batch
open Go.Proofs.YtghpohiinnallaaGreatDoor.Nets (Tab Reads Small str)

theorem make_pairs (n : Nat) (hn : n ≤ 1000000) (w : World) : ∃ w1, (Instr.makeSlice prsT (.int .i64 0) (.int .i64 (n : Int))).run Tryz.prog w = .ok (.slice (some ⟨w.heap.size, 0, none⟩) 0 n) w1 ∧
    Hid (w1.ownsRow w.heap.size prT 2 (.slice (some ⟨w.heap.size, 0, none⟩) 0 n) 0 [] ∧ Below w.heap.size w w1) := by
  obtain ⟨i0, hi, hz0, hz1, hz2⟩ := info_parts infoP
  obtain ⟨w1, h1, h2, h3⟩ := run_make_own (P := Tryz.prog) w w.heap.size prsT prT i0 _ 2 Tryz.underlying44 hi hz0 hz1 .i64 .i64 n (by rw [hz2]; omega) (by unfold maxLen; omega) (Nat.le_refl _)
  exact ⟨w1, h1, Lib.hid ⟨h2, (Below.refl _ w).grown h3 (Nat.le_refl _) fun k e => by cases e⟩⟩
/-- Pairs appended to an owned list, its length by a name. -/
theorem append_pn (n : Nat) {us : List Pr} (hn : us.length = n) (w : World) (B : Nat) (u v : Value) (ps : List Pr) (m : Nat) (hm : (us ++ ps).length = m) (ho : w.ownsRow B prT 2 u n (us.flatMap prC)) (hr : ReadsP w v ps) (hl : m ≤ 1000000) (hB : B ≤ w.heap.size) :
    ∃ a c w', (Builtin.append_ #[prsT, prsT] prsT #[u, v]).run Tryz.prog w = .ok (.slice a m c) w' ∧
      Hid (w'.ownsRow B prT 2 (.slice a m c) m ((us ++ ps).flatMap prC) ∧ Fr (fun k => u.ownBlock = some k) w w' ∧ Below B w w') := by
  subst hn hm
  rw [List.length_append] at hl
  obtain ⟨v', w', h1, h2⟩ := append_pairs w B u v us ps ho hr (by omega) (by omega) hB
  obtain ⟨a, c, rfl⟩ := owns_slice h2.out.1
  exact ⟨a, c, w', h1, Lib.hid ⟨h2.out.1, h2.out.2.1, h2.out.2.1.below hB fun k hk => (ho.lt k hk).1⟩⟩
theorem append_pn_own (n : Nat) {us : List Pr} (hn : us.length = n) (w : World) (B : Nat) (u v : Value) (ps : List Pr) (m : Nat) (hm : (us ++ ps).length = m) (ho : w.ownsRow B prT 2 u n (us.flatMap prC)) (hr : ReadsP w v ps) (hl : m ≤ 1000000) (hB : B ≤ w.heap.size)
    {x : Value} {w' : World} (h : (Builtin.append_ #[prsT, prsT] prsT #[u, v]).run Tryz.prog w = .ok x w') : True ∧ True ∧ ∀ k, x.ownBlock = some k → u.ownBlock = some k ∨ w.heap.size ≤ k := by
  subst hn hm
  rw [List.length_append] at hl
  obtain ⟨v', w2, h1, h2⟩ := append_pairs w B u v us ps ho hr (by omega) (by omega) hB
  rw [h1] at h
  obtain ⟨rfl, rfl⟩ : v' = x ∧ w2 = w' := by simpa using h
  exact ⟨trivial, trivial, h2.out.2.2⟩
/-- Between two rounds. -/
structure ApplyAt (w : World) (P : List Pr) (b : List Chg) (k : Nat) (A R : List Pr) (n : Nat) (u : Value) (wr : World) : Prop where
  pass : Pass P b k A R
  len : A.length = n
  own : wr.ownsRow w.heap.size prT 2 u n (A.flatMap prC)
  below : Below w.heap.size w wr
theorem take_append_len (A R : List Pr) (L : Nat) (h : L ≤ R.length) : (A ++ R.take L).length = A.length + L := by
  rw [List.length_append, List.length_take]; omega
theorem newL_one {c : Chg} (h : c.gone = false) : newL c = [prOf c] := by unfold newL; rw [if_neg (by simp [h])]
theorem newL_no {c : Chg} (h : c.gone = true) : newL c = [] := by unfold newL; rw [if_pos h]

/-- The first step of a round: what stands ahead of the place is appended. -/
theorem step_one {w : World} {P : List Pr} {b : List Chg} {k n : Nat} {A R : List Pr} {u v0 : Value} {wr w2 : World} (hA : ApplyAt w P b k A R n u wr) (hR : ReadsP w v0 R) {o : Obj} (hb2 : Below (wr.alloc o).heap.size (wr.alloc o) w2) (c : Chg) (L : Nat) (hL : L ≤ R.length) (hl : n + R.length ≤ 200000) (m m2 : Nat) (hm : m = n + L) (hm2 : m2 = m + 1) :
    ∀ sv, (v0 = .slice none 0 0 → sv = .slice none 0 0) → (∀ b' o' m' c', v0 = .slice (some ⟨b', o', none⟩) m' c' → sv = .slice (some ⟨b', o', none⟩) L c') →
    ∃ a3 c3 w3, (Builtin.append_ #[prsT, prsT] prsT #[u, sv]).run Tryz.prog w2 = .ok (.slice a3 m c3) w3 ∧ w3.heap[wr.heap.size]? = some o ∧
    Hid (w3.ownsRow w.heap.size prT 2 (.slice a3 m c3) m ((A ++ R.take L).flatMap prC) ∧ Below w.heap.size w w3) ∧
    ∃ a4 c4 w4, (Builtin.append_ #[prsT, prsT] prsT #[.slice a3 m c3, .slice (some ⟨w3.heap.size, 0, none⟩) 1 1]).run Tryz.prog (w3.alloc (.cells #[.string c.key, .string c.val] prT)) = .ok (.slice a4 m2 c4) w4 ∧ w4.heap[wr.heap.size]? = some o ∧
    Hid (w4.ownsRow w.heap.size prT 2 (.slice a4 m2 c4) m2 ((A ++ R.take L ++ [prOf c]).flatMap prC) ∧ Below w.heap.size w w4) := by
  intro sv hs1 hs2
  have hB0 : Below w.heap.size w (wr.alloc o) := hA.below.alloc hA.below.size _
  have hB2 : Below w.heap.size w w2 := hB0.trans (hb2.mono hB0.size)
  have ho2 : w2.ownsRow w.heap.size prT 2 u n (A.flatMap prC) := Nets.owns_below (hA.own.alloc o) hb2
  have hsv : ReadsP w2 sv (R.take L) := by
    rcases (hR.below hB2).cases with ⟨e, rfl⟩ | ⟨rb, ro, rc, e, hrow⟩
    · rw [hs1 e, List.take_nil]; exact nil_readsP _
    · rw [hs2 _ _ _ _ e]; exact hrow.take hL
  have hlen : (A ++ R.take L).length = m := by rw [take_append_len A R L hL, hA.len, hm]
  obtain ⟨a3, c3, w3, h1, h2⟩ := append_pn n hA.len w2 w.heap.size u sv (R.take L) m hlen ho2 hsv (by omega) hB2.size
  have hu := hA.own.lt
  have hbox2 : w2.heap[wr.heap.size]? = some o := (hb2.block _ (by simp)).trans (heap_alloc_new wr o)
  have hbox3 : w3.heap[wr.heap.size]? = some o := (h2.out.2.1.block _ (by have := hb2.size; simp at this; omega) fun e => by have := (hu _ e).2; omega).trans hbox2
  have hB3 : Below w.heap.size w w3 := hB2.trans h2.out.2.2
  refine ⟨a3, c3, w3, h1, hbox3, Lib.hid ⟨h2.out.1, hB3⟩, ?_⟩
  have hs3 : wr.heap.size < w3.heap.size := (Array.getElem?_eq_some_iff.1 hbox3).1
  obtain ⟨a4, c4, w4, h3, h4⟩ := append_pn m hlen (w3.alloc (.cells #[.string c.key, .string c.val] prT)) w.heap.size (.slice a3 m c3) (.slice (some ⟨w3.heap.size, 0, none⟩) 1 1) [prOf c] m2 (by rw [List.length_append, hlen, hm2]; rfl) (h2.out.1.alloc _) (reads_oneP (p := prOf c) (Lies.new w3 _ _)) (by omega) (by have := hB3.size; simp; omega)
  have hnb : ∀ k, (Value.slice a3 m c3).ownBlock = some k → k ≠ wr.heap.size := by
    intro k hk e
    obtain ⟨_, _, hfresh⟩ := append_pn_own n hA.len w2 w.heap.size u sv (R.take L) m hlen ho2 hsv (by omega) hB2.size h1
    rcases hfresh k hk with h | h
    · have := (hu k h).2; omega
    · have := hb2.size; simp at this; omega
  refine ⟨a4, c4, w4, h3, ?_, Lib.hid ⟨h4.out.1, (hB3.alloc hB3.size _).trans h4.out.2.2⟩⟩
  exact (h4.out.2.1.block _ (by simp; omega) fun e => hnb _ e rfl).trans ((Below.heap_alloc _ _ _ hs3).trans hbox3)

set_option maxRecDepth 100000 in
set_option maxHeartbeats 4000000 in
theorem apply_any (v v' : Value) (P : List Pr) (b : List Chg) (w : World) (hP : ReadsP w v P) (hb : ReadsC w v' b) (hr : Rising Pr.key P) (hrb : Rising Chg.key b) (hl : P.length ≤ 100000) (hlb : b.length ≤ 100000) :
    Calls Tryz.prog 50 #[v, v'] w fun e w' => ∃ u, e = .returned u ∧ w'.ownsRow w.heap.size prT 2 u (done P b).length ((done P b).flatMap prC) ∧ Below w.heap.size w w' := by
  obtain ⟨va, vc, rfl⟩ := hP.shape
  obtain ⟨N, hN⟩ : ∃ N, N = P.length := ⟨_, rfl⟩
  rw [← hN] at hl hP ⊢
  rcases hb with ⟨ca, cc, rfl, rfl⟩ | ⟨h0, g, go, cc, rfl, h3, h4⟩
  · have es : (N : Int) + (0 : Int) = (N : Int) := by omega
    obtain ⟨w1, hmk, hown⟩ := make_pairs N (by omega) w
    obtain ⟨a, c, w2, h5, h6⟩ := append_pn 0 (us := []) rfl w1 w.heap.size _ (.slice va N vc) P N (by simpa using hN.symm) (by simpa using hown.out.1) (hP.below hown.out.2) (by omega) hown.out.2.size
    have HA := Lib.hid h5
    have HH := Lib.hid (And.intro (And.intro h6.out.1 h6.out.2.2) (And.intro hown.out.2 hN))
    clear hP hr hrb hN h5 h6 hown
    go_enter Tryz.func50, Tryz.ntmps50
    go_wp2_with fail
    go_loopw [0, 5, 18] (fun v0 u iv wr => v0 = .slice va N vc ∧ u = .slice (some ⟨w.heap.size, 0, none⟩) 0 N ∧ iv = .int .i64 0 ∧ wr = w1) (fun _ _ _ _ => 0)
    case atStart => exact ⟨rfl, rfl, rfl, rfl⟩
    case round =>
      obtain ⟨rfl, rfl, rfl, rfl⟩ := hrel
      go_wp2_with (at_builtin; refine Lib.wpList_append_run _ rfl _ _ _ _ rfl _ _ rfl rfl _ _ HA.out ?_)
      go_ret
      obtain ⟨⟨h1, h2⟩, h3, h4⟩ := HH.out
      refine ⟨_, rfl, ?_, h3.trans h2⟩
      show w2.ownsRow w.heap.size prT 2 _ P.length (P.flatMap prC)
      rw [← h4]
      exact h1
  · obtain ⟨M, hM⟩ : ∃ M, M = b.length := ⟨_, rfl⟩
    rw [← hM] at hlb h0 ⊢
    have HC := Lib.hid (fun (W : World) (hW : Below w.heap.size w W) (i : Nat) (c : Chg) (hc : b[i]? = some c) => three (range_below (h4 i c hc) h3 hW))
    have es : (N : Int) + (M : Int) = ((N + M : Nat) : Int) := by omega
    obtain ⟨s, hs⟩ : ∃ s, s = N + M := ⟨_, rfl⟩
    rw [← hs] at es
    obtain ⟨w1, hmk, hown⟩ := make_pairs s (by omega) w
    have hH := hown.out
    have HD := Lib.hid (And.intro hP (And.intro hr (And.intro hrb (And.intro hN (And.intro hM (And.intro hH.1 hH.2))))))
    clear hP hr hrb hN hM hs h3 h4 hH hown
    go_enter Tryz.func50, Tryz.ntmps50
    go_wp2_with fail
    clear hmk
    go_loopw [0, 5, 18] (fun v0 u iv wr => ∃ (k n : Nat) (A R : List Pr), iv = .int .i64 k ∧ k ≤ M ∧ ReadsP w v0 R ∧ ApplyAt w P b k A R n u wr) (fun _ _ i _ => M - (intOf i).toNat)
    case atStart =>
      obtain ⟨hP, hr, hrb, hN, hM, ho, hB⟩ := HD.out
      exact ⟨0, 0, [], P, rfl, Nat.zero_le _, hP, Pass.start hr b, rfl, by simpa using ho, hB⟩
    case round =>
      obtain ⟨k, n, A, R, rfl, hk, hR, hA⟩ := hrel
      obtain ⟨hP, hr, hrb, hN, hM, _, _⟩ := HD.out
      obtain ⟨ua, uc, rfl⟩ := owns_slice hA.own
      have hlen : n + R.length ≤ 200000 := by
        have h1 := congrArg List.length hA.pass.eq
        rw [List.length_append, hA.len] at h1
        have h2 := done_length P (b.take k)
        rw [List.length_take] at h2
        omega
      have hRr : Rising Pr.key R := (List.pairwise_append.1 hA.pass.rise).2.1
      by_cases hlt : k < M
      · obtain ⟨c, hc⟩ : ∃ c, b[k]? = some c := ⟨b[k]'(by omega), List.getElem?_eq_getElem _⟩
        obtain ⟨x0, x1, x2⟩ := HC.out wr hA.below k c hc
        have hnx := hA.pass.next hrb hc
        have hlo := lo_le Pr.key c.key R
        have HF := Lib.hid (fun (W : World) (hW : Below wr.heap.size wr W) => findP_any _ R c.key W ((hR.below hA.below).below hW) hRr (by omega))
        have hone : ∃ L j : Nat, L = lo Pr.key c.key R ∧ j = atN R c.key ∧ L + j ≤ R.length ∧ (at? Pr.key c.key R).isSome = decide (j = 1) ∧ j ≤ 1 := by
          refine ⟨_, _, rfl, rfl, ?_, ?_, ?_⟩
          · unfold atN
            cases ha : at? Pr.key c.key R with
            | none => simpa using hlo
            | some y => have := (at_there Pr.key hRr ha).1; simp; omega
          · unfold atN
            cases ha : at? Pr.key c.key R <;> simp
          · unfold atN; split <;> omega
        obtain ⟨L, j, hL, hj, hLj, his, hj1⟩ := hone
        rw [← hL, his] at HF
        rw [← hL, ← hj] at hnx
        obtain ⟨m, hm⟩ : ∃ m, m = n + L := ⟨_, rfl⟩
        obtain ⟨m2, hm2⟩ : ∃ m2, m2 = m + 1 := ⟨_, rfl⟩
        have HM := Lib.hid (And.intro hm hm2)
        have HQ := Lib.hid (fun (w2 : World) (hb2 : Below (wr.alloc (boxC chgT c)).heap.size (wr.alloc (boxC chgT c)) w2) => step_one hA hR hb2 c L (by omega) (by omega) m m2 hm hm2)
        have HNX := Lib.hid hnx
        have hBX : Below wr.heap.size wr (wr.alloc (boxC chgT c)) := (Below.refl _ _).alloc (Nat.le_refl _) _
        have HF2 := Lib.hid (HF.out _ hBX)
        have hln : (A ++ R.take L).length = n + L := by rw [take_append_len A R L (by omega), hA.len]
        have HLN := Lib.hid hln
        clear hln
        rcases hR.cases with ⟨rfl, rfl⟩ | ⟨rb, ro, rc, hv, hrow⟩
        · obtain rfl : L = 0 := by simp at hLj; omega
          obtain rfl : j = 0 := by simp at hLj; omega
          obtain ⟨ck, cv, cg⟩ := c
          clear hm hm2 hA hR hRr hlen hnx hlo HF hL hj his hP hr hrb hN hM hc hBX hLj hj1
          go_wp2_with fail
          refine HF2.out.mono ?_
          rintro e w2 ⟨rfl, hb2⟩
          obtain ⟨a3, c3, w3, hr3, hx3, hh3, a4, c4, w4, hr4, hx4, hh4⟩ := HQ.out w2 hb2 (.slice none 0 0) (fun _ => rfl) (fun _ _ _ _ e => by cases e)
          have hL2 : Lies w2 wr.heap.size #[.string ck, .string cv, .bool cg] chgT := (hb2.block _ (by simp)).trans (heap_alloc_new wr _)
          have hL3 : Lies w3 wr.heap.size #[.string ck, .string cv, .bool cg] chgT := hx3
          obtain ⟨y0, y1, y2, _, _, _⟩ := lies3 hL2
          obtain ⟨z0, z1, z2, _, _, _⟩ := lies3 hL3
          have HR3 := Lib.hid hr3
          have HR4 := Lib.hid hr4
          have HH3 := Lib.hid hh3.out
          have HH4 := Lib.hid hh4.out
          clear hr3 hr4 hx3 hx4 hh3 hh4 hL2 hL3 hb2
          cases cg
          · go_upto_region 7 with (at_builtin; refine Lib.wpList_append_run _ rfl _ _ _ _ rfl _ _ rfl rfl _ _ HR3.out ?_)
            go_wp2_with (at_builtin; refine Lib.wpList_append_run _ rfl _ _ _ _ rfl _ _ rfl rfl _ _ HR4.out ?_)
            go_roundw
            case rel =>
              have hn := HNX.out
              rw [newL_one rfl] at hn
              exact ⟨k + 1, m2, _, _, by simp, by omega, (by simpa using nil_readsP w), ⟨hn, by rw [List.length_append, HLN.out, HM.out.2, HM.out.1]; rfl, HH4.out.1, HH4.out.2⟩⟩
            case measure => simp [intOf]; omega
          · go_upto_region 7 with (at_builtin; refine Lib.wpList_append_run _ rfl _ _ _ _ rfl _ _ rfl rfl _ _ HR3.out ?_)
            go_wp2_with (at_builtin; refine Lib.wpList_append_run _ rfl _ _ _ _ rfl _ _ rfl rfl _ _ HR4.out ?_)
            go_roundw
            case rel =>
              have hn := HNX.out
              rw [newL_no rfl, List.append_nil] at hn
              exact ⟨k + 1, m, _, _, by simp, by omega, (by simpa using nil_readsP w), ⟨hn, by rw [HLN.out, HM.out.1], HH3.out.1, HH3.out.2⟩⟩
            case measure => simp [intOf]; omega
        · obtain ⟨rl, hrl⟩ : ∃ rl, rl = R.length := ⟨_, rfl⟩
          rw [← hrl] at hv hLj
          subst hv
          have hrlc : rl ≤ rc := by rw [hrl]; exact hrow.len
          have hrcm := hrow.cap
          have HRO := Lib.hid (And.intro hrow hrl)
          obtain ⟨ck, cv, cg⟩ := c
          clear hm hm2 hA hR hRr hlen hnx hlo HF hL hj his hP hr hrb hN hM hc hBX hrow hrl
          have hj2 : j = 0 ∨ j = 1 := by omega
          have hcc : L + j = rc ∨ L + j < rc := by omega
          clear hj1
          rcases hj2 with rfl | rfl
          · go_wp2_with fail
            refine HF2.out.mono ?_
            rintro e w2 ⟨rfl, hb2⟩
            obtain ⟨a3, c3, w3, hr3, hx3, hh3, a4, c4, w4, hr4, hx4, hh4⟩ := HQ.out w2 hb2 (.slice (some ⟨rb, ro, none⟩) L rc) (fun e => by cases e) (fun _ _ _ _ e => by simp at e; obtain ⟨⟨rfl, rfl⟩, _, rfl⟩ := e; rfl)
            have hL2 : Lies w2 wr.heap.size #[.string ck, .string cv, .bool cg] chgT := (hb2.block _ (by simp)).trans (heap_alloc_new wr _)
            have hL3 : Lies w3 wr.heap.size #[.string ck, .string cv, .bool cg] chgT := hx3
            obtain ⟨y0, y1, y2, _, _, _⟩ := lies3 hL2
            obtain ⟨z0, z1, z2, _, _, _⟩ := lies3 hL3
            have HR3 := Lib.hid hr3
            have HR4 := Lib.hid hr4
            have HH3 := Lib.hid hh3.out
            have HH4 := Lib.hid hh4.out
            clear hr3 hr4 hx3 hx4 hh3 hh4 hL2 hL3 hb2
            cases cg
            · rcases hcc with hcc | hcc
              · have hz : rl - (L) = 0 := by omega
                go_upto_region 7 with (at_builtin; refine Lib.wpList_append_run _ rfl _ _ _ _ rfl _ _ rfl rfl _ _ HR3.out ?_)
                go_wp2_with (at_builtin; refine Lib.wpList_append_run _ rfl _ _ _ _ rfl _ _ rfl rfl _ _ HR4.out ?_)
                go_roundw
                case rel =>
                  have hn := HNX.out
                  rw [newL_one rfl] at hn
                  exact ⟨k + 1, m2, _, _, by simp, by omega, (by obtain ⟨hrow, hrl⟩ := HRO.out; rcases hrow.none (n := L + 0) (m := rc - L) (by omega) with h | h; exact h; omega), ⟨hn, by rw [List.length_append, HLN.out, HM.out.2, HM.out.1]; rfl, HH4.out.1, HH4.out.2⟩⟩
                case measure => simp [intOf]; omega
              · have hne : ¬ (rc = L) := by omega
                go_upto_region 7 with (at_builtin; refine Lib.wpList_append_run _ rfl _ _ _ _ rfl _ _ rfl rfl _ _ HR3.out ?_)
                go_wp2_with (at_builtin; refine Lib.wpList_append_run _ rfl _ _ _ _ rfl _ _ rfl rfl _ _ HR4.out ?_)
                go_roundw
                case rel =>
                  have hn := HNX.out
                  rw [newL_one rfl] at hn
                  exact ⟨k + 1, m2, _, _, by simp, by omega, (by obtain ⟨hrow, hrl⟩ := HRO.out; have := hrow.drop (n := L + 0) (by omega); rw [← hrl] at this; exact this), ⟨hn, by rw [List.length_append, HLN.out, HM.out.2, HM.out.1]; rfl, HH4.out.1, HH4.out.2⟩⟩
                case measure => simp [intOf]; omega
            · rcases hcc with hcc | hcc
              · have hz : rl - (L) = 0 := by omega
                go_upto_region 7 with (at_builtin; refine Lib.wpList_append_run _ rfl _ _ _ _ rfl _ _ rfl rfl _ _ HR3.out ?_)
                go_wp2_with (at_builtin; refine Lib.wpList_append_run _ rfl _ _ _ _ rfl _ _ rfl rfl _ _ HR4.out ?_)
                go_roundw
                case rel =>
                  have hn := HNX.out
                  rw [newL_no rfl, List.append_nil] at hn
                  exact ⟨k + 1, m, _, _, by simp, by omega, (by obtain ⟨hrow, hrl⟩ := HRO.out; rcases hrow.none (n := L + 0) (m := rc - L) (by omega) with h | h; exact h; omega), ⟨hn, by rw [HLN.out, HM.out.1], HH3.out.1, HH3.out.2⟩⟩
                case measure => simp [intOf]; omega
              · have hne : ¬ (rc = L) := by omega
                go_upto_region 7 with (at_builtin; refine Lib.wpList_append_run _ rfl _ _ _ _ rfl _ _ rfl rfl _ _ HR3.out ?_)
                go_wp2_with (at_builtin; refine Lib.wpList_append_run _ rfl _ _ _ _ rfl _ _ rfl rfl _ _ HR4.out ?_)
                go_roundw
                case rel =>
                  have hn := HNX.out
                  rw [newL_no rfl, List.append_nil] at hn
                  exact ⟨k + 1, m, _, _, by simp, by omega, (by obtain ⟨hrow, hrl⟩ := HRO.out; have := hrow.drop (n := L + 0) (by omega); rw [← hrl] at this; exact this), ⟨hn, by rw [HLN.out, HM.out.1], HH3.out.1, HH3.out.2⟩⟩
                case measure => simp [intOf]; omega
          · go_wp2_with fail
            refine HF2.out.mono ?_
            rintro e w2 ⟨rfl, hb2⟩
            obtain ⟨a3, c3, w3, hr3, hx3, hh3, a4, c4, w4, hr4, hx4, hh4⟩ := HQ.out w2 hb2 (.slice (some ⟨rb, ro, none⟩) L rc) (fun e => by cases e) (fun _ _ _ _ e => by simp at e; obtain ⟨⟨rfl, rfl⟩, _, rfl⟩ := e; rfl)
            have hL2 : Lies w2 wr.heap.size #[.string ck, .string cv, .bool cg] chgT := (hb2.block _ (by simp)).trans (heap_alloc_new wr _)
            have hL3 : Lies w3 wr.heap.size #[.string ck, .string cv, .bool cg] chgT := hx3
            obtain ⟨y0, y1, y2, _, _, _⟩ := lies3 hL2
            obtain ⟨z0, z1, z2, _, _, _⟩ := lies3 hL3
            have HR3 := Lib.hid hr3
            have HR4 := Lib.hid hr4
            have HH3 := Lib.hid hh3.out
            have HH4 := Lib.hid hh4.out
            clear hr3 hr4 hx3 hx4 hh3 hh4 hL2 hL3 hb2
            cases cg
            · rcases hcc with hcc | hcc
              · have hz : rl - (L + 1) = 0 := by omega
                go_upto_region 7 with (at_builtin; refine Lib.wpList_append_run _ rfl _ _ _ _ rfl _ _ rfl rfl _ _ HR3.out ?_)
                go_wp2_with (at_builtin; refine Lib.wpList_append_run _ rfl _ _ _ _ rfl _ _ rfl rfl _ _ HR4.out ?_)
                go_roundw
                case rel =>
                  have hn := HNX.out
                  rw [newL_one rfl] at hn
                  exact ⟨k + 1, m2, _, _, by simp, by omega, (by obtain ⟨hrow, hrl⟩ := HRO.out; rcases hrow.none (n := L + 1) (m := 0) (by omega) with h | h; exact h; omega), ⟨hn, by rw [List.length_append, HLN.out, HM.out.2, HM.out.1]; rfl, HH4.out.1, HH4.out.2⟩⟩
                case measure => simp [intOf]; omega
              · have hne : ¬ (rc = L + 1) := by omega
                go_upto_region 7 with (at_builtin; refine Lib.wpList_append_run _ rfl _ _ _ _ rfl _ _ rfl rfl _ _ HR3.out ?_)
                go_wp2_with (at_builtin; refine Lib.wpList_append_run _ rfl _ _ _ _ rfl _ _ rfl rfl _ _ HR4.out ?_)
                go_roundw
                case rel =>
                  have hn := HNX.out
                  rw [newL_one rfl] at hn
                  exact ⟨k + 1, m2, _, _, by simp, by omega, (by obtain ⟨hrow, hrl⟩ := HRO.out; have := hrow.drop (n := L + 1) (by omega); rw [← hrl] at this; exact this), ⟨hn, by rw [List.length_append, HLN.out, HM.out.2, HM.out.1]; rfl, HH4.out.1, HH4.out.2⟩⟩
                case measure => simp [intOf]; omega
            · rcases hcc with hcc | hcc
              · have hz : rl - (L + 1) = 0 := by omega
                go_upto_region 7 with (at_builtin; refine Lib.wpList_append_run _ rfl _ _ _ _ rfl _ _ rfl rfl _ _ HR3.out ?_)
                go_wp2_with (at_builtin; refine Lib.wpList_append_run _ rfl _ _ _ _ rfl _ _ rfl rfl _ _ HR4.out ?_)
                go_roundw
                case rel =>
                  have hn := HNX.out
                  rw [newL_no rfl, List.append_nil] at hn
                  exact ⟨k + 1, m, _, _, by simp, by omega, (by obtain ⟨hrow, hrl⟩ := HRO.out; rcases hrow.none (n := L + 1) (m := 0) (by omega) with h | h; exact h; omega), ⟨hn, by rw [HLN.out, HM.out.1], HH3.out.1, HH3.out.2⟩⟩
                case measure => simp [intOf]; omega
              · have hne : ¬ (rc = L + 1) := by omega
                go_upto_region 7 with (at_builtin; refine Lib.wpList_append_run _ rfl _ _ _ _ rfl _ _ rfl rfl _ _ HR3.out ?_)
                go_wp2_with (at_builtin; refine Lib.wpList_append_run _ rfl _ _ _ _ rfl _ _ rfl rfl _ _ HR4.out ?_)
                go_roundw
                case rel =>
                  have hn := HNX.out
                  rw [newL_no rfl, List.append_nil] at hn
                  exact ⟨k + 1, m, _, _, by simp, by omega, (by obtain ⟨hrow, hrl⟩ := HRO.out; have := hrow.drop (n := L + 1) (by omega); rw [← hrl] at this; exact this), ⟨hn, by rw [HLN.out, HM.out.1], HH3.out.1, HH3.out.2⟩⟩
                case measure => simp [intOf]; omega
      · obtain rfl : k = M := by omega
        have hps : Pass P b b.length A R := by rw [← hM]; exact hA.pass
        have hend := hps.ends
        obtain ⟨a, c, w2, h5, h6⟩ := append_pn n hA.len wr w.heap.size _ _ R (done P b).length (by rw [hend]) hA.own (hR.below hA.below) (by rw [← hend, List.length_append, hA.len]; omega) hA.below.size
        have HA := Lib.hid h5
        have HH := Lib.hid (And.intro (And.intro h6.out.1 h6.out.2.2) (And.intro hA.below hend))
        obtain ⟨ra, rc, rfl⟩ := hR.shape
        clear hps hend hA hR hRr h5 h6 hP hr hrb hN hM
        go_wp2_with (at_builtin; refine Lib.wpList_append_run _ rfl _ _ _ _ rfl _ _ rfl rfl _ _ HA.out ?_)
        go_ret
        obtain ⟨⟨h1, h2⟩, h3, h4⟩ := HH.out
        rw [h4] at h1
        exact ⟨_, rfl, h1, h3.trans h2⟩
end Go.Proofs.YtghpohiinnallaaGreatDoor.Kv

/-
  Walks of the store: the changes of a batch, collected; the texts of pairs.
-/
namespace Go.Proofs.YtghpohiinnallaaGreatDoor.Kv
open Go Go.RowKit Go.Shelf
open Go.Proofs.YtghpohiinnallaaGreatDoor.Batch
open Go.Proofs.YtghpohiinnallaaGreatDoor.Nets (Tab Reads Small str)

attribute [local go_sem] Oper.semAt_some

/-- An append whose run is known, in a list that is walked inside a fence. -/
theorem wpListIn_append_run {F : Fence} {n : Nat} {P : Program} (w : World) {ops : Array Oper} {rest : List Oper} {o : Oper} {a : Act} {Q : Exit → Act → World → Prop} (hg : o.guard = none) (s x : Operand) (t : TypeId)
    (hop : o.op = Op.call { callee := Callee.builtin Builtin.append, args := #[s, x], argTypes := #[t, t] }) (vs vx : Value) (hs : a.eval s = vs) (hx : a.eval x = vx) (v' : Value) (w' : World)
    (hrun : (Builtin.append_ #[t, t] o.type #[vs, vx]).run P w = .ok v' w') (hK : wpListIn F n P ops Q rest (a.put o.dst v') w') : wpListIn F n P ops Q (o :: rest) a w := by
  refine wpListIn_plain hg fun K hK' => ?_
  unfold Oper.wpIn
  refine ⟨?_, ?_⟩
  · simp [Oper.about, hop, resolve, Target.leads, Sem.run_pure]
  · rw [Oper.semAt_plain F _ _ (by rw [hop]; intro c hc'; cases hc')]
    simp [execOp, hop, resolve, invoke, builtin, hs, hx, hrun, Result.andThen]
    exact hK' _ _ hK
/-- Between two rounds: the changes so far, in the variable's box. -/
def GotC (w w1 : World) (pre : List Chg) (W : World) : Prop := ∃ u, Boxed W w.heap.size chsT u ∧ W.ownsRow w1.heap.size chgT 3 u pre.length (pre.flatMap chC) ∧ w1.heap.size ≤ W.heap.size ∧ Below w.heap.size w W
theorem gotC_own {w w1 : World} {α : Type} {cv : List α → List Chg} {B : Nat} (hB : w.heap.size ≤ B) : OwnFrom B (fun (pre : List α) W => GotC w w1 (cv pre) W) := fun s X Y row hs hg hr => by
  obtain ⟨u, h1, h2, h3, h4⟩ := hs
  refine ⟨u, boxed_own w.heap.size chsT (fun (_ : Unit) => u) () X Y row h1 hg (fun r e => (hr r e).2), h2.kept hg ?_, Nat.le_trans h3 hg.size, h4.grown hg h4.size fun k e => by have := (hr k e).1; omega⟩
  rcases h2.2 with ⟨rfl, _⟩ | ⟨g, cap, cur, rfl, _, hgb, _⟩
  · exact .inl rfl
  · refine .inr fun e' => ?_
    obtain ⟨_, o, ho, hcl⟩ := hr g (by simpa [Value.ownBlock] using e'.symm)
    rw [hgb] at ho; cases ho; cases hcl
theorem gotC_step {w w1 W : World} {kb : Option Nat} {ua : Option Addr} {uc : Nat} {pre : List Chg} (hu : Boxed W w.heap.size chsT (.slice ua pre.length uc)) (ho : W.ownsRow w1.heap.size chgT 3 (.slice ua pre.length uc) pre.length (pre.flatMap chC)) (h1 : w1.heap.size ≤ W.heap.size) (hBW : Below w.heap.size w W)
    (hl : pre.length ≤ 100000) (x : Chg) (hw : w.heap.size < w1.heap.size) (hk1 : ∀ k, kb = some k → k < w1.heap.size) (hk2 : ∀ k, kb = some k → k ≠ w.heap.size) :
    ∃ v' w3, (Builtin.append_ #[chsT, chsT] chsT #[.slice ua pre.length uc, .slice (some ⟨W.heap.size, 0, none⟩) 1 1]).run Tryz.prog (W.alloc (boxC chgT x)) = .ok v' w3 ∧ ∃ a n c, v' = .slice a n c ∧ w3.cell? ⟨w.heap.size, 0, none⟩ = some (.slice ua pre.length uc) ∧ w3.frozen? ⟨w.heap.size, 0, none⟩ = false ∧
      KeepsFrom w1.heap.size W (w3.setCell ⟨w.heap.size, 0, none⟩ v') ∧ Still kb W (w3.setCell ⟨w.heap.size, 0, none⟩ v') ∧ GotC w w1 (pre ++ [x]) (w3.setCell ⟨w.heap.size, 0, none⟩ v') := by
  obtain ⟨i0, hi, hz0, hz1, hz2⟩ := info_parts infoC
  obtain ⟨v', w3, hr, h2, h3, _⟩ := run_append_own (P := Tryz.prog) (W.alloc (boxC chgT x)) w1.heap.size chsT chsT chgT i0 _ 3 40 Tryz.underlying103 hi hz0 hz1 hz2 rfl (by decide) _ pre.length _ (ho.alloc _) ⟨W.heap.size, 0, none⟩ 1 1 (chC x) rfl
    (fun j u hu => by rw [addr_add]; exact new_box W chgT x j u hu) (one_cell x) (by unfold maxLen; omega) (by omega) (by simp; omega)
  have hlt := (ho.alloc (boxC chgT x)).lt
  have hu3 : Boxed w3 w.heap.size chsT (.slice ua pre.length uc) := (hu.alloc _).kept h3 fun e => by have := (hlt _ e.symm).1; omega
  have hB4 : Below w.heap.size W (w3.setCell ⟨w.heap.size, 0, none⟩ v') := (((Below.refl w.heap.size W).alloc (by omega) _).grown h3 (by simp; omega) (fun k hk => by have := (hlt k hk).1; omega)).setCell (p := ⟨w.heap.size, 0, none⟩) (Nat.le_refl _) v'
  obtain ⟨a3, c3, e3⟩ := owns_slice h2
  refine ⟨v', w3, hr, a3, _, c3, e3, hu3.cell, hu3.frozen, ?_, ?_, v', hu3.set v', ?_, ?_, hBW.trans hB4⟩
  · refine ((KeepsOthers.alloc _ _).from _).trans (((KeepsOthers.of_grownBy h3 fun j o ej hj => ?_).from _).trans ((KeepsOthers.setCell _ _ _).from _))
    rcases (ho.alloc (boxC chgT x)).2 with ⟨e, _⟩ | ⟨g, cap, cur, e, _, hgb, _⟩
    · rw [e] at ej; cases ej
    · rw [e] at ej
      obtain rfl : g = j := by simpa [Value.ownBlock] using ej
      rw [hgb] at hj; cases hj; rfl
  · refine (Still.alloc (Still.refl _ W) (boxC chgT x)).trans ⟨?_, fun k hk hkl => ?_⟩
    · exact Nat.le_trans h3.size (by simp [World.setCell])
    · have h5 := hk1 k hk
      refine (Below.heap_setCell _ _ _ _ (fun e => hk2 k hk e)).trans (h3.block k hkl fun e => ?_)
      have := (hlt _ e.symm).1
      omega
  · have h5 : (w3.setCell ⟨w.heap.size, 0, none⟩ v').ownsRow w1.heap.size chgT 3 v' (pre.length + 1) (pre.flatMap chC ++ chC x) := h2.kept (grownBy_setCell' w3 w.heap.size v') (.inr fun e => by have := (h2.lt _ e).1; omega)
    rw [flat_snoc, List.length_append]
    exact h5
  · exact Nat.le_trans (Nat.le_trans h1 (by simp)) (Nat.le_trans h3.size (by simp [World.setCell]))

set_option maxRecDepth 100000 in
set_option maxHeartbeats 4000000 in
theorem seq_any (w : World) (b : Nat) (v : Value) (q : List Chg) (hc : w.cell? ⟨b, 0, none⟩ = some v) (hb : b < w.heap.size) (hr : ReadsC w v q) (hl : q.length ≤ 100000) (hlv : ∀ k, v.ownBlock = some k → k < w.heap.size) :
    Calls Tryz.prog 94 #[.slice none 0 0, itV b] w fun e w' => ∃ u, e = .returned u ∧ w'.ownsRow w.heap.size chgT 3 u q.length (q.flatMap chC) ∧ Below w.heap.size w w' := by
  have hA : Below w.heap.size w (w.alloc (.cells #[.slice none 0 0] chsT)) := (Below.refl _ _).alloc (Nat.le_refl _) _
  refine (callsIn_wide (n := 8)).1 ?_
  refine callsIn_of_wp_marks Tryz.func94 rfl trivial ?_ rfl
  simp only [Tryz.ntmps94, List.size_toArray, List.length_cons, List.length_nil, Nat.reduceAdd, Nat.reduceSub, Array.replicate_succ, Array.replicate_zero, List.push_toArray, List.append_toArray, List.nil_append, List.cons_append]
  gi_wp2
  obtain ⟨w1, hw1⟩ : ∃ w1, w1 = w.alloc (.cells #[.slice none 0 0] chsT) := ⟨_, rfl⟩
  have hbox : Boxed w1 w.heap.size chsT (.slice none 0 0) := by rw [hw1]; exact heap_alloc_new w _
  have hB : Below w.heap.size w w1 := by rw [hw1]; exact hA
  have hs1 : w1.heap.size = w.heap.size + 1 := by rw [hw1]; simp
  rw [← hw1]
  clear hA
  have hst := all_stops (fun c : Chg => c) Fence.wide (8 - 1) trivial rfl (by omega) b v q hl w1 (by omega) ((hB.cell (p := ⟨b, 0, none⟩) hb).trans hc) (by rw [List.map_id']; exact hr.below hB)
  refine wpIn_rangeFunc_ownH rfl (by omega) (gf := 96) (lb := #[.pointer (some ⟨b, 0, none⟩)]) rfl trivial (enters_of Tryz.func96 (by kernel_rfl) rfl)
    hst Still.trans (still_b (fun k hk => by have := hlv k hk; omega)) (Below.refl _ _) (fun _ => rfl)
    (fun pre W => GotC w w1 pre W) (fun _ _ _ => False) (gotC_own (cv := fun l => l) (by omega)) (fun _ _ _ _ _ hs _ _ => hs)
    ⟨_, hbox, World.ownsRow_nil _ _ _ _, Nat.le_refl _, hB⟩
    (fun x a' W => ∃ bx, w1.heap.size ≤ bx ∧ Lies W bx #[.string x.key, .string x.val, .bool x.gone] chgT ∧ a' = { tmps := #[.slice none 0 0, itV b, ptr w.heap.size, undef, .slice none 0 0, ptr bx, itV b, chV x, undef, undef, undef, undef, undef], defers := [] })
    (fun x a' _ X Y row hs hg hr => by
      obtain ⟨bx, h1, h2, h3⟩ := hs
      refine ⟨bx, h1, (hg.block bx h2.lt fun e => ?_).trans h2, h3⟩
      obtain ⟨_, o, ho, hcl⟩ := hr bx e.symm
      rw [show X.heap[bx]? = _ from h2] at ho; cases ho; cases hcl)
    ?assign ?body ?done ?stop
  case assign =>
    rintro l pre x W K ⟨u, hu, ho, h1, hBW⟩ hK
    gi_wp2
    exact hK _ _ ((KeepsOthers.alloc _ _).from _) ((Still.refl _ W).alloc _) ⟨u, hu.alloc _, ho.alloc _, by simp; omega, hBW.alloc hBW.size _⟩ ⟨W.heap.size, h1, Lies.new W _ _, rfl⟩
  case body =>
    rintro l pre x a' W hlW hrl ⟨u, hu, ho, h1, hBW⟩ ⟨bx, hbx, hLx, rfl⟩ hlt
    obtain ⟨ua, uc, rfl⟩ := owns_slice ho
    obtain ⟨v', w3, hr3, a3, n3, c3, rfl, hc3, hf3, hk3, hs3, hgo⟩ := gotC_step hu ho h1 hBW (by omega) x (by omega) (kb := v.ownBlock) (fun k hk => by have := hlv k hk; omega) (fun k hk => by have := hlv k hk; omega)
    have hab := hu.cell
    obtain ⟨y0, y1, y2, _, _, _⟩ := lies3 hLx
    have HGO := Lib.hid (And.intro hk3 (And.intro hs3 hgo))
    have HRUN := Lib.hid hr3
    clear hk3 hs3 hgo hu ho hBW hLx hr3 hst hbox hr hB hw1 hs1
    gi_wp2_with (gi_at_builtin; refine wpListIn_append_run _ rfl _ _ _ rfl _ _ rfl rfl _ _ HRUN.out ?_)
    exact HGO.out
  case done =>
    rintro D ys W hD hys ⟨u, hu, ho, h1, hBW⟩ hK
    have hcu := hu.cell
    rw [hys] at ho
    obtain ⟨ua, uc, rfl⟩ := owns_slice ho
    gi_wp2
    refine ⟨by simp, .inl ⟨_, _, rfl, run_takeDeferred hK, ?_⟩⟩
    exact ⟨_, results_tmp rfl _ _ _, _, rfl, ownsRow_putObj (ownsRow_base_a ho (base' := w.heap.size) (by omega)) _ hK rfl, hBW.trans (belowK_b (w := w) (Nat.le_refl _) W D _ _ (by omega) hK rfl rfl)⟩
  case stop =>
    rintro D c pre W _ _ h _
    exact h.elim
theorem collect_any (w : World) (b : Nat) (v : Value) (q : List Chg) (hc : w.cell? ⟨b, 0, none⟩ = some v) (hb : b < w.heap.size) (hr : ReadsC w v q) (hl : q.length ≤ 100000) (hlv : ∀ k, v.ownBlock = some k → k < w.heap.size) :
    Calls Tryz.prog 60 #[itV b] w fun e w' => ∃ u, e = .returned u ∧ w'.ownsRow w.heap.size chgT 3 u q.length (q.flatMap chC) ∧ Below w.heap.size w w' := by
  have HS := Lib.hid (seq_any w b v q hc hb hr hl hlv)
  clear hc hr hlv
  go_enter Tryz.func60, Tryz.ntmps60
  go_wp2_with fail
  refine HS.out.mono ?_
  rintro e w1 ⟨u, rfl, ho, hB⟩
  have HH := Lib.hid (And.intro ho hB)
  clear ho hB
  go_wp2_with fail
  go_ret
  exact ⟨u, rfl, HH.out.1, HH.out.2⟩

/-! The texts of pairs. -/
theorem make_texts (n : Nat) (hn : n ≤ 1000000) (w : World) : ∃ w1, (Instr.makeSlice strsT (.int .i64 0) (.int .i64 (n : Int))).run Tryz.prog w = .ok (.slice (some ⟨w.heap.size, 0, none⟩) 0 n) w1 ∧
    Hid (w1.ownsRow w.heap.size strT 1 (.slice (some ⟨w.heap.size, 0, none⟩) 0 n) 0 [] ∧ Below w.heap.size w w1) := by
  obtain ⟨i0, hi, hz0, hz1, hz2⟩ := info_parts Nets.infoString
  obtain ⟨w1, h1, h2, h3⟩ := run_make_own (P := Tryz.prog) w w.heap.size strsT strT i0 _ 1 Tryz.underlying28 hi hz0 hz1 .i64 .i64 n (by rw [hz2]; omega) (by unfold maxLen; omega) (Nat.le_refl _)
  exact ⟨w1, h1, Lib.hid ⟨h2, (Below.refl _ w).grown h3 (Nat.le_refl _) fun k e => by cases e⟩⟩
theorem append_text (W : World) (B n m : Nat) (u : Value) (xs : List Value) (s : ByteArray) (ho : W.ownsRow B strT 1 u n xs) (hl : n ≤ 1000000) (hm : m = n + 1) (hB : B ≤ W.heap.size) :
    ∃ a c w3, (Builtin.append_ #[strsT, strsT] strsT #[u, .slice (some ⟨W.heap.size, 0, none⟩) 1 1]).run Tryz.prog (W.alloc (.cells #[.string s] strT)) = .ok (.slice a m c) w3 ∧ Hid (w3.ownsRow B strT 1 (.slice a m c) m (xs ++ [.string s]) ∧ Below B W w3) := by
  subst hm
  obtain ⟨i0, hi, hz0, hz1, hz2⟩ := info_parts Nets.infoString
  obtain ⟨v', w3, hr, h2, h3, _⟩ := run_append_own (P := Tryz.prog) (W.alloc (.cells #[.string s] strT)) B strsT strsT strT i0 _ 1 16 Tryz.underlying28 hi hz0 hz1 hz2 rfl (by decide) u n _ (ho.alloc _) ⟨W.heap.size, 0, none⟩ 1 1 [.string s] rfl
    (Nets.new_cell W _) (by intro u hu; simp at hu; subst hu; rfl) (by unfold maxLen; omega) (by omega) (by simp; omega)
  obtain ⟨a, c, rfl⟩ := owns_slice h2
  exact ⟨a, c, w3, hr, Lib.hid ⟨h2, ((Below.refl B W).alloc hB _).grown h3 (by simp; omega) fun k hk => (ho.lt k hk).1⟩⟩
def ptexts (ps : List Pr) : List ByteArray := ps.map fun p => texB (putC p)
set_option maxRecDepth 100000 in
set_option maxHeartbeats 2000000 in
theorem ptexts_any (v : Value) (ps : List Pr) (w : World) (h : ReadsP w v ps) (hl : ps.length ≤ 100000) (hf : ∀ p ∈ ps, Fine (putC p)) (ht : Tab w) :
    Calls Tryz.prog 65 #[v] w fun e w' => ∃ u, e = .returned u ∧ w'.ownsRow w.heap.size strT 1 u ps.length ((ptexts ps).map Value.string) ∧ Below w.heap.size w w' := by
  rcases h with ⟨rfl, rfl⟩ | ⟨b, off, cap, rfl, _, _, h3, h4⟩
  · obtain ⟨w1, hmk', hown⟩ := make_texts 0 (by omega) w
    have HO := Lib.hid hown.out
    have hmk : (Instr.makeSlice strsT (.int .i64 0) (.int .i64 0)).run Tryz.prog w = .ok (.slice (some ⟨w.heap.size, 0, none⟩) 0 0) w1 := hmk'
    clear hown hmk'
    go_enter Tryz.func65, Tryz.ntmps65
    go_wp2_with fail
    go_loopw [3, 11] (fun u i wr => u = .slice (some ⟨w.heap.size, 0, none⟩) 0 0 ∧ i = .int .i64 0 ∧ wr = w1) (fun _ _ _ => 0)
    case atStart => exact ⟨rfl, rfl, rfl⟩
    case round =>
      obtain ⟨rfl, rfl, rfl⟩ := hrel
      go_wp2_with fail
      go_ret
      exact ⟨_, rfl, HO.out.1, HO.out.2⟩
  · obtain ⟨N, hN⟩ : ∃ N, N = ps.length := ⟨_, rfl⟩
    rw [← hN] at hl ⊢
    have HN := Lib.hid hN
    have HC := Lib.hid (fun (W : World) (hW : Below w.heap.size w W) (i : Nat) (x : Pr) (hx : ps[i]? = some x) => two (range_below (h4 i x hx) h3 hW))
    have HW := Lib.hid (fun (p : Pr) (hp : p ∈ ps) (W : World) (hW : Below w.heap.size w W) => write_any (putC p) W (hf p hp) (ht.below hW))
    obtain ⟨w1, hmk, hown⟩ := make_texts N (by omega) w
    have HO := Lib.hid hown.out
    clear h4 hf ht hN hown
    go_enter Tryz.func65, Tryz.ntmps65
    go_wp2_with fail
    clear hmk
    go_loopw [3, 11] (fun u iv wr => ∃ i : Nat, iv = .int .i64 i ∧ i ≤ N ∧ wr.ownsRow w.heap.size strT 1 u i ((ptexts (ps.take i)).map Value.string) ∧ Below w.heap.size w wr) (fun _ i _ => N - (intOf i).toNat)
    case atStart => exact ⟨0, rfl, Nat.zero_le _, by simpa [ptexts] using HO.out.1, HO.out.2⟩
    case round =>
      obtain ⟨i, rfl, hi, ho, hB⟩ := hrel
      obtain ⟨ua, uc, hu⟩ := owns_slice ho
      by_cases hlt : i < N
      · obtain ⟨p, hp⟩ : ∃ p, ps[i]? = some p := ⟨ps[i]'(by rw [← HN.out]; exact hlt), List.getElem?_eq_getElem _⟩
        obtain ⟨c0, c1⟩ := HC.out wr hB i p hp
        have hBX : Below wr.heap.size wr (wr.alloc (boxP prT p)) := (Below.refl _ _).alloc (Nat.le_refl _) _
        have HWR := Lib.hid (HW.out p (List.mem_of_getElem? hp) (wr.alloc (boxP prT p)) (hB.trans (hBX.mono hB.size)))
        have e1 : ptexts (ps.take (i + 1)) = ptexts (ps.take i) ++ [texB (putC p)] := by
          unfold ptexts
          rw [List.take_add_one, hp]
          simp
        have HS := Lib.hid (And.intro ho (And.intro hB (And.intro e1 hBX)))
        clear ho hB e1 hBX hp
        subst hu
        go_wp2_with fail
        refine HWR.out.mono ?_
        rintro e w2 ⟨rfl, hb2⟩
        obtain ⟨ho, hB, e1, hBX⟩ := HS.out
        have hB2 : Below wr.heap.size wr w2 := hBX.trans (hb2.mono hBX.size)
        obtain ⟨m, hm⟩ : ∃ m, m = i + 1 := ⟨_, rfl⟩
        obtain ⟨a3, c3, w3, hrun, hh⟩ := append_text w2 w.heap.size i m _ _ (texB (putC p)) (Nets.owns_below ho hB2) (by omega) hm (Nat.le_trans hB.size hB2.size)
        have HRUN := Lib.hid hrun
        have HH := Lib.hid (And.intro hh.out.1 (And.intro (hB.trans (hB2.mono hB.size)) (And.intro hh.out.2 hm)))
        clear ho hB e1 hBX hB2 hb2 hrun hh hm
        go_wp2_with (at_builtin; refine Lib.wpList_append_run _ rfl _ _ _ _ rfl _ _ rfl rfl _ _ HRUN.out ?_)
        go_roundw
        case rel =>
          obtain ⟨h1, h2, h3, hm⟩ := HH.out
          obtain ⟨_, _, e1, _⟩ := HS.out
          rw [hm] at h1 ⊢
          refine ⟨i + 1, by simp, hlt, ?_, h2.trans h3⟩
          rw [e1, List.map_append]
          exact h1
        case measure => simp [intOf]; omega
      · obtain rfl : i = N := by omega
        have hcl : ps.take i = ps := by rw [HN.out, List.take_length]
        rw [hcl] at ho
        have HS := Lib.hid (And.intro ho hB)
        clear ho hB hcl
        subst hu
        go_wp2_with fail
        go_ret
        exact ⟨_, rfl, HS.out.1, HS.out.2⟩
end Go.Proofs.YtghpohiinnallaaGreatDoor.Kv

/-
  A store in memory: its own block, its log, its pairs; what tells of it.
-/
namespace Go.Proofs.YtghpohiinnallaaGreatDoor.Kv
open Go Go.RowKit
open Go.Proofs.YtghpohiinnallaaGreatDoor.Disk (St Dk own Fr Lies)
open Go.Proofs.YtghpohiinnallaaGreatDoor.Wal (Wl Wk Log ownW StepW Done Grp)
open Go.Proofs.YtghpohiinnallaaGreatDoor.Batch (less Rising at? lo lo_le at_there at_absent Chg ptr)
open Go.Proofs.YtghpohiinnallaaGreatDoor.Nets (Tab Reads Small)

theorem frB {F : Nat → Prop} {w w' : World} (h : Fr F w w') : Batch.Fr F w w' := ⟨h.os, h.tape, h.output, h.size, h.block⟩
theorem frD {F : Nat → Prop} {w w' : World} (h : Batch.Fr F w w') : Fr F w w' := ⟨h.os, h.tape, h.output, h.size, h.block⟩

structure Sk where
  k : Wk
  ps : Nat
  pv : Value
def cellsS (x : Sk) (q : Nat) (P : List Pr) : Array Value := #[ptr x.k.pw, .int .i64 q, x.pv, .int .i64 (used P)]
/-- The blocks of it that calls turn. -/
def ownS (x : Sk) (b : Nat) : Prop := ownW x.k b ∨ b = x.ps
structure Store (w : World) (x : Sk) (S : St) (L : Wl) (q : Nat) (P : List Pr) : Prop where
  log : Log w x.k S L
  self : Lies w x.ps (cellsS x q P) stT
  pairs : ReadsP w x.pv P
  low : x.k.d.B ≤ x.ps
  nps : ¬ ownW x.k x.ps
  npv : ∀ b, x.pv.ownBlock = some b → ¬ ownS x b
structure StepS (w : World) (x : Sk) (w' : World) (x' : Sk) : Prop where
  fr : Fr (ownS x) w w'
  B : x'.k.d.B = x.k.d.B
  pb : x'.k.d.pb = x.k.d.pb
  pw : x'.k.pw = x.k.pw
  ps : x'.ps = x.ps
  own : ∀ b, ownS x' b → ownS x b ∨ w.heap.size ≤ b
theorem StepS.refl (w : World) (x : Sk) : StepS w x w x := ⟨Fr.refl _ _, rfl, rfl, rfl, rfl, fun _ h => .inl h⟩
theorem StepS.trans {w w1 w2 : World} {x x1 x2 : Sk} (h : StepS w x w1 x1) (g : StepS w1 x1 w2 x2) : StepS w x w2 x2 := by
  refine ⟨h.fr.trans g.fr fun i hi e => ?_, g.B.trans h.B, g.pb.trans h.pb, g.pw.trans h.pw, g.ps.trans h.ps, fun b e => ?_⟩
  · rcases h.own i e with e | e
    · exact e
    · omega
  · rcases g.own b e with e | e
    · exact h.own b e
    · exact .inr (Nat.le_trans h.fr.size e)
theorem StepS.of_below {w w' : World} (x : Sk) (h : Below w.heap.size w w') : StepS w x w' x := ⟨Fr.of_below h, rfl, rfl, rfl, rfl, fun _ h => .inl h⟩
section
variable {w w' : World} {x : Sk} {S S' : St} {L L' : Wl} {q : Nat} {P : List Pr}
theorem Store.own_lt (h : Store w x S L q P) {b : Nat} (hb : ownS x b) : b < w.heap.size ∧ x.k.d.B ≤ b := by
  rcases hb with hb | rfl
  · exact h.log.own_lt hb
  · exact ⟨h.self.lt, h.low⟩
theorem Store.frame {F : Nat → Prop} (h : Store w x S L q P) (hf : Fr F w w') (hF : ∀ b, F b → ¬ ownS x b) (hP : ∀ b, x.pv.ownBlock = some b → ¬ F b) : Store w' x S L q P :=
  ⟨h.log.frame hf fun b e o => hF b e (.inl o), h.self.same (hf.block _ h.self.lt fun e => hF _ e (.inr rfl)), h.pairs.frame (frB hf) hP, h.low, h.nps, h.npv⟩
theorem Store.below (h : Store w x S L q P) (hb : Below w.heap.size w w') : Store w' x S L q P := h.frame (F := fun _ => False) (Fr.of_below hb) (fun _ e => e.elim) fun _ _ e => e
theorem Store.cells (h : Store w x S L q P) : w.cell? ⟨x.ps, 0, none⟩ = some (ptr x.k.pw) ∧ w.cell? ⟨x.ps, 1, none⟩ = some (.int .i64 q) ∧ w.cell? ⟨x.ps, 2, none⟩ = some x.pv ∧ w.cell? ⟨x.ps, 3, none⟩ = some (.int .i64 (used P)) :=
  ⟨h.self.cell 0, h.self.cell 1, h.self.cell 2, h.self.cell 3⟩
theorem Store.free (h : Store w x S L q P) (j : Nat) : w.frozen? ⟨x.ps, j, none⟩ = false := h.self.free j
/-- A call on its log. -/
theorem Store.logged (h : Store w x S L q P) (hd : Done w x.k S' L' w') : ∃ k', Store w' { x with k := k' } S' L' q P ∧ StepS w x w' { x with k := k' } := by
  obtain ⟨k', hl, hs⟩ := hd
  have hlt := h.self.lt
  have hown : ∀ b, ownW k' b → ownW x.k b ∨ w.heap.size ≤ b := hs.own
  have hcs : cellsS { x with k := k' } q P = cellsS x q P := by unfold cellsS; rw [hs.pw]
  refine ⟨k', ⟨hl, ?_, h.pairs.frame (frB hs.fr) fun b hb e => h.npv b hb (.inl e), by show k'.d.B ≤ x.ps; rw [hs.B]; exact h.low, fun e => ?_, fun b hb e => ?_⟩, hs.fr.mono fun _ _ e => .inl e, hs.B, hs.pb, hs.pw, rfl, fun b hb => ?_⟩
  · rw [hcs]
    exact h.self.same (hs.fr.block _ hlt h.nps)
  · rcases hown _ e with e | e
    · exact h.nps e
    · have : w.heap.size ≤ x.ps := e
      omega
  · rcases e with e | e
    · rcases hown _ e with e | e
      · exact h.npv b hb (.inl e)
      · have := h.pairs.lt b hb
        omega
    · exact h.npv b hb (.inr e)
  · rcases hb with hb | hb
    · rcases hown _ hb with e | e
      · exact .inl (.inl e)
      · exact .inr e
    · exact .inl (.inr hb)
/-- Other pairs: a list that is new. -/
theorem Store.setPairs (h : Store w x S L q P) (v : Value) (P' : List Pr) (hr : ReadsP w v P') (hn : ∀ b, v.ownBlock = some b → ¬ ownS x b) :
    Store ((w.setCell ⟨x.ps, 2, none⟩ v).setCell ⟨x.ps, 3, none⟩ (.int .i64 (used P'))) { x with pv := v } S L q P' ∧ StepS w x ((w.setCell ⟨x.ps, 2, none⟩ v).setCell ⟨x.ps, 3, none⟩ (.int .i64 (used P'))) { x with pv := v } := by
  have hf : Fr (fun b => b = x.ps) w ((w.setCell ⟨x.ps, 2, none⟩ v).setCell ⟨x.ps, 3, none⟩ (.int .i64 (used P'))) := (Fr.one w x.ps 2 v).trans (Fr.one _ x.ps 3 _) fun _ _ e => e
  refine ⟨⟨h.log.frame hf fun b e o => h.nps (e ▸ o), (h.self.set 2 v).set 3 _, hr.frame (frB hf) fun b hb e => hn b hb (.inr e), h.low, h.nps, hn⟩, hf.mono fun _ _ e => .inr e, rfl, rfl, rfl, rfl, fun b hb => .inl hb⟩

/-! What tells of it. -/
set_option maxHeartbeats 1000000 in
theorem usedS (h : Store w x S L q P) : Calls Tryz.prog 13 #[ptr x.ps] w fun e w' => e = .returned (.int .i64 (used P)) ∧ w' = w := by
  obtain ⟨c0, c1, c2, c3⟩ := h.cells
  clear h
  go_enter Tryz.func13, Tryz.ntmps13
  go_wp2_with fail
  go_ret
  exact ⟨rfl, rfl⟩
theorem quotaS (h : Store w x S L q P) : Calls Tryz.prog 17 #[ptr x.ps] w fun e w' => e = .returned (.int .i64 q) ∧ w' = w := by
  obtain ⟨c0, c1, c2, c3⟩ := h.cells
  clear h
  go_enter Tryz.func17, Tryz.ntmps17
  go_wp2_with fail
  go_ret
  exact ⟨rfl, rfl⟩
theorem lenS (h : Store w x S L q P) : Calls Tryz.prog 15 #[ptr x.ps] w fun e w' => e = .returned (.int .i64 P.length) ∧ w' = w := by
  obtain ⟨c0, c1, c2, c3⟩ := h.cells
  obtain ⟨a, c, e⟩ := h.pairs.shape
  rw [e] at c2
  clear h e
  go_enter Tryz.func15, Tryz.ntmps15
  go_wp2_with fail
  go_ret
  exact ⟨rfl, rfl⟩
theorem halfS (h : Store w x S L q P) : Calls Tryz.prog 16 #[ptr x.ps] w fun e w' => e = .returned (.int .i64 L.half) ∧ w' = w := by
  obtain ⟨c0, c1, c2, c3⟩ := h.cells
  have HH := Lib.hid (Wal.halfW h.log)
  clear h
  go_enter Tryz.func16, Tryz.ntmps16
  go_wp2_with fail
  refine HH.out.mono ?_
  rintro e w1 ⟨rfl, rfl⟩
  go_wp2_with fail
  go_ret
  exact ⟨rfl, rfl⟩
/-- What stands under a key. -/
def getV (k : ByteArray) (P : List Pr) : ByteArray := match at? Pr.key k P with | some p => p.val | none => ⟨#[]⟩
set_option maxHeartbeats 1000000 in
theorem getS (h : Store w x S L q P) (hr : Rising Pr.key P) (hl : P.length ≤ 100000) (k : ByteArray) :
    Calls Tryz.prog 18 #[ptr x.ps, .string k] w fun e w' => e = .returned (.tuple #[.string (getV k P), .bool (at? Pr.key k P).isSome]) ∧ Below w.heap.size w w' := by
  obtain ⟨c0, c1, c2, c3⟩ := h.cells
  have HF := Lib.hid (findP_any x.pv P k w h.pairs hr (by omega))
  have HS := Lib.hid h
  cases ha : at? Pr.key k P with
  | none =>
    rw [ha] at HF
    have e1 : getV k P = ⟨#[]⟩ := by unfold getV; rw [ha]
    rw [e1]
    clear h hr ha e1
    go_enter Tryz.func18, Tryz.ntmps18
    go_wp2_with fail
    refine HF.out.mono ?_
    rintro e w1 ⟨rfl, hb⟩
    have HB := Lib.hid hb
    clear hb
    go_wp2_with fail
    go_ret2
    exact ⟨rfl, HB.out⟩
  | some p =>
    rw [ha] at HF
    have e1 : getV k P = p.val := by unfold getV; rw [ha]
    rw [e1]
    obtain ⟨hlt, hat⟩ := at_there Pr.key hr ha
    rcases h.pairs.cases with ⟨_, e⟩ | ⟨b, off, cap, hv, hrow⟩
    · rw [e] at hlt; exact absurd hlt (by simp)
    · have HR := Lib.hid (fun (W : World) (hW : Below w.heap.size w W) => (two (Batch.range_below (hrow.at_ _ _ hat) hrow.lt hW)).2)
      have HC := Lib.hid (fun (W : World) (hW : Below w.heap.size w W) => (h.below hW).cells.2.2.1)
      obtain ⟨n, hn⟩ : ∃ n, n = P.length := ⟨_, rfl⟩
      rw [← hn] at hlt hv
      rw [hv] at c2 HC HF
      generalize lo Pr.key k P = i at *
      clear h hr ha e1 hat hrow hv hn
      go_enter Tryz.func18, Tryz.ntmps18
      go_wp2_with fail
      refine HF.out.mono ?_
      rintro e w1 ⟨rfl, hb⟩
      have HB := Lib.hid hb
      have d2 := HC.out w1 hb
      have d5 := HR.out w1 hb
      clear hb
      go_wp2_with fail
      go_ret2
      exact ⟨rfl, HB.out⟩
end
end Go.Proofs.YtghpohiinnallaaGreatDoor.Kv
