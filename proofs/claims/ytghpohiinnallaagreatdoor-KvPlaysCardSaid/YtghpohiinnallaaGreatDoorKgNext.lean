/-
  Walk of next: what pairs there would be with changes done.
-/
import Derived.Test.YtghpohiinnallaaGreatDoorKgOn
import Derived.Test.YtghpohiinnallaaGreatDoorKgSetB

/-
  What KvCrash rests on: changes that a batch takes, made in it; pairs with changes done, one behind the other.
-/
namespace Go.Proofs.YtghpohiinnallaaGreatDoor.Batch
open Go Go.RowKit
open Go.Proofs.YtghpohiinnallaaGreatDoor.Sha (Kept wp_region_kept quiet_load_row)
theorem sizeF3 : (Tryz.prog.info? refT).map (·.size) = some 3 := by kernel_rfl

theorem range_fr {w W : World} {F : Nat → Prop} {b o : Nat} {cs : List Value} (h : w.rangeAt b o cs) (hl : b < w.heap.size) (hf : Fr F w W) (hn : ¬ F b) : W.rangeAt b o cs := fun j v hv => by
  rw [World.cell?_of_block (a := ⟨b, o + j, none⟩) (hf.block b hl hn)]
  exact h j v hv
set_option maxRecDepth 100000 in
set_option maxHeartbeats 8000000 in
theorem make_new {w : World} {d : Bt} (h : Mem w d []) (v : Value) (l : List Chg) (hr : ReadsC w v l) (hn : ∀ k, v.ownBlock = some k → ¬ own d k) (ho : ∀ c ∈ l, OkC c) (hl : l.length ≤ 40) :
    Calls Tryz.prog 31 #[ptr d.pb, v] w (MakePost w d l) := by
  rcases hr with ⟨a, cap, rfl, rfl⟩ | ⟨h0, b, off, cap, rfl, h3, h4⟩
  · have HM := Lib.hid h
    go_enter Tryz.func31, Tryz.ntmps31
    go_wp2_with fail
    go_loopw [6, 7] (fun qv i wr => qv = .slice none 0 0 ∧ i = .int .i64 0 ∧ wr = w) (fun _ i _ => 0 - (intOf i).toNat)
    case atStart => exact ⟨rfl, rfl, rfl⟩
    case round =>
      obtain ⟨rfl, rfl, rfl⟩ := hrel
      go_wp2_with fail
      go_ret2
      exact ⟨_, d, rfl, nil_reads _, fun k hk => (by cases hk), HM.out, Step.refl _ _⟩
  · have HC := Lib.hid h4
    have HO := Lib.hid ho
    have HM := Lib.hid h
    have HCL := Lib.hid (fun (W : World) (hW : Fr (own d) w W) (k : Nat) (x : Chg) (hx : l[k]? = some x) => three (range_fr (HC.out k x hx) h3 hW (hn b rfl)))
    clear h4 ho h h3 hn
    go_enter Tryz.func31, Tryz.ntmps31
    go_wp2_with fail
    go_loopw [6, 7] (fun qv i wr => MakeAt w d l qv i wr) (fun _ i _ => l.length - (intOf i).toNat)
    case atStart => exact ⟨0, _, d, Nat.zero_le _, rfl, rfl, nil_reads _, fun k hk => (by cases hk), HM.out, Step.refl _ _⟩
    case round =>
      obtain ⟨k, ov, d', hk, rfl, rfl, hrd, hbe, hmm, hst⟩ := hrel
      have HST := Lib.hid (And.intro hrd (And.intro hbe (And.intro hmm hst)))
      have HBW : Hid (Fr (own d) w wr) := Lib.hid hst.fr
      have hpb : d'.pb = d.pb := hst.pb
      have hG := good_madeL (l.take k)
      have hql := madeL_length (l.take k)
      by_cases hlt : k < l.length
      · obtain ⟨x, hkx⟩ : ∃ x, l[k]? = some x := ⟨l[k], List.getElem?_eq_getElem hlt⟩
        have hox := HO.out x (List.mem_of_getElem? hkx)
        obtain ⟨c0, c1, c2⟩ := HCL.out wr HBW.out k x hkx
        have HX := Lib.hid hkx
        have HSET := Lib.hid (refSet_any ov (madeL (l.take k)) x wr hrd hG hox.1 hox.2)
        have HSTEP := Lib.hid (fun w2 w3 ov2 d2 hr2 hb2 ho2 hm3 hs3 => make_step (w2 := w2) (w3 := w3) (ov2 := ov2) (d2 := d2) hkx hmm hst hbe hr2 hb2 ho2 hm3 hs3)
        obtain ⟨xk, xv, g⟩ := x
        have HPUT := Lib.hid (fun W (hW : Below wr.heap.size wr W) => put_any (hmm.below hW) hG xk xv hox.1 hox.2)
        have HDEL := Lib.hid (fun W (hW : Below wr.heap.size wr W) => del_any (hmm.below hW) hG xk hox.1)
        rw [hpb] at HPUT HDEL
        clear hrd hbe hmm hst hG hox hkx hql
        cases g
        · rw [norm_false] at HSET HSTEP
          generalize madeL (l.take k) = Q at *
          go_wp2_with fail
          refine HSET.out.mono ?_
          rintro r w2 ⟨ov2, rfl, hr2, hb2, ho2⟩
          have HQ := Lib.hid (And.intro hr2 (And.intro hb2 ho2))
          obtain ⟨oa, oc, rfl⟩ := reads_form hr2
          have HB2 : Hid (Fr (own d) w w2) := Lib.hid (HBW.out.trans (Fr.of_below hb2) fun _ _ e => e)
          have HP2 : Hid (Calls Tryz.prog 38 #[ptr d.pb, .string xk, .string xv] w2.drew (Recorded w2.drew d' Q ⟨xk, xv, false⟩)) := Lib.hid (HPUT.out _ hb2.drew)
          clear hr2 hb2 ho2 c0 c1 c2
          obtain ⟨c0, c1, c2⟩ := HCL.out w2 HB2.out k _ HX.out
          go_wp2_with fail
          go_region_with ((go_at_call 38; refine HP2.out.mono ?_; rintro r w4 ⟨d4, rfl, hm4, hs4⟩; have HD := Lib.hid (And.intro hm4 hs4); clear hm4 hs4))
          all_goals
            have hlen := len_any HD.out.1
            rw [HD.out.2.pb, hpb] at hlen
            have HLEN := Lib.hid hlen
            clear hlen
            go_wp2_with fail
            refine HLEN.out.mono ?_
            rintro r w5 ⟨rfl, rfl⟩
            go_wp2_with fail
            go_roundw
            case rel => exact HSTEP.out w2.drew w4 _ d4 (HQ.out.1.below ((Below.refl _ _).drew)) (HQ.out.2.1.trans (Below.mono ((Below.refl _ _).drew) HQ.out.2.1.size)) HQ.out.2.2 HD.out.1 HD.out.2
            case measure => simp [intOf]; omega
        · rw [norm_true] at HSET HSTEP
          generalize madeL (l.take k) = Q at *
          go_wp2_with fail
          refine HSET.out.mono ?_
          rintro r w2 ⟨ov2, rfl, hr2, hb2, ho2⟩
          have HQ := Lib.hid (And.intro hr2 (And.intro hb2 ho2))
          obtain ⟨oa, oc, rfl⟩ := reads_form hr2
          have HB2 : Hid (Fr (own d) w w2) := Lib.hid (HBW.out.trans (Fr.of_below hb2) fun _ _ e => e)
          have HP2 : Hid (Calls Tryz.prog 59 #[ptr d.pb, .string xk] w2 (Recorded w2 d' Q ⟨xk, ⟨#[]⟩, true⟩)) := Lib.hid (HDEL.out _ hb2)
          clear hr2 hb2 ho2 c0 c1 c2
          obtain ⟨c0, c1, c2⟩ := HCL.out w2 HB2.out k _ HX.out
          go_wp2_with fail
          refine HP2.out.mono ?_
          rintro r w4 ⟨d4, rfl, hm4, hs4⟩
          have HD := Lib.hid (And.intro hm4 hs4)
          clear hm4 hs4
          have hlen := len_any HD.out.1
          rw [HD.out.2.pb, hpb] at hlen
          have HLEN := Lib.hid hlen
          clear hlen
          go_wp2_with fail
          refine HLEN.out.mono ?_
          rintro r w5 ⟨rfl, rfl⟩
          go_wp2_with fail
          go_roundw
          case rel => exact HSTEP.out w2 w4 _ d4 (HQ.out.1.below (Below.refl _ _)) (HQ.out.2.1.trans (Below.mono (Below.refl _ _) HQ.out.2.1.size)) HQ.out.2.2 HD.out.1 HD.out.2
          case measure => simp [intOf]; omega
      · have htk : l.take k = l := List.take_of_length_le (by omega)
        rw [htk] at HST
        clear hrd hbe hmm hst
        go_wp2_with fail
        go_ret2
        exact ⟨_, d', rfl, HST.out.1, HST.out.2.1, HST.out.2.2.1, HST.out.2.2.2⟩

/-! The changes that a batch takes. -/
def fineL (l : List Chg) : List Chg := l.filter fun c => decide (chk c = 0)
theorem fineL_snoc (l : List Chg) (c : Chg) : fineL (l ++ [c]) = fineL l ++ (if chk c = 0 then [c] else []) := by
  unfold fineL
  rw [List.filter_append]
  by_cases h : chk c = 0 <;> simp [h]
theorem fineL_length (l : List Chg) : (fineL l).length ≤ l.length := List.length_filter_le _ _
theorem fineL_mem {l : List Chg} {c : Chg} (h : c ∈ fineL l) : c ∈ l ∧ chk c = 0 := by
  have := List.mem_filter.1 h
  exact ⟨this.1, by simpa using this.2⟩
theorem append_refn (n : Nat) {l : List Chg} (hn : l.length = n) (w : World) (v : Value) (e : Chg) (B : Nat) (ho : w.ownsRow B refT 3 v n (l.flatMap chC)) (hl : n ≤ 100000) (hB : B ≤ w.heap.size) :
    ∃ v' w', (Builtin.append_ #[refsT, refsT] refsT #[v, .slice (some ⟨w.heap.size, 0, none⟩) 1 1]).run Tryz.prog (w.alloc (boxC refT e)) = .ok v' w' ∧
      Hid (w'.ownsRow B refT 3 v' (n + 1) ((l ++ [e]).flatMap chC) ∧ Below B w w') := by
  subst hn
  obtain ⟨v', w', h1, h2⟩ := append_ref w v l e B ho hl hB
  rw [List.length_append, List.length_singleton] at h2
  exact ⟨v', w', h1, h2⟩
def FinePost (w : World) (l : List Chg) (e : Ending) (w' : World) : Prop := ∃ u, e = .returned u ∧ w'.ownsRow w.heap.size refT 3 u (fineL l).length ((fineL l).flatMap chC) ∧ Below w.heap.size w w'
set_option maxRecDepth 100000 in
set_option maxHeartbeats 4000000 in
theorem fine_any (v : Value) (l : List Chg) (w : World) (h : ReadsC w v l) (hl : LightL l) : Calls Tryz.prog 53 #[v] w (FinePost w l) := by
  obtain ⟨va, cap, rfl⟩ := reads_form h
  obtain ⟨n, hn⟩ : ∃ n, n = l.length := ⟨_, rfl⟩
  rw [← hn]
  have hn40 : n ≤ 40 := by have := hl.1; omega
  have HC : Hid (∀ k x, l[k]? = some x → ∃ b off, va = some ⟨b, off, none⟩ ∧ b < w.heap.size ∧ w.rangeAt b (off + k * 3) (chC x)) := Lib.hid (fun k x hx => by
    rcases h with ⟨a, cap, e, rfl⟩ | ⟨h0, b, off, cap, e, h3, h4⟩
    · simp at hx
    · obtain ⟨rfl, -, -⟩ := Value.slice.inj e
      exact ⟨b, off, rfl, h3, h4 k x hx⟩)
  have HN := Lib.hid (And.intro hn hl)
  clear h hn hl
  go_enter Tryz.func53, Tryz.ntmps53
  go_wp2_with fail
  go_loopw [3, 4] (fun u i wr => ∃ k m : Nat, k ≤ n ∧ m ≤ 40 ∧ i = .int .i64 k ∧ (fineL (l.take k)).length = m ∧ wr.ownsRow w.heap.size refT 3 u m ((fineL (l.take k)).flatMap chC) ∧ Below w.heap.size w wr) (fun _ i _ => n - (intOf i).toNat)
  case atStart => exact ⟨0, 0, Nat.zero_le _, Nat.zero_le _, rfl, rfl, World.ownsRow_nil _ _ _ _, Below.refl _ _⟩
  case round =>
    obtain ⟨k, m, hk, hm40, rfl, hm, ho, hb⟩ := hrel
    obtain ⟨ua, uc, hu⟩ := owns_slice ho
    subst hu
    by_cases hlt : k < n
    · obtain ⟨c, hc⟩ : ∃ c, l[k]? = some c := ⟨l[k]'(by have := HN.out.1; omega), List.getElem?_eq_getElem _⟩
      obtain ⟨b, off, rfl, hbl, hr⟩ := HC.out k c hc
      obtain ⟨c0, c1, c2⟩ := three (range_below hr hbl hb)
      have hlc := HN.out.2.2 c (List.mem_of_getElem? hc)
      have hsz : c.key.size ≤ 300 ∧ c.val.size ≤ 1000 := hlc
      have HR1 := Lib.hid (fun (W : World) (hk : Kept wr W) => range_below hr hbl (hb.trans (Below.mono hk hb.size)))
      have HR1c := Lib.hid (fun (W : World) (hk : Kept wr W) => three (range_below hr hbl (hb.trans (Below.mono hk hb.size))))
      obtain ⟨cd, hcd⟩ : ∃ cd, chk c = cd := ⟨_, rfl⟩
      have HFT := Lib.hid (fun W => fits_any c W (by omega) (by omega) cd hcd)
      have hsn := fineL_snoc (l.take k) c
      have htk : l.take (k + 1) = l.take k ++ [c] := by rw [List.take_add_one, hc]; rfl
      rw [← htk, hcd] at hsn
      have HH := Lib.hid (And.intro hsn (And.intro ho hb))
      have HM := Lib.hid hm
      have HCW := Lib.hid (fun (W : World) (hW : Below w.heap.size w W) => three (range_below hr hbl hW))
      clear HR1 HR1c
      by_cases h0 : cd = 0
      · subst h0
        clear hsn ho hb hc hr hbl hlc hsz hcd hm htk
        go_wp2_with fail
        refine (HFT.out _).mono ?_
        rintro e' w1 ⟨rfl, hb1⟩
        have HB1 := Lib.hid (And.intro hb1 (HH.out.2.2.trans (hb1.mono HH.out.2.2.size)))
        obtain ⟨d0, d1, d2⟩ := HCW.out _ HB1.out.2
        have hows := Nets.owns_below HH.out.2.1 hb1
        obtain ⟨v', w3, hrun, hh⟩ := append_refn m HM.out w1 (.slice ua m uc) c w.heap.size hows (by omega) HB1.out.2.size
        have HRUN := Lib.hid hrun
        clear hb1 c0 c1 c2 hows hrun HFT
        go_wp2_with (at_builtin; refine Lib.wpList_append_run _ rfl _ _ _ _ rfl _ _ rfl rfl _ _ HRUN.out ?_)
        go_roundw
        case rel =>
          refine ⟨k + 1, m + 1, by omega, ?_, by simp, ?_, ?_, HB1.out.2.trans hh.out.2⟩
          · have h1 := fineL_length (l.take (k + 1))
            rw [HH.out.1, if_pos trivial, List.length_append, HM.out, List.length_take, List.length_singleton] at h1
            omega
          · rw [HH.out.1, if_pos trivial, List.length_append, HM.out, List.length_singleton]
          · rw [HH.out.1, if_pos trivial]
            exact hh.out.1
        case measure => simp [intOf]; omega
      · have hg : cd ≠ 0 → c.gone = true → c.key.size ≠ 0 → ¬ c.key.size ≤ 200 := fun h1 _ h2 h3 => h1 (by
          rw [← hcd]
          unfold chk
          rw [if_neg h2, if_neg (by omega)])
        have h00 : ((cd : Int) == 0) = false := by simpa using h0
        obtain ⟨ck, cv, cg⟩ := c
        clear hsn ho hb hc hr hbl hlc hcd hm htk
        go_wp2_with fail
        refine (HFT.out _).mono ?_
        rintro e' w1 ⟨rfl, hb1⟩
        have HB1 := Lib.hid (And.intro hb1 (HH.out.2.2.trans (hb1.mono HH.out.2.2.size)))
        have HOW := Lib.hid (Nets.owns_below HH.out.2.1 hb1)
        obtain ⟨d0, d1, d2⟩ := HCW.out _ HB1.out.2
        clear hb1 c0 c1 c2 HFT
        have HREL : Hid (∃ j m' : Nat, j ≤ n ∧ m' ≤ 40 ∧ Value.int .i64 ((k : Int) + 1) = .int .i64 j ∧ (fineL (l.take j)).length = m' ∧ w1.ownsRow w.heap.size refT 3 (.slice ua m uc) m' ((fineL (l.take j)).flatMap chC) ∧ Below w.heap.size w w1) := Lib.hid (by
          have e := HH.out.1
          rw [if_neg h0, List.append_nil] at e
          exact ⟨k + 1, m, by omega, hm40, by simp, by rw [e]; exact HM.out, by rw [e]; exact HOW.out, HB1.out.2⟩)
        cases cg
        · go_wp2_with fail
          go_roundw
          case rel => exact HREL.out
          case measure => simp [intOf]; omega
        · by_cases hz : ck.size = 0
          · have e1 := emp_true ck hz
            go_wp2_with fail
            go_roundw
            case rel => exact HREL.out
            case measure => simp [intOf]; omega
          · have h200 := hg h0 rfl hz
            have e1 := emp_false ck (by omega)
            have hd : decide ((ck.size : Int) ≤ 200) = false := decide_eq_false (by simp at h200; omega)
            go_wp2_with fail
            go_roundw
            case rel => exact HREL.out
            case measure => simp [intOf]; omega
    · have htk : l.take k = l := List.take_of_length_le (by have := HN.out.1; omega)
      rw [htk] at ho hm
      have ho2 : wr.ownsRow w.heap.size refT 3 (.slice ua m uc) (fineL l).length ((fineL l).flatMap chC) := by rw [hm]; exact ho
      have HO := Lib.hid (And.intro ho2 hb)
      clear ho hb htk hm ho2
      go_wp2_with fail
      go_ret
      exact ⟨_, rfl, HO.out.1, HO.out.2⟩
end Go.Proofs.YtghpohiinnallaaGreatDoor.Batch

/-
  Pairs with changes done, one behind the other, as a law does it by itself: the plain part.
-/
namespace Go.Proofs.YtghpohiinnallaaGreatDoor.Kv
open Go
open Go.Proofs.YtghpohiinnallaaGreatDoor.Batch

section
variable {α : Type} (nm : α → ByteArray)
def after (x y : α) : Bool := less (nm x) (nm y)
/-- The loop over a sorted list, the place found at the first that is greater. -/
def flag2 (ok : Bool) (x : α) (p : List α) : Bool := !ok || p.any fun y => less (nm x) (nm y)
def outs2 (ok : Bool) (x : α) (p : List α) : List α := if ok && p.any (fun y => less (nm x) (nm y)) then put nm x p else del nm (nm x) p
theorem flag2_snoc (ok : Bool) (x : α) (p : List α) (y : α) : flag2 nm ok x (p ++ [y]) = (flag2 nm ok x p || less (nm x) (nm y)) := by
  unfold flag2
  rw [List.any_append]
  cases ok <;> simp
theorem flag2_nil (ok : Bool) (x : α) : flag2 nm ok x [] = !ok := by cases ok <;> rfl
theorem outs2_nil (ok : Bool) (x : α) : outs2 nm ok x [] = [] := by cases ok <;> rfl
theorem none_after {x : α} {p : List α} (h : (p.any fun y => less (nm x) (nm y)) = false) : ∀ y ∈ p, less (nm x) (nm y) = false := by
  intro y hy
  rw [List.any_eq_false] at h
  simpa using h y hy
theorem outs2_snoc (ok : Bool) (x : α) (p : List α) (y : α) (hr : Rising nm (p ++ [y])) :
    outs2 nm ok x (p ++ [y]) = outs2 nm ok x p ++ (if flag2 nm ok x p = false ∧ less (nm x) (nm y) = true then [x] else []) ++ (if nm y = nm x then [] else [y]) := by
  obtain ⟨_, _, h3⟩ := List.pairwise_append.1 hr
  cases ok
  · unfold outs2 flag2
    simp only [Bool.false_and, Bool.false_eq_true, if_false, Bool.not_false, Bool.true_or, Bool.true_eq_false, false_and, List.append_nil]
    exact del_snoc nm (nm x) p y
  · unfold outs2 flag2
    simp only [Bool.true_and, Bool.not_true, Bool.false_or, List.any_append, List.any_cons, List.any_nil, Bool.or_false]
    cases ha : p.any fun y => less (nm x) (nm y)
    · have hn := none_after nm ha
      simp only [Bool.false_or, true_and]
      cases hy : less (nm x) (nm y)
      · simp only [Bool.false_eq_true, if_false, List.append_nil]
        exact del_snoc nm (nm x) p y
      · have hne : nm y ≠ nm x := fun e => by rw [e, less_irrefl] at hy; cases hy
        simp only [if_true, if_neg hne, Bool.false_eq_true, if_false]
        unfold put
        rw [del_snoc, if_neg hne, ins_last nm x y hy, ins_end nm x _ fun z hz => hn z (del_mem nm hz)]
    · obtain ⟨z, hz, hxz⟩ := List.any_eq_true.1 ha
      have hy : less (nm x) (nm y) = true := less_trans hxz (h3 z hz y (by simp))
      have hne : nm y ≠ nm x := fun e => by rw [e, less_irrefl] at hy; cases hy
      simp only [Bool.true_or, if_true, Bool.true_eq_false, false_and, if_false, List.append_nil, if_neg hne]
      unfold put
      rw [del_snoc, if_neg hne, ins_last nm x y hy]
theorem outs2_end (ok : Bool) (x : α) (l : List α) : sets nm ok x l = outs2 nm ok x l ++ (if flag2 nm ok x l = false then [x] else []) := by
  unfold sets outs2 flag2
  cases ok
  · simp
  · simp only [if_true, Bool.true_and, Bool.not_true, Bool.false_or]
    cases ha : l.any fun y => less (nm x) (nm y)
    · have hn := none_after nm ha
      simp only [Bool.false_eq_true, if_false, if_true]
      unfold put
      rw [ins_end nm x _ fun z hz => hn z (del_mem nm hz)]
    · simp
theorem outs2_length (ok : Bool) (x : α) (p : List α) : (outs2 nm ok x p).length ≤ p.length + 1 := by
  unfold outs2
  split
  · exact put_length nm x p
  · have := del_length nm (nm x) p; omega
end
/-- What a batch of good changes does is what they do one behind the other. -/
theorem made_last {l : List Chg} (hl : l.length ≤ 2000) (hc : ∀ c ∈ l, chk c.norm = 0) (n : ByteArray) : (at? Chg.key n (madeL l)).map eff = (last n l).map eff := by
  revert hl hc
  refine snoc_ind (p := fun l => l.length ≤ 2000 → (∀ c ∈ l, chk c.norm = 0) → (at? Chg.key n (madeL l)).map eff = (last n l).map eff) (fun _ _ => rfl) (fun l c ih hl hc => ?_) l
  rw [List.length_append, List.length_singleton] at hl
  have hml := madeL_length l
  have h0 : code (madeL l) c.norm = 0 := by
    unfold code
    rw [hc c (by simp), if_neg (by simp), if_neg (by omega)]
  have hm : made (madeL l) c.norm = put Chg.key c.norm (madeL l) := by unfold made; rw [if_pos h0]
  have hr := (good_madeL l).rise
  rw [madeL_snoc, hm, last_snoc]
  have he : eff c.norm = eff c := by
    unfold eff
    rw [norm_gone]
    cases hg : c.gone
    · have : c.norm = c := by unfold Chg.norm; rw [hg]; rfl
      rw [this]
    · rfl
  by_cases e : c.key = n
  · rw [if_pos e, ← e]
    have := at_put_same Chg.key c.norm hr
    rw [norm_key] at this
    rw [this]
    show some (eff c.norm) = some (eff c)
    rw [he]
  · rw [if_neg e, at_put_other Chg.key c.norm hr (by rw [norm_key]; exact fun e' => e e'.symm)]
    exact ih (by omega) fun c hc' => hc c (by simp [hc'])
theorem done_made {P : List Pr} (hP : Rising Pr.key P) {l : List Chg} (hl : l.length ≤ 2000) (hc : ∀ c ∈ l, chk c.norm = 0) : done P (madeL l) = done P l := by
  refine done_same hP fun n => ?_
  rw [last_rising (good_madeL l).rise]
  exact made_last hl hc n
theorem chk_norm {c : Chg} (h : chk c = 0) : chk c.norm = 0 := by
  obtain ⟨h1, h2, h3⟩ := fits_size h
  have h4 := norm_val c
  unfold chk
  rw [norm_key, if_neg (by omega), if_neg (by omega)]
end Go.Proofs.YtghpohiinnallaaGreatDoor.Kv

/-
  Walk of the laws' own next: pairs with changes done, one behind the other.
-/
namespace Go.Proofs.YtghpohiinnallaaGreatDoor.Kv
open Go Go.RowKit
open Go.Proofs.YtghpohiinnallaaGreatDoor.Batch (less Rising at? Chg ReadsC refT chC boxC OkC sets)

theorem append_onep (mo : Nat) {us : List Pr} (hn : us.length = mo) (W : World) (B : Nat) (ou : Value) (y : Pr) (ho : W.ownsRow B prT 2 ou mo (us.flatMap prC)) (hl : mo ≤ 100000) (hB : B ≤ W.heap.size) :
    ∃ a c w', (Builtin.append_ #[prsT, prsT] prsT #[ou, .slice (some ⟨W.heap.size, 0, none⟩) 1 1]).run Tryz.prog (W.alloc (boxP prT y)) = .ok (.slice a (mo + 1) c) w' ∧
      Hid (w'.ownsRow B prT 2 (.slice a (mo + 1) c) (mo + 1) ((us ++ [y]).flatMap prC) ∧ Below B W w') := by
  have hal : Below B W (W.alloc (boxP prT y)) := (Below.refl _ _).alloc hB _
  obtain ⟨a, c, w', h1, h2⟩ := append_pn mo hn (W.alloc (boxP prT y)) B ou (.slice (some ⟨W.heap.size, 0, none⟩) 1 1) [y] (mo + 1) (by simp [hn]) (ho.alloc _) (reads_oneP (heap_alloc_new W _)) (by omega) (by simp; omega)
  exact ⟨a, c, w', h1, Lib.hid ⟨h2.out.1, hal.trans h2.out.2.2⟩⟩
theorem gt_key {a b : ByteArray} {ek : Bool} (h : decide (b = a) = ek) : (!Op.bytesLess b.toList a.toList && !ek) = less a b := by
  rw [Batch.less_toList]
  subst h
  cases h1 : less a b
  · cases h2 : less b a
    · have : b = a := by
        rcases Decidable.em (b = a) with e | e
        · exact e
        · have := Batch.less_total h1 e
          rw [this] at h2; cases h2
      simp [this]
    · rfl
  · have h2 := Batch.less_asymm h1
    have h3 : b ≠ a := fun e => by rw [e, Batch.less_irrefl] at h1; cases h1
    simp [h2, h3]
/-- The inner loop's state. -/
def InAt (W1 : World) (ok : Bool) (x : Pr) (A : List Pr) (m : Nat) (ou pv kv : Value) (wr : World) : Prop :=
  ∃ j mo : Nat, j ≤ m ∧ kv = .int .i64 j ∧ (outs2 Pr.key ok x (A.take j)).length = mo ∧ mo ≤ m + 1 ∧ pv = .bool (flag2 Pr.key ok x (A.take j)) ∧ wr.ownsRow W1.heap.size prT 2 ou mo ((outs2 Pr.key ok x (A.take j)).flatMap prC) ∧ Below W1.heap.size W1 wr
def NextPost (w : World) (v : Value) (T : List Pr) (e : Ending) (w' : World) : Prop := ∃ u, e = .returned u ∧ ReadsP w' u T ∧ Below w.heap.size w w' ∧ ∀ b, u.ownBlock = some b → v.ownBlock = some b ∨ w.heap.size ≤ b
set_option maxRecDepth 100000 in
set_option maxHeartbeats 8000000 in
theorem next_any (v cv : Value) (P : List Pr) (l : List Chg) (w : World) (h : ReadsP w v P) (hc : ReadsC w cv l) (hP : Rising Pr.key P) (hPl : P.length ≤ 5000) (hll : l.length ≤ 40) :
    Calls Tryz.prog 54 #[v, cv] w (NextPost w v (done P l)) := by
  obtain ⟨va, vc, hv⟩ := h.shape
  obtain ⟨ca, cc, rfl⟩ := Batch.reads_form hc
  obtain ⟨n, hn⟩ : ∃ n, n = l.length := ⟨_, rfl⟩
  rw [← hn]
  have HC : Hid (∀ k c, l[k]? = some c → ∃ b off, ca = some ⟨b, off, none⟩ ∧ b < w.heap.size ∧ w.rangeAt b (off + k * 3) (chC c)) := Lib.hid (fun k c hx => by
    rcases hc with ⟨a, cap, e, rfl⟩ | ⟨h0, b, off, cap, e, h3, h4⟩
    · simp at hx
    · obtain ⟨rfl, -, -⟩ := Value.slice.inj e
      exact ⟨b, off, rfl, h3, h4 k c hx⟩)
  have HN := Lib.hid (And.intro hn (And.intro hP (And.intro hPl (And.intro h hv))))
  have hn40 : n ≤ 40 := by omega
  obtain ⟨m0, hm0⟩ : ∃ m0, P.length = m0 := ⟨_, rfl⟩
  rw [hm0] at hv
  clear h hc hn hP hll
  subst hv
  go_enter Tryz.func54, Tryz.ntmps54
  go_wp2_with fail
  go_loopw [0, 5] (fun lv iv wr => ∃ (i m : Nat) (a : Option Addr) (c : Nat), i ≤ n ∧ iv = .int .i64 i ∧ (done P (l.take i)).length = m ∧ m ≤ 5000 + i ∧ lv = .slice a m c ∧ ReadsP wr (.slice a m c) (done P (l.take i)) ∧ (∀ b, (Value.slice a m c).ownBlock = some b → (Value.slice va m0 vc).ownBlock = some b ∨ w.heap.size ≤ b) ∧ Below w.heap.size w wr) (fun _ i _ => n - (intOf i).toNat)
  case atStart =>
    obtain ⟨h1, h2, h3, h4, h5⟩ := HN.out
    exact ⟨0, m0, va, vc, Nat.zero_le _, rfl, hm0, by omega, rfl, (by rw [hm0] at h5; rw [← h5]; exact h4), fun b hb => .inl hb, Below.refl _ _⟩
  case round =>
    obtain ⟨i, m, a, c, hi, rfl, hm, hm5, rfl, hr, hob, hb⟩ := hrel
    by_cases hlt : i < n
    · obtain ⟨ch, hch⟩ : ∃ ch, l[i]? = some ch := ⟨l[i]'(by have := HN.out.1; omega), List.getElem?_eq_getElem _⟩
      obtain ⟨cb, co, rfl, hcb, hcr⟩ := HC.out i ch hch
      obtain ⟨c0, c1, c2⟩ := Batch.three (Batch.range_below hcr hcb hb)
      have hris : Rising Pr.key (done P (l.take i)) := done_rising HN.out.2.1 _
      have ht : done P (l.take (i + 1)) = one (done P (l.take i)) ch := by rw [List.take_add_one, hch]; exact done_snoc _ _ _
      have hBX : Below wr.heap.size wr (wr.alloc (boxC refT ch)) := (Below.refl _ _).alloc (Nat.le_refl _) _
      have HBX := Lib.hid (And.intro (hb.trans (hBX.mono hb.size)) (And.intro (hr.below hBX) (Batch.new_box wr refT ch)))
      have HT := Lib.hid (And.intro ht (And.intro hm hris))
      generalize done P (l.take i) = A at *
      clear hcr hch hr ht hm hris hBX
      have hg : wr.heap.size < (wr.alloc (boxC refT ch)).heap.size := by simp
      have HG := Lib.hid hg
      clear hg
      go_wp2_with fail
      generalize wr.alloc (boxC refT ch) = W1 at *
      generalize wr.heap.size = g at *
      obtain ⟨x, hx⟩ : ∃ x, x = prOf ch := ⟨_, rfl⟩
      obtain ⟨ok, hok⟩ : ∃ ok, ok = !ch.gone := ⟨_, rfl⟩
      have HX := Lib.hid (And.intro hx (And.intro hok (And.intro hob hi)))
      clear hob
      go_loopw [6, 8, 9] (fun ou pv kv wr2 => InAt W1 ok x A m ou pv kv wr2) (fun _ _ kv _ => m - (intOf kv).toNat)
      case atStart =>
        refine ⟨0, 0, Nat.zero_le _, rfl, ?_, by omega, ?_, ?_, Below.refl _ _⟩
        · rw [List.take_zero, outs2_nil]; rfl
        · rw [List.take_zero, flag2_nil, HX.out.2.1]; simp
        · rw [List.take_zero, outs2_nil]; exact World.ownsRow_nil _ _ _ _
      case round =>
        obtain ⟨j, mo, hj, rfl, hmo, hmo2, rfl, ho, hb2⟩ := hrel
        obtain ⟨ua, uc, hu⟩ := Batch.owns_slice ho
        subst hu
        obtain ⟨fl, hfl⟩ : ∃ fl, flag2 Pr.key ok x (A.take j) = fl := ⟨_, rfl⟩
        rw [hfl]
        by_cases hlj : j < m
        · obtain ⟨y, hy⟩ : ∃ y, A[j]? = some y := ⟨A[j]'(by have := HT.out.2.1; omega), List.getElem?_eq_getElem _⟩
          have HRY := Lib.hid (fun (W : World) (hW : Below W1.heap.size W1 W) => (by
            have hr := HBX.out.2.1.below hW
            rcases hr with ⟨e, hq⟩ | ⟨b, off, cap, e, h1, h2, h3, h4⟩
            · rw [hq] at hy; simp at hy
            · obtain ⟨rfl, -, -⟩ := Value.slice.inj e
              obtain ⟨k0, k1⟩ := two (h4 j y hy)
              exact ⟨b, off, rfl, k0, k1⟩ : ∃ b off, a = some ⟨b, off, none⟩ ∧ W.cell? ⟨b, off + j * 2, none⟩ = some (.string y.key) ∧ W.cell? ⟨b, off + j * 2 + 1, none⟩ = some (.string y.val)))
          have HCX := Lib.hid (fun (W : World) (hW : Below W1.heap.size W1 W) => Batch.three (Batch.range_below HBX.out.2.2 HG.out hW))
          have hsn := outs2_snoc Pr.key ok x (A.take j) y (by
            have e : A.take j ++ [y] = A.take (j + 1) := by rw [List.take_add_one, hy]; rfl
            rw [e]
            exact HT.out.2.2.sublist (List.take_sublist _ _))
          have hfs := flag2_snoc Pr.key ok x (A.take j) y
          rw [show A.take j ++ [y] = A.take (j + 1) by rw [List.take_add_one, hy]; rfl] at hsn hfs
          rw [hfl] at hsn hfs
          obtain ⟨gr, hgr⟩ : ∃ gr, less x.key y.key = gr := ⟨_, rfl⟩
          rw [hgr] at hsn hfs
          have HS := Lib.hid (And.intro hsn (And.intro hfs (And.intro hmo (And.intro ho hb2))))
          obtain ⟨b, off, rfl, k0, k1⟩ := HRY.out _ hb2
          have HRB := Lib.hid (fun (W : World) (hW : Below W1.heap.size W1 W) => (by
            obtain ⟨b', off', e, k0, k1⟩ := HRY.out W hW
            obtain ⟨rfl, rfl⟩ : b = b' ∧ off = off' := by simpa using e
            exact ⟨k0, k1⟩ : W.cell? ⟨b, off + j * 2, none⟩ = some (.string y.key) ∧ W.cell? ⟨b, off + j * 2 + 1, none⟩ = some (.string y.val)))
          obtain ⟨d0, d1, d2⟩ := HCX.out _ hb2
          clear hsn hfs hmo ho hb2 hy hfl
          simp only [Nat.zero_add] at d1 d2
          obtain ⟨ek, hek⟩ : ∃ ek, decide (y.key = ch.key) = ek := ⟨_, rfl⟩
          have hke := (Batch.key_eq y.key ch.key).trans hek
          have hgt := gt_key hek
          rw [show less ch.key y.key = gr by rw [← hgr, HX.out.1]; rfl] at hgt
          have hge : gr = true → ek = false := fun e => by
            rw [e] at hgt
            cases ek
            · rfl
            · simp at hgt
          have HE := Lib.hid (And.intro hek (And.intro hge hgr))
          clear hek hge hgr
          go_wp2_with fail
          cases fl
          · go_quiet (fail)
            have hbq : Below wr.heap.size wr (wr.drewN nq) := below_drewN (Below.refl _ _) nq
            have HW2 := Lib.hid (And.intro (Nets.owns_below HS.out.2.2.2.1 hbq) (HS.out.2.2.2.2.trans (hbq.mono HS.out.2.2.2.2.size)))
            clear hbq k0 k1 d0 d1 d2
            generalize wr.drewN nq = W2 at *
            obtain ⟨d0, d1, d2⟩ := HCX.out _ HW2.out.2
            obtain ⟨k0, k1⟩ := HRB.out _ HW2.out.2
            simp only [Nat.zero_add] at d1 d2
            cases gr
            · cases ek
              · go_wp2_with fail
                clear d0 d1 d2 k0 k1
                obtain ⟨d0, d1, d2⟩ := HCX.out _ HW2.out.2
                obtain ⟨k0, k1⟩ := HRB.out _ HW2.out.2
                simp only [Nat.zero_add] at d1 d2
                go_quiet (fail)
                have hbq : Below W2.heap.size W2 (W2.drewN nq) := below_drewN (Below.refl _ _) nq
                have HW5 := Lib.hid (And.intro (Nets.owns_below HW2.out.1 hbq) (HW2.out.2.trans (hbq.mono HW2.out.2.size)))
                clear hbq d0 d1 d2 k0 k1
                generalize W2.drewN nq = W5 at *
                obtain ⟨d0, d1, d2⟩ := HCX.out _ HW5.out.2
                obtain ⟨k0, k1⟩ := HRB.out _ HW5.out.2
                simp only [Nat.zero_add] at d1 d2
                obtain ⟨a6, c6, w6, hr6, hh6⟩ := append_onep (us := outs2 Pr.key ok x (A.take j)) mo HS.out.2.2.1 W5 W1.heap.size (.slice ua mo uc) (⟨y.key, y.val⟩ : Pr) HW5.out.1 (by omega) HW5.out.2.size
                have HRUN6 := Lib.hid hr6
                have HA6 := Lib.hid (And.intro hh6.out.1 (HW5.out.2.trans hh6.out.2))
                clear hr6 hh6
                go_wp2_with (at_builtin; refine Lib.wpList_append_run _ rfl _ _ _ _ rfl _ _ rfl rfl _ _ HRUN6.out ?_)
                clear HRUN6 d0 d1 d2 k0 k1
                go_roundw
                case rel =>
                  obtain ⟨hsn, hfs, hmo, -, -⟩ := HS.out
                  have hxe : x = (⟨ch.key, ch.val⟩ : Pr) := HX.out.1
                  have hxk : x.key = ch.key := by rw [hxe]
                  have hln := outs2_length Pr.key ok x (A.take (j + 1))
                  have htl : (A.take (j + 1)).length = j + 1 := by rw [List.length_take]; have := HT.out.2.1; omega
                  have e : outs2 Pr.key ok x (A.take (j + 1)) = outs2 Pr.key ok x (A.take j) ++ [(⟨y.key, y.val⟩ : Pr)] := by
                    rw [hsn]
                    rw [if_neg (by simp), List.append_nil]
                    rw [if_neg (by rw [hxk]; have := HE.out.1; simpa using this)]
                  refine ⟨j + 1, mo + 1, by omega, by simp, ?_, ?_, ?_, ?_, HA6.out.2⟩
                  · rw [e]; simp [hmo]
                  · have h1 := congrArg List.length e
                    simp [hmo] at h1
                    omega
                  · rw [hfs]; simp
                  · rw [e]
                    have h9 := HA6.out.1
                    exact h9
                case measure => simp [intOf]; omega
              · go_wp2_with fail
                clear d0 d1 d2 k0 k1
                obtain ⟨d0, d1, d2⟩ := HCX.out _ HW2.out.2
                obtain ⟨k0, k1⟩ := HRB.out _ HW2.out.2
                simp only [Nat.zero_add] at d1 d2
                go_quiet (fail)
                have hbq : Below W2.heap.size W2 (W2.drewN nq) := below_drewN (Below.refl _ _) nq
                have HW5 := Lib.hid (And.intro (Nets.owns_below HW2.out.1 hbq) (HW2.out.2.trans (hbq.mono HW2.out.2.size)))
                clear hbq d0 d1 d2 k0 k1
                generalize W2.drewN nq = W5 at *
                obtain ⟨d0, d1, d2⟩ := HCX.out _ HW5.out.2
                obtain ⟨k0, k1⟩ := HRB.out _ HW5.out.2
                simp only [Nat.zero_add] at d1 d2
                go_wp2_with fail
                go_roundw
                case rel =>
                  obtain ⟨hsn, hfs, hmo, -, -⟩ := HS.out
                  have hxe : x = (⟨ch.key, ch.val⟩ : Pr) := HX.out.1
                  have hxk : x.key = ch.key := by rw [hxe]
                  have hln := outs2_length Pr.key ok x (A.take (j + 1))
                  have htl : (A.take (j + 1)).length = j + 1 := by rw [List.length_take]; have := HT.out.2.1; omega
                  have e : outs2 Pr.key ok x (A.take (j + 1)) = outs2 Pr.key ok x (A.take j) := by
                    rw [hsn]
                    rw [if_neg (by simp), List.append_nil]
                    rw [if_pos (by rw [hxk]; have := HE.out.1; simpa using this), List.append_nil]
                  refine ⟨j + 1, mo, by omega, by simp, ?_, ?_, ?_, ?_, HW5.out.2⟩
                  · rw [e]; simp [hmo]
                  · have h1 := congrArg List.length e
                    simp [hmo] at h1
                    omega
                  · rw [hfs]; simp
                  · rw [e]
                    have h9 := HW5.out.1
                    exact h9
                case measure => simp [intOf]; omega
            · have HEK := HE.out.2.1 rfl
              subst HEK
              obtain ⟨a4, c4, w4, hr4, hh4⟩ := append_onep (us := outs2 Pr.key ok x (A.take j)) mo HS.out.2.2.1 W2 W1.heap.size (.slice ua mo uc) (⟨ch.key, ch.val⟩ : Pr) HW2.out.1 (by omega) HW2.out.2.size
              have HRUN4 := Lib.hid hr4
              have HA4 := Lib.hid (And.intro hh4.out.1 (HW2.out.2.trans hh4.out.2))
              clear hr4 hh4
              go_wp2_with (at_builtin; refine Lib.wpList_append_run _ rfl _ _ _ _ rfl _ _ rfl rfl _ _ HRUN4.out ?_)
              clear HRUN4 d0 d1 d2 k0 k1
              obtain ⟨d0, d1, d2⟩ := HCX.out _ HA4.out.2
              obtain ⟨k0, k1⟩ := HRB.out _ HA4.out.2
              simp only [Nat.zero_add] at d1 d2
              go_quiet (fail)
              have hbq : Below w4.heap.size w4 (w4.drewN nq) := below_drewN (Below.refl _ _) nq
              have HW5 := Lib.hid (And.intro (Nets.owns_below HA4.out.1 hbq) (HA4.out.2.trans (hbq.mono HA4.out.2.size)))
              clear hbq d0 d1 d2 k0 k1
              generalize w4.drewN nq = W5 at *
              obtain ⟨d0, d1, d2⟩ := HCX.out _ HW5.out.2
              obtain ⟨k0, k1⟩ := HRB.out _ HW5.out.2
              simp only [Nat.zero_add] at d1 d2
              obtain ⟨a6, c6, w6, hr6, hh6⟩ := append_onep (us := outs2 Pr.key ok x (A.take j) ++ [(⟨ch.key, ch.val⟩ : Pr)]) (mo + 1) (by rw [List.length_append, HS.out.2.2.1]; rfl) W5 W1.heap.size (.slice a4 (mo + 1) c4) (⟨y.key, y.val⟩ : Pr) HW5.out.1 (by omega) HW5.out.2.size
              have HRUN6 := Lib.hid hr6
              have HA6 := Lib.hid (And.intro hh6.out.1 (HW5.out.2.trans hh6.out.2))
              clear hr6 hh6
              go_wp2_with (at_builtin; refine Lib.wpList_append_run _ rfl _ _ _ _ rfl _ _ rfl rfl _ _ HRUN6.out ?_)
              clear HRUN6 d0 d1 d2 k0 k1
              go_roundw
              case rel =>
                obtain ⟨hsn, hfs, hmo, -, -⟩ := HS.out
                have hxe : x = (⟨ch.key, ch.val⟩ : Pr) := HX.out.1
                have hxk : x.key = ch.key := by rw [hxe]
                have hln := outs2_length Pr.key ok x (A.take (j + 1))
                have htl : (A.take (j + 1)).length = j + 1 := by rw [List.length_take]; have := HT.out.2.1; omega
                have e : outs2 Pr.key ok x (A.take (j + 1)) = outs2 Pr.key ok x (A.take j) ++ [x] ++ [(⟨y.key, y.val⟩ : Pr)] := by
                  rw [hsn]
                  rw [if_pos (by simp)]
                  rw [if_neg (by rw [hxk]; have := HE.out.1; simpa using this)]
                refine ⟨j + 1, mo + 1 + 1, by omega, by simp, ?_, ?_, ?_, ?_, HA6.out.2⟩
                · rw [e]; simp [hmo]
                · have h1 := congrArg List.length e
                  simp [hmo] at h1
                  omega
                · rw [hfs]; simp
                · rw [e]
                  have h9 := HA6.out.1
                  rw [← hxe] at h9
                  exact h9
              case measure => simp [intOf]; omega
          · go_quiet (fail)
            have hbq : Below wr.heap.size wr (wr.drewN nq) := below_drewN (Below.refl _ _) nq
            have HW2 := Lib.hid (And.intro (Nets.owns_below HS.out.2.2.2.1 hbq) (HS.out.2.2.2.2.trans (hbq.mono HS.out.2.2.2.2.size)))
            clear hbq k0 k1 d0 d1 d2
            generalize wr.drewN nq = W2 at *
            obtain ⟨d0, d1, d2⟩ := HCX.out _ HW2.out.2
            obtain ⟨k0, k1⟩ := HRB.out _ HW2.out.2
            simp only [Nat.zero_add] at d1 d2
            cases ek
            · go_wp2_with fail
              clear d0 d1 d2 k0 k1
              obtain ⟨d0, d1, d2⟩ := HCX.out _ HW2.out.2
              obtain ⟨k0, k1⟩ := HRB.out _ HW2.out.2
              simp only [Nat.zero_add] at d1 d2
              go_quiet (fail)
              have hbq : Below W2.heap.size W2 (W2.drewN nq) := below_drewN (Below.refl _ _) nq
              have HW5 := Lib.hid (And.intro (Nets.owns_below HW2.out.1 hbq) (HW2.out.2.trans (hbq.mono HW2.out.2.size)))
              clear hbq d0 d1 d2 k0 k1
              generalize W2.drewN nq = W5 at *
              obtain ⟨d0, d1, d2⟩ := HCX.out _ HW5.out.2
              obtain ⟨k0, k1⟩ := HRB.out _ HW5.out.2
              simp only [Nat.zero_add] at d1 d2
              obtain ⟨a6, c6, w6, hr6, hh6⟩ := append_onep (us := outs2 Pr.key ok x (A.take j)) mo HS.out.2.2.1 W5 W1.heap.size (.slice ua mo uc) (⟨y.key, y.val⟩ : Pr) HW5.out.1 (by omega) HW5.out.2.size
              have HRUN6 := Lib.hid hr6
              have HA6 := Lib.hid (And.intro hh6.out.1 (HW5.out.2.trans hh6.out.2))
              clear hr6 hh6
              go_wp2_with (at_builtin; refine Lib.wpList_append_run _ rfl _ _ _ _ rfl _ _ rfl rfl _ _ HRUN6.out ?_)
              clear HRUN6 d0 d1 d2 k0 k1
              go_roundw
              case rel =>
                obtain ⟨hsn, hfs, hmo, -, -⟩ := HS.out
                have hxe : x = (⟨ch.key, ch.val⟩ : Pr) := HX.out.1
                have hxk : x.key = ch.key := by rw [hxe]
                have hln := outs2_length Pr.key ok x (A.take (j + 1))
                have htl : (A.take (j + 1)).length = j + 1 := by rw [List.length_take]; have := HT.out.2.1; omega
                have e : outs2 Pr.key ok x (A.take (j + 1)) = outs2 Pr.key ok x (A.take j) ++ [(⟨y.key, y.val⟩ : Pr)] := by
                  rw [hsn]
                  rw [if_neg (by simp), List.append_nil]
                  rw [if_neg (by rw [hxk]; have := HE.out.1; simpa using this)]
                refine ⟨j + 1, mo + 1, by omega, by simp, ?_, ?_, ?_, ?_, HA6.out.2⟩
                · rw [e]; simp [hmo]
                · have h1 := congrArg List.length e
                  simp [hmo] at h1
                  omega
                · rw [hfs]; simp
                · rw [e]
                  have h9 := HA6.out.1
                  exact h9
              case measure => simp [intOf]; omega
            · go_wp2_with fail
              clear d0 d1 d2 k0 k1
              obtain ⟨d0, d1, d2⟩ := HCX.out _ HW2.out.2
              obtain ⟨k0, k1⟩ := HRB.out _ HW2.out.2
              simp only [Nat.zero_add] at d1 d2
              go_quiet (fail)
              have hbq : Below W2.heap.size W2 (W2.drewN nq) := below_drewN (Below.refl _ _) nq
              have HW5 := Lib.hid (And.intro (Nets.owns_below HW2.out.1 hbq) (HW2.out.2.trans (hbq.mono HW2.out.2.size)))
              clear hbq d0 d1 d2 k0 k1
              generalize W2.drewN nq = W5 at *
              obtain ⟨d0, d1, d2⟩ := HCX.out _ HW5.out.2
              obtain ⟨k0, k1⟩ := HRB.out _ HW5.out.2
              simp only [Nat.zero_add] at d1 d2
              go_wp2_with fail
              go_roundw
              case rel =>
                obtain ⟨hsn, hfs, hmo, -, -⟩ := HS.out
                have hxe : x = (⟨ch.key, ch.val⟩ : Pr) := HX.out.1
                have hxk : x.key = ch.key := by rw [hxe]
                have hln := outs2_length Pr.key ok x (A.take (j + 1))
                have htl : (A.take (j + 1)).length = j + 1 := by rw [List.length_take]; have := HT.out.2.1; omega
                have e : outs2 Pr.key ok x (A.take (j + 1)) = outs2 Pr.key ok x (A.take j) := by
                  rw [hsn]
                  rw [if_neg (by simp), List.append_nil]
                  rw [if_pos (by rw [hxk]; have := HE.out.1; simpa using this), List.append_nil]
                refine ⟨j + 1, mo, by omega, by simp, ?_, ?_, ?_, ?_, HW5.out.2⟩
                · rw [e]; simp [hmo]
                · have h1 := congrArg List.length e
                  simp [hmo] at h1
                  omega
                · rw [hfs]; simp
                · rw [e]
                  have h9 := HW5.out.1
                  exact h9
              case measure => simp [intOf]; omega
        · obtain rfl : j = m := by omega
          have hta : A.take j = A := by rw [← HT.out.2.1, List.take_length]
          rw [hta] at hfl hmo ho
          have hend := outs2_end Pr.key ok x A
          rw [hfl] at hend
          have hone : one A ch = sets Pr.key ok x A := by rw [HX.out.1, HX.out.2.1]; rfl
          have hol := one_length A ch
          have HZ := Lib.hid (And.intro hend (And.intro hone (And.intro hol (And.intro ho hb2))))
          obtain ⟨d0, d1, d2⟩ := Batch.three (Batch.range_below HBX.out.2.2 HG.out hb2)
          simp only [Nat.zero_add] at d1 d2
          clear hend hone hol hta
          cases fl
          · obtain ⟨a4, c4, w4, hr4, hh4⟩ := append_onep mo hmo wr W1.heap.size (.slice ua mo uc) (⟨ch.key, ch.val⟩ : Pr) ho (by omega) hb2.size
            have HRUN := Lib.hid hr4
            have HA := Lib.hid (And.intro hh4.out.1 (hb2.trans hh4.out.2))
            have HM := Lib.hid hmo
            clear hr4 hh4 ho hb2 hmo hfl
            go_wp2_with (at_builtin; refine Lib.wpList_append_run _ rfl _ _ _ _ rfl _ _ rfl rfl _ _ HRUN.out ?_)
            go_roundw
            case rel =>
              obtain ⟨hend, hone, hol, -, -⟩ := HZ.out
              have hxe : x = (⟨ch.key, ch.val⟩ : Pr) := HX.out.1
              have e : done P (l.take (i + 1)) = outs2 Pr.key ok x A ++ [x] := by rw [HT.out.1, hone, hend]; simp
              have hlen : (done P (l.take (i + 1))).length = mo + 1 := by rw [e, List.length_append, HM.out]; rfl
              have h9 := HA.out.1
              rw [← hxe, ← e] at h9
              have hbb : Below w.heap.size w w4 := HBX.out.1.trans (HA.out.2.mono HBX.out.1.size)
              refine ⟨i + 1, mo + 1, a4, c4, by omega, by simp, hlen, ?_, rfl, owns_readsP (by rw [hlen]; exact h9), fun b hb => .inr ?_, hbb⟩
              · have h2 := HT.out.1
                rw [h2] at hlen
                have := HT.out.2.1
                omega
              · have := (h9.lt b hb).1
                have := HBX.out.1.size
                omega
            case measure => simp [intOf]; omega
          · have HM := Lib.hid hmo
            clear ho hb2 hmo hfl
            go_wp2_with fail
            go_roundw
            case rel =>
              obtain ⟨hend, hone, hol, ho, hb2⟩ := HZ.out
              have e : done P (l.take (i + 1)) = outs2 Pr.key ok x A := by rw [HT.out.1, hone, hend]; simp
              have hlen : (done P (l.take (i + 1))).length = mo := by rw [e, HM.out]
              have h9 := ho
              rw [← e] at h9
              refine ⟨i + 1, mo, ua, uc, by omega, by simp, hlen, ?_, rfl, owns_readsP (by rw [hlen]; exact h9), fun b hb => .inr ?_, HBX.out.1.trans (hb2.mono HBX.out.1.size)⟩
              · have h2 := HT.out.1
                rw [h2] at hlen
                have := HT.out.2.1
                omega
              · have := (h9.lt b hb).1
                have := HBX.out.1.size
                omega
            case measure => simp [intOf]; omega
    · have htk : l.take i = l := List.take_of_length_le (by have := HN.out.1; omega)
      rw [htk] at hr
      have HO := Lib.hid (And.intro hr (And.intro hb hob))
      clear hr hb hob htk
      go_wp2_with fail
      go_ret
      exact ⟨_, rfl, HO.out.1, HO.out.2.1, HO.out.2.2⟩
end Go.Proofs.YtghpohiinnallaaGreatDoor.Kv
