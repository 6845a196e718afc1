/-
  Walks: To and Same of the laws, the chapter's example.
-/
import Derived.Test.YtklmhjoiffaniaaDoorMbxShow
namespace Go.Proofs.YtklmhjoiffaniaaDoor.Mbx
open Go Go.RowKit
open Go.Proofs.YtklmhjoiffaniaaDoor.Lex
open Go.Proofs.YtklmhjoiffaniaaDoor.Addr (adT adB eql_ad)
open Go.Proofs.YtklmhjoiffaniaaDoor.Sha (Kept wp_region_kept wp_region_kept_tail quiet_load_row)

set_option maxRecDepth 100000 in
set_option maxHeartbeats 1000000 in
theorem to_box (x : Bx) (w : World) :
    Calls Tryd.prog 13 #[bxV x] w fun e w' => e = .returned (bxV x) ∧ Below w.heap.size w w' := by
  have hl : Lies ((w.alloc (boxB rbT x)).alloc (boxB bxT x)) (w.heap.size + 1) #[.string x.n, .string x.l, .string x.d] bxT := by
    have := Lies.new (w.alloc (boxB rbT x)) #[.string x.n, .string x.l, .string x.d] bxT
    have hz : (w.alloc (boxB rbT x)).heap.size = w.heap.size + 1 := by simp
    rwa [hz] at this
  have hb : Below w.heap.size w ((w.alloc (boxB rbT x)).alloc (boxB bxT x)) := ((Below.refl _ w).alloc (Nat.le_refl _) _).alloc (by simp) _
  go_enter Tryd.func13, Tryd.ntmps13
  go_wp2_with fail
  exact bodyPost_ret (v := bxV x) (results_cell_row Tryd.results13 _ _ (w.heap.size + 1) bxT _ (0, 0) _ rfl hl Tryd.underlying33 rfl sizeB) rfl ⟨rfl, hb⟩
theorem quiet_eql_bx {C : World → Prop} {o : Oper} {a : Act} {K : Act → Prop} (x y : Operand) (p q : Bx) (b : Bool) (hr : ∀ w, (binOp .eql bxT (bxV p) (bxV q)).run Tryd.prog w = .ok (.bool b) w) (ho : o.op = .binOp .eql bxT x y bxT) (hx : a.eval x = bxV p) (hy : a.eval y = bxV q) (h : K (a.put o.dst (.bool b))) : o.quiet Tryd.prog a C K :=
  ⟨_, fun w hw => by
    have h1 := hr w
    unfold Oper.quietAt execOp
    simp [ho, hx, hy, h1, run_eqGuard_agg w .eql bxT x y _ _ guard_bx]
    exact ⟨rfl, rfl⟩, h⟩
theorem quiet_neq_bx {C : World → Prop} {o : Oper} {a : Act} {K : Act → Prop} (x y : Operand) (p q : Bx) (b : Bool) (hr : ∀ w, (binOp .neq bxT (bxV p) (bxV q)).run Tryd.prog w = .ok (.bool b) w) (ho : o.op = .binOp .neq bxT x y bxT) (hx : a.eval x = bxV p) (hy : a.eval y = bxV q) (h : K (a.put o.dst (.bool b))) : o.quiet Tryd.prog a C K :=
  ⟨_, fun w hw => by
    have h1 := hr w
    unfold Oper.quietAt execOp
    simp [ho, hx, hy, h1, run_eqGuard_agg w .neq bxT x y _ _ guard_bx]
    exact ⟨rfl, rfl⟩, h⟩
def TrueP (w : World) (e : Ending) (w' : World) : Prop := e = .returned (.bool true) ∧ Below w.heap.size w w'
set_option maxRecDepth 100000 in
set_option maxHeartbeats 4000000 in
theorem same_any (u v : Value) (B : List Bx) (w : World) (hu : ReadsB w u B) (hv : ReadsB w v B) (hl : B.length ≤ 100000) :
    Calls Tryd.prog 12 #[u, v] w (TrueP w) := by
  obtain ⟨ua, uc, rfl⟩ := hu.shape
  obtain ⟨va, vc, rfl⟩ := hv.shape
  obtain ⟨n, hn⟩ : ∃ n, n = B.length := ⟨_, rfl⟩
  rw [← hn] at hu hv hl ⊢
  have HU := Lib.hid (fun k a ha => hu.at_ k a ha)
  have HV := Lib.hid (fun k a ha => hv.at_ k a ha)
  have HNN := Lib.hid hn
  clear hu hv hn
  go_enter Tryd.func12, Tryd.ntmps12
  go_wp2_with fail
  go_loopw [5, 6] (fun c i wr => ∃ k : Nat, k ≤ n ∧ i = .int .i64 k ∧ c = .bool true ∧ Hid (Below w.heap.size w wr)) (fun _ i _ => n - (intOf i).toNat)
  case atStart => exact ⟨0, Nat.zero_le _, rfl, by simp, Lib.hid (Below.refl _ _)⟩
  case round =>
    obtain ⟨k, hk, rfl, rfl, hB⟩ := hrel
    by_cases hlt : k < n
    · obtain ⟨x, hx⟩ : ∃ a, B[k]? = some a := ⟨B[k]'(by have := HNN.out; omega), List.getElem?_eq_getElem _⟩
      obtain ⟨b1, o1, rfl, hb1, r1⟩ := HU.out k x hx
      obtain ⟨b2, o2, rfl, hb2, r2⟩ := HV.out k x hx
      have HR1 := Lib.hid (fun W (hW : Below wr.heap.size wr W) => range_below r1 hb1 (hB.out.trans (hW.mono hB.out.size)))
      have HR2 := Lib.hid (fun W (hW : Below wr.heap.size wr W) => range_below r2 hb2 (hB.out.trans (hW.mono hB.out.size)))
      have HT : Hid (∀ W, Kept wr W → Calls Tryd.prog 13 #[.agg (bxC x).toArray] W fun e W' => e = .returned (bxV x) ∧ Kept wr W') := Lib.hid (fun W hk => hk.call (to_box x W))
      have HQ : Hid (∀ W, (binOp .eql bxT (bxV x) (bxV x)).run Tryd.prog W = .ok (.bool true) W) := Lib.hid (fun W => by rw [eql_bx, beqB_self])
      clear r1 r2 hx
      go_wp2_with fail
      refine wp_region_kept (by kernel_rfl) (by kernel_rfl) ?_
      repeat (first
        | (go_big_quiet_want
           first
             | refine quiet_eql_bx (.tmp 30) (.tmp 35) x x true HQ.out rfl rfl rfl ?_
             | refine quiet_load_row bxT (.tmp 29) rfl b1 (o1 + k * 3) rfl (bxC x) _ (fun w' hk => HR1.out w' hk.below) Tryd.underlying33 rfl sizeB ?_
             | refine quiet_load_row rbT (.tmp 33) rfl b2 (o2 + k * 3) rfl (bxC x) _ (fun w' hk => HR2.out w' hk.below) Tryd.underlying40 rfl sizeRB ?_
           go_simp
           go_big_quiet_on)
        | (go_big_quiet_step ((first | (exact fun _ => rfl) | (intro hk; go_at_call 13; (with_reducible exact (HT.out _ hk)))))))
      refine wpQuiet_nil ?_
      intro W2 hk2
      have HK2 := Lib.hid (hB.out.trans (hk2.below.mono hB.out.size))
      clear hk2
      go_wp2_with fail
      go_roundw
      case rel => exact ⟨k + 1, by omega, by simp, rfl, HK2⟩
      case measure => simp [intOf]; omega
    · go_wp2_with fail
      go_ret
      exact ⟨rfl, hB.out⟩

/-! The example. -/
def exS : ByteArray := ⟨#[65, 110, 110, 32, 66, 32, 60, 97, 64, 98, 62, 44, 32, 103, 58, 32, 99, 64, 100, 59]⟩
abbrev exN : ByteArray := ⟨#[65, 110, 110, 32, 66]⟩
abbrev ex1 : Bx := ⟨exN, ⟨#[97]⟩, ⟨#[98]⟩⟩
abbrev ex2 : Bx := ⟨⟨#[]⟩, ⟨#[99]⟩, ⟨#[100]⟩⟩
abbrev exT : ByteArray := ⟨#[65, 110, 110, 32, 66, 32, 60, 97, 64, 98, 62, 44, 32, 99, 64, 100]⟩
theorem exRead : readL (bl exS) = (0, [ex1, ex2]) := by kernel_rfl
theorem exShow : ba (showAllL [ex1, ex2]) = exT := by kernel_rfl
theorem exSmall : Small [ex1, ex2] := by
  refine ⟨by decide, fun b hb => ?_⟩
  simp only [List.mem_cons, List.not_mem_nil, or_false] at hb
  rcases hb with rfl | rfl
  · exact ⟨by decide, by decide, by decide⟩
  · exact ⟨by decide, by decide, by decide⟩
set_option maxRecDepth 100000 in
set_option maxHeartbeats 4000000 in
theorem works_any (w : World) : Calls Tryd.prog 8 #[] w (TrueP w) := by
  have HR : Hid (Calls Tryd.prog 9 #[.string exS] w fun e w' => ∃ va vc, e = .returned (.tuple #[.slice va 2 vc, .int .i64 0]) ∧ ReadsB w' (.slice va 2 vc) [ex1, ex2] ∧ Below w.heap.size w w') := Lib.hid ((read_any exS w (by decide)).mono fun e w' he => by
    obtain ⟨v, he, hr, hb⟩ := he
    rw [exRead] at he hr
    obtain ⟨va, vc, rfl⟩ := hr.shape
    exact ⟨va, vc, he, hr, hb⟩)
  have HSA := Lib.hid (fun v W (h : ReadsB W v [ex1, ex2]) => showAll_any v _ W h exSmall)
  rw [exShow] at HSA
  have hq : ∀ W, (binOp .eql adT (adB ⟨#[97]⟩ ⟨#[98]⟩) (adB ⟨#[97]⟩ ⟨#[98]⟩)).run Tryd.prog W = .ok (.bool true) W := fun W => by rw [eql_ad]; simp
  have t1 : (exN.toList == [65, 110, 110, 32, 66]) = true := by rw [Lib.toList_data]; rfl
  have t2 : ((⟨#[]⟩ : ByteArray).toList == []) = true := by rw [Lib.toList_data]; rfl
  have t3 : ((⟨#[99]⟩ : ByteArray).toList == [99]) = true := by rw [Lib.toList_data]; rfl
  have t4 : (exT.toList == [65, 110, 110, 32, 66, 32, 60, 97, 64, 98, 62, 44, 32, 99, 64, 100]) = true := by rw [Lib.toList_data]; rfl
  go_enter Tryd.func8, Tryd.ntmps8
  go_wp2_with fail
  refine HR.out.mono ?_
  rintro e w1 ⟨va, vc, rfl, hr, hb⟩
  obtain ⟨g, o, hva, hg, r1⟩ := hr.at_ 0 ex1 rfl
  obtain ⟨g', o', hva', _, r2⟩ := hr.at_ 1 ex2 rfl
  subst hva
  obtain ⟨rfl, rfl⟩ : g = g' ∧ o = o' := by simpa using hva'
  rw [Nat.zero_mul, Nat.add_zero] at r1
  rw [Nat.one_mul] at r2
  obtain ⟨c0, c1, c2⟩ := three r1
  obtain ⟨d0, d1, d2⟩ := three r2
  have HV := Lib.hid hr
  have HB := Lib.hid hb
  have HS := Lib.hid (HSA.out _ w1 hr)
  clear hb hr r1 r2 hva'
  go_wp2_with fail
  refine HS.out.mono ?_
  rintro e w2 ⟨rfl, hb⟩
  have HB2 := Lib.hid (HB.out.trans (hb.mono HB.out.size))
  clear hb
  go_wp2_with fail
  go_ret
  exact ⟨rfl, HB2.out⟩
end Go.Proofs.YtklmhjoiffaniaaDoor.Mbx
