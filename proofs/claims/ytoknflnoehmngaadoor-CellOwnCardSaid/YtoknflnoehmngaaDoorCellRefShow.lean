/-
  Walks of the document's answer: Show.
-/
import Derived.Test.YtoknflnoehmngaaDoorCellLight
import Derived.Test.YtoknflnoehmngaaDoorShaKept
namespace Go.Proofs.YtoknflnoehmngaaDoor.Cell
open Go Go.RowKit
open Go.Proofs.YtoknflnoehmngaaDoor.Nets (putS rowS Tab)
open Go.Proofs.YtoknflnoehmngaaDoor.Sha (Kept wp_region_kept wp_region_kept_tail quiet_load_row)

/-- One operation of a quiet walk: a single cell is read. -/
theorem quiet_load_str {P : Program} {C : World → Prop} {o : Oper} {a : Act} {K : Act → Prop} (ty : TypeId) (x : Operand) (ho : o.op = .load ty x) (p : Addr) (hx : a.eval x = .pointer (some p)) (v : Value)
    (hc : ∀ w, C w → w.cell? p = some v) (hu : P.underlying ty = some .string) (h : K (a.put o.dst v)) : o.quiet P a C K :=
  ⟨_, fun w hw => by
    have h1 := hc w hw
    unfold Oper.quietAt execOp
    simp [ho, hx, Instr.loadAt, Instr.sureAddr, loadVar, isAgg, run_underlying hu, h1]
    exact ⟨rfl, rfl⟩, h⟩
theorem quiet_load_int {P : Program} {C : World → Prop} {o : Oper} {a : Act} {K : Act → Prop} (ty : TypeId) (x : Operand) (ho : o.op = .load ty x) (p : Addr) (hx : a.eval x = .pointer (some p)) (v : Value) (q : IntKind)
    (hc : ∀ w, C w → w.cell? p = some v) (hu : P.underlying ty = some (.int q)) (h : K (a.put o.dst v)) : o.quiet P a C K :=
  ⟨_, fun w hw => by
    have h1 := hc w hw
    unfold Oper.quietAt execOp
    simp [ho, hx, Instr.loadAt, Instr.sureAddr, loadVar, isAgg, run_underlying hu, h1]
    exact ⟨rfl, rfl⟩, h⟩

def kOk (k : Int) : Prop := k = 1 ∨ k = 2 ∨ k = 3 ∨ k = 4
/-- What the first k entries show. -/
def showQ (q : List Ent) (k : Nat) : List UInt8 := showS (q.take k)
theorem showQ_succ (q : List Ent) (k : Nat) (e : Ent) (h : q[k]? = some e) : showQ q (k + 1) = showQ q k ++ lineS e := by
  unfold showQ
  rw [List.take_add_one, h]
  simp [show_snoc]
theorem showQ_le (q : List Ent) (k : Nat) (h : ∀ e ∈ q, LightE e) (hf : q.length ≤ 100) : (showQ q k).length ≤ 234400 := by
  have h1 := show_le (q.take k) fun e he => h e (List.mem_of_mem_take he)
  have h2 : (q.take k).length ≤ 100 := by simp; omega
  unfold showQ
  omega
def RShowAt (q : List Ent) (w : World) (s i : Value) (wr : World) : Prop := ∃ (k : Nat) (x : ByteArray), k ≤ q.length ∧ i = .int .i64 k ∧ s = .string x ∧ bl x = showQ q k ∧ Below w.heap.size w wr
theorem name_letter {k : Int} (h : kOk k) : (nameS k).extract 0 1 = ⟨#[letter k]⟩ ∧ 1 ≤ (nameS k).size := by
  rcases h with rfl | rfl | rfl | rfl <;> exact ⟨rfl, by decide⟩
/-- A line, as the document puts it together. -/
theorem line_ref (e : Ent) (x : ByteArray) : bl (x ++ ba (putS (bl e.name)) ++ ⟨#[letter e.v.kind]⟩ ++ ba (putS (valText e.v)) ++ ⟨#[10]⟩) = bl x ++ lineS e := by
  simp [lineS]
abbrev boxV (v : Val) : Obj := .cells #[.int .i64 v.kind, .string v.s, .int .i64 v.n, .bool v.is, v.lv] 30
theorem show_cells {wr W W' : World} {b o : Nat} {e : Ent} (hrd : wr.rangeAt b o (entC e)) (hb3 : b < wr.heap.size) (hW : Below (wr.alloc (boxV e.v)).heap.size (wr.alloc (boxV e.v)) W) (hk : Kept W W') :
    W'.cell? ⟨b, o, none⟩ = some (.string e.name) ∧ W'.cell? ⟨wr.heap.size, 0, none⟩ = some (.int .i64 e.v.kind) := by
  have h1 : Below (wr.alloc (boxV e.v)).heap.size (wr.alloc (boxV e.v)) W' := hW.trans (hk.below.mono hW.size)
  have hH := heap_alloc_new wr (boxV e.v)
  have hH2 : W'.heap[wr.heap.size]? = some (boxV e.v) := (h1.block _ (by simp)).trans hH
  refine ⟨?_, by simp only [World.cell?, hH2]; rfl⟩
  exact (six (range_below (range_below hrd hb3 ((Below.refl _ _).alloc (Nat.le_refl _) (boxV e.v))) (by simp; omega) h1)).1
set_option maxHeartbeats 4000000 in
theorem refShow_any (v : Value) (q : List Ent) (w : World) (h : ReadsE w v q) (hf : q.length ≤ 100) (hL : ∀ e ∈ q, LightE e) (hK : ∀ e ∈ q, kOk e.v.kind) (hR : ∀ e ∈ q, Reads w e.v.lv e.v.ls) :
    Calls Tryd.prog 16 #[v] w fun e w' => e = .returned (str (showS q)) ∧ Below w.heap.size w w' := by
  rcases h with ⟨a, cap, rfl, rfl⟩ | ⟨h0, b, off, cap, rfl, h3, h4⟩
  · clear hL hK hR
    go_enter Tryd.func16, Tryd.ntmps16
    go_wp2_with fail
    go_loopw [3, 4] (fun s i wr => s = .string ⟨#[]⟩ ∧ i = .int .i64 0 ∧ wr = w) (fun _ i _ => 0 - (intOf i).toNat)
    case atStart => exact ⟨rfl, rfl, rfl⟩
    case round =>
      obtain ⟨rfl, rfl, rfl⟩ := hrel
      go_wp2_with fail
      go_ret
      exact ⟨rfl, Below.refl _ _⟩
  · have HC := Lib.hid h4
    have HL := Lib.hid hL
    have HKO := Lib.hid hK
    have HRD := Lib.hid hR
    clear h4 hL hK hR
    go_enter Tryd.func16, Tryd.ntmps16
    go_wp2_with fail
    go_loopw [3, 4] (fun s i wr => RShowAt q w s i wr) (fun _ i _ => q.length - (intOf i).toNat)
    case atStart => exact ⟨0, ⟨#[]⟩, Nat.zero_le _, rfl, rfl, rfl, Below.refl _ _⟩
    case round =>
      obtain ⟨k, x, hk, rfl, rfl, hx, hb⟩ := hrel
      by_cases hlt : k < q.length
      · obtain ⟨e, hke⟩ : ∃ e, q[k]? = some e := ⟨q[k], List.getElem?_eq_getElem hlt⟩
        have hmem : e ∈ q := List.mem_of_getElem? hke
        have hle := HL.out e hmem
        have hko := HKO.out e hmem
        have hrd := range_below (HC.out k e hke) h3 hb
        have hb3 : b < wr.heap.size := by have := hb.size; omega
        obtain ⟨c0, c1, c2, c3, c4, c5⟩ := six hrd
        have HX := Lib.hid hx
        have HB := Lib.hid hb
        have HE := Lib.hid (And.intro hle (And.intro hko hrd))
        have HQ := Lib.hid (name_letter hko)
        have HSU := Lib.hid (showQ_succ q k e hke)
        have hxz : x.size ≤ 234400 := by
          have h1 := showQ_le q k HL.out hf
          rw [← hx] at h1
          simpa using h1
        have HRR := Lib.hid ((HRD.out e hmem).below hb)
        have n0 := hle.n0
        have n1 := hle.n1
        have hn1 := hle.name
        clear hrd hke hmem hx hb hle
        have hp1 : (putS (bl e.name)).length ≤ 111 := by have := put_le (bl e.name) (by simp; omega); simp at this; omega
        have hvt := valText_le HE.out.1
        have hp2 : (putS (valText e.v)).length ≤ 2231 := by have := put_le (valText e.v) (by omega); omega
        have fin : Hid (∀ (W W' : World), Below (wr.alloc (boxV e.v)).heap.size (wr.alloc (boxV e.v)) W → Kept W W' → RShowAt q w (.string (x ++ ba (putS (bl e.name)) ++ ⟨#[letter e.v.kind]⟩ ++ ba (putS (valText e.v)) ++ ⟨#[10]⟩)) (.int .i64 ((k : Int) + 1)) W') := by
          intro W W' hW hW'
          have h1 : Below wr.heap.size wr W := ((Below.refl _ _).alloc (Nat.le_refl _) (boxV e.v)).trans (hW.mono (by simp))
          refine ⟨k + 1, _, by omega, by simp, rfl, ?_, (HB.out.trans (h1.mono HB.out.size)).trans (hW'.below.mono (Nat.le_trans HB.out.size h1.size))⟩
          rw [line_ref, HX.out, HSU.out]
        have HCE : Hid (∀ (W W' : World), Below (wr.alloc (boxV e.v)).heap.size (wr.alloc (boxV e.v)) W → Kept W W' → W'.cell? ⟨b, off + k * 6, none⟩ = some (.string e.name) ∧ W'.cell? ⟨wr.heap.size, 0, none⟩ = some (.int .i64 e.v.kind)) :=
          fun W W' hW hk => show_cells HE.out.2.2 hb3 hW hk
        have C1 : Hid (∀ W, Calls Tryd.prog 40 #[.string e.name] W fun r w' => r = .returned (str (putS (bl e.name))) ∧ Below W.heap.size W w') := fun W => Nets.refPut_any e.name W (by omega)
        have CN : Hid (∀ W, Calls Tryd.prog 31 #[.int .i64 e.v.kind] W fun r w' => r = .returned (.string (nameS e.v.kind)) ∧ Below W.heap.size W w') := fun W => name_any e.v.kind W
        have C2 : Hid (∀ (t : ByteArray) W, bl t = valText e.v → Calls Tryd.prog 40 #[.string t] W fun r w' => r = .returned (str (putS (valText e.v))) ∧ Below W.heap.size W w') := fun t W ht => by
          have h1 : t.size ≤ 2220 := by have h2 : (bl t).length = t.size := by simp
                                        rw [ht] at h2; omega
          have := Nets.refPut_any t W (by omega)
          rw [show Nets.bl t = bl t from rfl, ht] at this
          exact this
        obtain ⟨hq1, hq2⟩ := HQ.out
        have HV1 := Lib.hid (@val1 e.v)
        have HV2 := Lib.hid (@val2 e.v)
        have HV3 := Lib.hid (@val3 e.v)
        have HV4 := Lib.hid (@val4 e.v)
        have HSM := Lib.hid (small_light HE.out.1)
        have HRL := Lib.hid (row_light HE.out.1)
        clear HQ HSU hvt
        generalize valText e.v = VT at *
        generalize putS (bl e.name) = P1 at *
        generalize hP2 : putS VT = P2 at *
        generalize nameS e.v.kind = NS at *
        generalize letter e.v.kind = LT at *
        clear hP2
        obtain ⟨nm, kd, sv, nn, bb, la, ln, lc, ls⟩ := e
        try dsimp only at hko c0 c1 c2 c3 c4 c5 n0 n1 hn1
        rcases hko with rfl | rfl | rfl | rfl
        · have C2 := Lib.hid (fun W => C2.out sv W (HV1.out rfl).symm)
          go_wp2_with fail
          refine wp_region_kept (by kernel_rfl) (by kernel_rfl) ?_
          repeat (go_big_quiet_step (exact fun _ => rfl))
          go_big_quiet_want
          refine quiet_load_str 9 (.tmp 51) rfl ⟨b, off + k * 6, none⟩ rfl (.string nm) (fun w' hk => (HCE.out _ _ (Below.refl _ _) hk).1) Tryd.underlying9 ?_
          go_simp
          go_big_quiet_on
          repeat (go_big_quiet_step ((first | (exact fun _ => rfl) | (intro hk; go_at_call 40; exact hk.call (C1.out _)))))
          go_big_quiet_want
          refine quiet_load_int 3 (.tmp 55) rfl ⟨wr.heap.size, 0, none⟩ rfl _ .i64 (fun w' hk => (HCE.out _ _ (Below.refl _ _) hk).2) Tryd.underlying3 ?_
          go_simp
          go_big_quiet_on
          repeat (go_big_quiet_step ((first | (exact fun _ => rfl) | (intro hk; go_at_call 31; exact hk.call (CN.out _)) | (intro hk; go_at_call 40; exact hk.call (C2.out _)))))
          refine wpQuiet_nil ?_
          intro W2 hk2
          have HK2 := Lib.hid (fin.out _ _ (Below.refl _ _) hk2)
          clear hk2
          go_wp2_with fail
          go_roundw
          case rel => exact HK2.out
          case measure => simp [intOf]; omega
        · have C2 := Lib.hid (fun W => C2.out (ba (Lib.itoa nn)) W (HV2.out rfl).symm)
          go_wp2_with fail
          refine (number_any nn _ n0 n1).mono ?_
          rintro e' W1 ⟨rfl, hb1⟩
          have HB1 := Lib.hid hb1
          clear hb1
          generalize Lib.itoa nn = NT at *
          have d0 := (HCE.out W1 W1 HB1.out (Below.refl _ _)).2
          go_wp2_with fail
          clear d0
          refine wp_region_kept (by kernel_rfl) (by kernel_rfl) ?_
          repeat (go_big_quiet_step (exact fun _ => rfl))
          go_big_quiet_want
          refine quiet_load_str 9 (.tmp 51) rfl ⟨b, off + k * 6, none⟩ rfl (.string nm) (fun w' hk => (HCE.out _ _ HB1.out hk).1) Tryd.underlying9 ?_
          go_simp
          go_big_quiet_on
          repeat (go_big_quiet_step ((first | (exact fun _ => rfl) | (intro hk; go_at_call 40; exact hk.call (C1.out _)))))
          go_big_quiet_want
          refine quiet_load_int 3 (.tmp 55) rfl ⟨wr.heap.size, 0, none⟩ rfl _ .i64 (fun w' hk => (HCE.out _ _ HB1.out hk).2) Tryd.underlying3 ?_
          go_simp
          go_big_quiet_on
          repeat (go_big_quiet_step ((first | (exact fun _ => rfl) | (intro hk; go_at_call 31; exact hk.call (CN.out _)) | (intro hk; go_at_call 40; exact hk.call (C2.out _)))))
          refine wpQuiet_nil ?_
          intro W2 hk2
          have HK2 := Lib.hid (fin.out _ _ HB1.out hk2)
          clear hk2
          go_wp2_with fail
          go_roundw
          case rel => exact HK2.out
          case measure => simp [intOf]; omega
        · cases bb
          · have C2 := Lib.hid (fun W => C2.out ⟨#[110, 111]⟩ W (HV3.out rfl).symm)
            go_wp2_with fail
            refine wp_region_kept (by kernel_rfl) (by kernel_rfl) ?_
            repeat (go_big_quiet_step (exact fun _ => rfl))
            go_big_quiet_want
            refine quiet_load_str 9 (.tmp 51) rfl ⟨b, off + k * 6, none⟩ rfl (.string nm) (fun w' hk => (HCE.out _ _ (Below.refl _ _) hk).1) Tryd.underlying9 ?_
            go_simp
            go_big_quiet_on
            repeat (go_big_quiet_step ((first | (exact fun _ => rfl) | (intro hk; go_at_call 40; exact hk.call (C1.out _)))))
            go_big_quiet_want
            refine quiet_load_int 3 (.tmp 55) rfl ⟨wr.heap.size, 0, none⟩ rfl _ .i64 (fun w' hk => (HCE.out _ _ (Below.refl _ _) hk).2) Tryd.underlying3 ?_
            go_simp
            go_big_quiet_on
            repeat (go_big_quiet_step ((first | (exact fun _ => rfl) | (intro hk; go_at_call 31; exact hk.call (CN.out _)) | (intro hk; go_at_call 40; exact hk.call (C2.out _)))))
            refine wpQuiet_nil ?_
            intro W2 hk2
            have HK2 := Lib.hid (fin.out _ _ (Below.refl _ _) hk2)
            clear hk2
            go_wp2_with fail
            go_roundw
            case rel => exact HK2.out
            case measure => simp [intOf]; omega
          · have C2 := Lib.hid (fun W => C2.out ⟨#[121, 101, 115]⟩ W (HV3.out rfl).symm)
            go_wp2_with fail
            refine wp_region_kept (by kernel_rfl) (by kernel_rfl) ?_
            repeat (go_big_quiet_step (exact fun _ => rfl))
            go_big_quiet_want
            refine quiet_load_str 9 (.tmp 51) rfl ⟨b, off + k * 6, none⟩ rfl (.string nm) (fun w' hk => (HCE.out _ _ (Below.refl _ _) hk).1) Tryd.underlying9 ?_
            go_simp
            go_big_quiet_on
            repeat (go_big_quiet_step ((first | (exact fun _ => rfl) | (intro hk; go_at_call 40; exact hk.call (C1.out _)))))
            go_big_quiet_want
            refine quiet_load_int 3 (.tmp 55) rfl ⟨wr.heap.size, 0, none⟩ rfl _ .i64 (fun w' hk => (HCE.out _ _ (Below.refl _ _) hk).2) Tryd.underlying3 ?_
            go_simp
            go_big_quiet_on
            repeat (go_big_quiet_step ((first | (exact fun _ => rfl) | (intro hk; go_at_call 31; exact hk.call (CN.out _)) | (intro hk; go_at_call 40; exact hk.call (C2.out _)))))
            refine wpQuiet_nil ?_
            intro W2 hk2
            have HK2 := Lib.hid (fin.out _ _ (Below.refl _ _) hk2)
            clear hk2
            go_wp2_with fail
            go_roundw
            case rel => exact HK2.out
            case measure => simp [intOf]; omega
        · have C2 := Lib.hid (fun W => C2.out (ba (rowS (ls.map bl))) W (HV4.out rfl).symm)
          have HRow := Lib.hid (fun W (hW : Below wr.heap.size wr W) => Nets.refRow_any (.slice la ln lc) ls W (HRR.out.below hW) HSM.out)
          go_wp2_with fail
          refine (HRow.out _ ((Below.refl _ _).alloc (Nat.le_refl _) _)).mono ?_
          rintro e' W1 ⟨rfl, hb1⟩
          have HB1 := Lib.hid hb1
          clear hb1
          have e9 : rowS (ls.map bl) = Nets.rowS (ls.map Nets.bl) := rfl
          go_wp2_with fail
          refine wp_region_kept (by kernel_rfl) (by kernel_rfl) ?_
          repeat (go_big_quiet_step (exact fun _ => rfl))
          go_big_quiet_want
          refine quiet_load_str 9 (.tmp 51) rfl ⟨b, off + k * 6, none⟩ rfl (.string nm) (fun w' hk => (HCE.out _ _ HB1.out hk).1) Tryd.underlying9 ?_
          go_simp
          go_big_quiet_on
          repeat (go_big_quiet_step ((first | (exact fun _ => rfl) | (intro hk; go_at_call 40; exact hk.call (C1.out _)))))
          go_big_quiet_want
          refine quiet_load_int 3 (.tmp 55) rfl ⟨wr.heap.size, 0, none⟩ rfl _ .i64 (fun w' hk => (HCE.out _ _ HB1.out hk).2) Tryd.underlying3 ?_
          go_simp
          go_big_quiet_on
          repeat (go_big_quiet_step ((first | (exact fun _ => rfl) | (intro hk; go_at_call 31; exact hk.call (CN.out _)) | (intro hk; go_at_call 40; exact hk.call (C2.out _)))))
          refine wpQuiet_nil ?_
          intro W2 hk2
          have HK2 := Lib.hid (fin.out _ _ HB1.out hk2)
          clear hk2
          go_wp2_with fail
          go_roundw
          case rel => exact HK2.out
          case measure => simp [intOf]; omega
      · have he : showQ q k = showS q := by unfold showQ; rw [List.take_of_length_le (by omega)]
        have HF := Lib.hid (And.intro hx hb)
        clear hx hb
        go_wp2_with fail
        go_ret
        refine ⟨?_, HF.out.2⟩
        rw [← he, ← HF.out.1]
        rfl
end Go.Proofs.YtoknflnoehmngaaDoor.Cell
