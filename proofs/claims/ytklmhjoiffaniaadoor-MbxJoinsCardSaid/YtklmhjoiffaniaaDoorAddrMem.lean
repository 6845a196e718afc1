/-
  Addresses in memory; walks: Text, Key.
-/
import Derived.Test.YtklmhjoiffaniaaDoorAddrWalkB
import Derived.Laws.StructEq
import Derived.Deep.CutRange
import Derived.Outline
namespace Go.Proofs.YtklmhjoiffaniaaDoor.Addr
open Go Go.RowKit
open Go.Proofs.YtklmhjoiffaniaaDoor.Lex
open Go.Proofs.YtklmhjoiffaniaaDoor.Glyph (fd foldL foldL_foldL fold_any)
open Go.Proofs.YtklmhjoiffaniaaDoor.Sha (Kept wp_region_kept wp_region_kept_tail quiet_load_row)

abbrev adT : TypeId := 31
abbrev arT : TypeId := 38
abbrev adB (l d : ByteArray) : Value := .agg #[.string l, .string d]
abbrev boxA (t : TypeId) (l d : ByteArray) : Obj := .cells #[.string l, .string d] t
def cellsA (l d : ByteArray) : List Value := [.string l, .string d]
theorem sizeA : (Tryd.prog.info? adT).map (·.size) = some 2 := by kernel_rfl
theorem sizeAR : (Tryd.prog.info? arT).map (·.size) = some 2 := by kernel_rfl
theorem twoA {w : World} {b o : Nat} {l d : ByteArray} (h : w.rangeAt b o (cellsA l d)) : w.cell? ⟨b, o, none⟩ = some (.string l) ∧ w.cell? ⟨b, o + 1, none⟩ = some (.string d) := ⟨h 0 _ rfl, h 1 _ rfl⟩
theorem new_boxA (w : World) (t : TypeId) (l d : ByteArray) : (w.alloc (boxA t l d)).rangeAt w.heap.size 0 (cellsA l d) := by
  intro j u h
  have hb := heap_alloc_new w (boxA t l d)
  simp only [World.cell?, hb, Nat.zero_add]
  match j, h with
  | 0, h => exact h
  | 1, h => exact h
  | j + 2, h => simp [cellsA] at h
theorem quiet_load_str {P : Program} {C : World → Prop} {o : Oper} {a : Act} {K : Act → Prop} (ty : TypeId) (x : Operand) (ho : o.op = .load ty x) (p : Addr) (hx : a.eval x = .pointer (some p)) (v : Value)
    (hc : ∀ w, C w → w.cell? p = some v) (hu : P.underlying ty = some .string) (h : K (a.put o.dst v)) : o.quiet P a C K :=
  ⟨_, fun w hw => by
    have h1 := hc w hw
    unfold Oper.quietAt execOp
    simp [ho, hx, Instr.loadAt, Instr.sureAddr, loadVar, isAgg, run_underlying hu, h1]
    exact ⟨rfl, rfl⟩, h⟩
theorem results_ad2 {P : Program} {fn : Func} {p u : Tmp} {ty : TypeId} (h : fn.results = #[.cell p ty, .tmp u]) (tmps : Array Value) (w : World) (g : Nat) (t : TypeId) (cs : Array Value) (fr : Nat × Nat) (d : TypeDesc)
    (hp : tmps.getD p undef = .pointer (some ⟨g, 0, none⟩)) (hg : w.heap[g]? = some (.cells cs t fr))
    (hu : P.underlying ty = some d) (hd : (match d with | .struct _ | .array _ _ => true | _ => false) = true) (hi : (P.info? ty).map (·.size) = some cs.size) :
    (results fn tmps).run P w = .ok (.tuple #[.agg cs, tmps.getD u undef]) w := by
  have hp' : tmps[p]?.getD undef = .pointer (some ⟨g, 0, none⟩) := by simpa using hp
  simp [results, h, hp', asAddr, run_loadVar_row w g t ty cs fr d hg hu hd hi]

/-! Told apart. -/
theorem str_eq (a b : ByteArray) : (a.toList == b.toList) = decide (a = b) := by
  rw [Bool.eq_iff_iff, beq_iff_eq, decide_eq_true_eq, Lib.toList_data, Lib.toList_data]
  constructor
  · intro h
    exact ByteArray.ext (Array.toList_inj.1 h)
  · rintro rfl; rfl
theorem eqIn_ad (w : World) (n : Nat) (a b c d : ByteArray) : (Op.equalIn (n + 2) adT (adB a b) (adB c d)).run Tryd.prog w = .ok (decide (a = c) && decide (b = d)) w := by
  have e : (Op.equalIn (n + 1 + 1) adT (adB a b) (adB c d)).run Tryd.prog w = _ := run_equalIn_struct w (n + 1) adT _ _ (by unfold Program.fieldsOf; rw [Tryd.underlying31]) (by kernel_rfl)
  rw [e]
  unfold Program.fieldsOf
  rw [Tryd.underlying31, ← str_eq, ← str_eq]
  simp [Op.eqFields, go_sem]
  by_cases h1 : a.toList = c.toList <;> by_cases h2 : b.toList = d.toList <;> simp [h1, h2]
theorem eqIn_ar (w : World) (n : Nat) (a b c d : ByteArray) : (Op.equalIn (n + 2) arT (adB a b) (adB c d)).run Tryd.prog w = .ok (decide (a = c) && decide (b = d)) w := by
  have e : (Op.equalIn (n + 1 + 1) arT (adB a b) (adB c d)).run Tryd.prog w = _ := run_equalIn_struct w (n + 1) arT _ _ (by unfold Program.fieldsOf; rw [Tryd.underlying38]) (by kernel_rfl)
  rw [e]
  unfold Program.fieldsOf
  rw [Tryd.underlying38, ← str_eq, ← str_eq]
  simp [Op.eqFields, go_sem]
  by_cases h1 : a.toList = c.toList <;> by_cases h2 : b.toList = d.toList <;> simp [h1, h2]
theorem eqIn_tok (w : World) (n : Nat) (a b : Tk) : (Op.equalIn (n + 2) tkT (tkV a) (tkV b)).run Tryd.prog w = .ok (decide (a.kind = b.kind) && decide (a.text = b.text)) w := by
  have e : (Op.equalIn (n + 1 + 1) tkT (tkV a) (tkV b)).run Tryd.prog w = _ := run_equalIn_struct w (n + 1) tkT _ _ (by unfold Program.fieldsOf; rw [Tryd.underlying76]) (by kernel_rfl)
  rw [e]
  unfold Program.fieldsOf
  rw [Tryd.underlying76, ← str_eq]
  simp [Op.eqFields, go_sem]
  by_cases h1 : a.kind = b.kind <;> by_cases h2 : a.text.toList = b.text.toList <;> simp [h1, h2]
theorem eql_ad (w : World) (a b c d : ByteArray) : (binOp .eql adT (adB a b) (adB c d)).run Tryd.prog w = .ok (.bool (decide (a = c) && decide (b = d))) w := by
  simp only [binOp]
  simp [Op.equal, Op.maxDepth, eqIn_ad w 9998]
theorem eql_ar (w : World) (a b c d : ByteArray) : (binOp .eql arT (adB a b) (adB c d)).run Tryd.prog w = .ok (.bool (decide (a = c) && decide (b = d))) w := by
  simp only [binOp]
  simp [Op.equal, Op.maxDepth, eqIn_ar w 9998]
theorem eql_tok (w : World) (a b : Tk) : (binOp .eql tkT (tkV a) (tkV b)).run Tryd.prog w = .ok (.bool (decide (a.kind = b.kind) && decide (a.text = b.text))) w := by
  simp only [binOp]
  simp [Op.equal, Op.maxDepth, eqIn_tok w 9998]
theorem neq_tok (w : World) (a b : Tk) : (binOp .neq tkT (tkV a) (tkV b)).run Tryd.prog w = .ok (.bool (!(decide (a.kind = b.kind) && decide (a.text = b.text)))) w := by
  simp only [binOp]
  simp [Op.equal, Op.maxDepth, eqIn_tok w 9998]

/-! Text and Key. -/
theorem ba_cat (a b : List UInt8) : ba a ++ ba b = ba (a ++ b) := Glyph.ba_append a b
theorem txt_dotted {l d : ByteArray} (h : dottedB (bl l) = true) : l ++ atS ++ d = ba (textL ⟨bl l, bl d⟩) := by
  unfold textL
  simp only
  rw [if_pos h]
  conv => lhs; rw [← ba_bl l, ← ba_bl d]
  rw [show atS = ba [64] from rfl, ba_cat, ba_cat]
  simp
theorem txt_quoted {l d : ByteArray} (h : dottedB (bl l) = false) : ba (quoteL (bl l)) ++ atS ++ d = ba (textL ⟨bl l, bl d⟩) := by
  unfold textL
  simp only
  rw [h, if_neg (by decide)]
  conv => lhs; rw [← ba_bl d]
  rw [show atS = ba [64] from rfl, ba_cat, ba_cat]
  simp
theorem textL_le (a : Ad) : (textL a).length ≤ 2 * a.l.length + a.d.length + 3 := by
  unfold textL
  have := quote_len a.l
  rw [List.length_append, List.length_cons]
  split <;> omega
set_option maxRecDepth 100000 in
set_option maxHeartbeats 2000000 in
theorem text_any (l d : ByteArray) (w : World) (hl : l.size ≤ 400000) (hd : d.size ≤ 400000) :
    Calls Tryd.prog 27 #[adB l d] w fun e w' => e = .returned (.string (ba (textL ⟨bl l, bl d⟩))) ∧ Below w.heap.size w w' := by
  have HD := Lib.hid (fun W => dotted_any l W (by omega))
  have HN := Lib.hid (new_boxA w adT l d)
  have HA : Hid (Below w.heap.size w (w.alloc (boxA adT l d))) := Lib.hid ((Below.refl _ _).alloc (Nat.le_refl _) _)
  cases hb : dottedB (bl l)
  · rw [hb] at HD
    have HX := Lib.hid (txt_quoted (d := d) hb)
    have HQ := Lib.hid (fun W => quote_any l W (by omega))
    have hq : (ba (quoteL (bl l))).size ≤ 2 * l.size + 2 := by
      rw [ba_size]
      have := quote_len (bl l)
      rwa [bl_len] at this
    clear hb
    generalize ba (quoteL (bl l)) = q at *
    go_enter Tryd.func27, Tryd.ntmps27
    go_wp2_with fail
    refine (HD.out _).mono ?_
    rintro e w1 ⟨rfl, hb⟩
    have HR := Lib.hid (range_below HN.out (by simp) hb)
    have HB := Lib.hid (HA.out.trans (hb.mono HA.out.size))
    have HL : Hid (w.heap.size < w1.heap.size) := Lib.hid (by have := hb.size; simp at this; omega)
    clear hb
    go_wp2_with fail
    refine wp_region_kept (by kernel_rfl) (by kernel_rfl) ?_
    repeat (first
      | (go_big_quiet_want
         first
           | refine quiet_load_str 9 (.tmp 12) rfl ⟨w.heap.size, 0, none⟩ rfl (.string l) (fun w' hk => (twoA (range_below HR.out HL.out hk)).1) Tryd.underlying9 ?_
           | refine quiet_load_str 9 (.tmp 16) rfl ⟨w.heap.size, 0 + 1, none⟩ rfl (.string d) (fun w' hk => (twoA (range_below HR.out HL.out hk)).2) Tryd.underlying9 ?_
         go_simp
         go_big_quiet_on)
      | (go_big_quiet_step ((first | (exact fun _ => rfl) | (intro hk; go_at_call 32; exact hk.call (HQ.out _))))))
    refine wpQuiet_nil ?_
    intro W2 hk2
    have HK2 := Lib.hid (HB.out.trans (hk2.below.mono HB.out.size))
    clear hk2
    go_wp2_with fail
    go_ret
    exact ⟨by rw [← HX.out]; rfl, HK2.out⟩
  · rw [hb] at HD
    have HX := Lib.hid (txt_dotted (d := d) hb)
    clear hb
    go_enter Tryd.func27, Tryd.ntmps27
    go_wp2_with fail
    refine (HD.out _).mono ?_
    rintro e w1 ⟨rfl, hb⟩
    have hr := range_below HN.out (by simp) hb
    obtain ⟨c0, c1⟩ := twoA hr
    have HB := Lib.hid (HA.out.trans (hb.mono HA.out.size))
    clear hb hr
    go_wp2_with fail
    go_ret
    exact ⟨by rw [← HX.out]; rfl, HB.out⟩
end Go.Proofs.YtklmhjoiffaniaaDoor.Addr
