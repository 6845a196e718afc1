/-
  Walks of what the laws of head share; fields among the arguments.
-/
import Derived.Test.YtegbkfloiiilfaaGreatDoorMgHeadB
import Derived.Test.YtegbkfloiiilfaaGreatDoorMgHeadA
import Derived.Deep.RegionLaw
import Derived.ProofKit
import Derived.OpenShut
import Derived.SliceStrings
import Derived.ChangeSame
import Derived.Shelf.Vars
import Derived.Deep.Slices
import Derived.Deep.Grids

/-
  Walks: To, Same, Light of the laws, SameTexts, the chapter's example.
-/
namespace Go.Proofs.YtegbkfloiiilfaaGreatDoor.Head
open Go Go.RowKit
open Go.Proofs.YtegbkfloiiilfaaGreatDoor.Sha (Kept wp_region_kept wp_region_kept_tail quiet_load_row)

def TrueP (w : World) (e : Ending) (w' : World) : Prop := e = .returned (.bool true) ∧ Below w.heap.size w w'
theorem FdsAt.add {w W : World} {n c : Nat} {a : Option Addr} {q : List Fd} (h : FdsAt w W (.slice a n c) q) (hn : q.length = n) (y : Fd) (hl : n ≤ 100000000) :
    ∃ a' c' w', (Builtin.append_ #[fdsT, fdsT] fdsT #[.slice a n c, .slice (some ⟨W.heap.size, 0, none⟩) 1 1]).run Tryz.prog (W.alloc (boxF fdT y)) = .ok (.slice a' (n + 1) c') w' ∧ Hid (FdsAt w w' (.slice a' (n + 1) c') (q ++ [y])) := by
  have ho := h.1
  rw [hn] at ho
  obtain ⟨a', c', w', hr, hh⟩ := append_oneF n (us := q) hn W w.heap.size _ y ho hl h.2.size
  refine ⟨a', c', w', hr, Lib.hid ⟨?_, h.2.trans hh.out.2⟩⟩
  rw [List.length_append, hn]
  exact hh.out.1
/-- An append within a region that draws its order, its run laid. -/
theorem step_append_law {P : Program} {ops : Array Oper} {o : Oper} {a : Act} {w w' : World} {K : Act → World → Prop} {Q : Exit → Act → World → Prop} {E : Prop}
    (hg : o.guard = none) (s x : Operand) (t : TypeId) (hop : o.op = Op.call { callee := Callee.builtin Builtin.append, args := #[s, x], argTypes := #[t, t] })
    (u v r : Value) (hs : a.eval s = u) (hx : a.eval x = v) (hrun : (Builtin.append_ #[t, t] o.type #[u, v]).run P w = .ok r w') (hK : K (a.put o.dst r) w') :
    if Region.wanted o (yielded ops a.tmps) = true then Oper.wp P o a w K Q else E := by
  have hw : Region.wanted o (yielded ops a.tmps) = true := by simp [Region.wanted, hg]
  rw [if_pos hw]
  unfold Oper.wp
  simp [execOp, hop, resolve, invoke, builtin, hs, hx, hrun, Result.andThen]
  exact hK
set_option maxRecDepth 100000 in
set_option maxHeartbeats 2000000 in
theorem to_any (v : Value) (q : List Fd) (w : World) (hv : ReadsF w v q) (hl : q.length ≤ 1000000) :
    Calls Tryz.prog 44 #[v] w fun e w' => ∃ u, e = .returned u ∧ FdsAt w w' u q := by
  obtain ⟨va, vc, rfl⟩ := hv.shape
  obtain ⟨n, hn⟩ : ∃ n, n = q.length := ⟨_, rfl⟩
  rw [← hn] at hv hl ⊢
  have HV := Lib.hid (fun k a ha => hv.at_ k a ha)
  have HNN := Lib.hid hn
  have HS := Lib.hid (FdsAt.start w)
  clear hv hn
  go_enter Tryz.func44, Tryz.ntmps44
  go_wp2_with fail
  go_loopw [3, 4] (fun u i wr => ∃ k : Nat, k ≤ n ∧ i = .int .i64 k ∧ Hid (FdsAt w wr u (q.take k))) (fun _ i _ => n - (intOf i).toNat)
  case atStart => exact ⟨0, Nat.zero_le _, rfl, HS⟩
  case round =>
    clear HS
    obtain ⟨k, hk, rfl, hB⟩ := hrel
    obtain ⟨ua, uc, rfl⟩ := owns_slice hB.out.1
    have hlk : (q.take k).length = k := by rw [List.length_take]; have := HNN.out; omega
    rw [hlk]
    by_cases hlt : k < n
    · obtain ⟨f, hf⟩ : ∃ a, q[k]? = some a := ⟨q[k]'(by have := HNN.out; omega), List.getElem?_eq_getElem _⟩
      obtain ⟨b1, o1, rfl, hb1, r1⟩ := HV.out k f hf
      obtain ⟨c0, c1⟩ := two (range_below r1 hb1 hB.out.2)
      have hd : FdsAt w wr.drew (.slice ua k uc) (q.take k) := ⟨by have := hB.out.1; rw [hlk] at this; rw [hlk]; exact this, hB.out.2.drew⟩
      obtain ⟨a', c', w4, hr, hh⟩ := hd.add hlk f (by omega)
      have HR : Hid ((Builtin.append_ #[fdsT, fdsT] fdsT #[.slice ua k uc, .slice (some ⟨wr.heap.size, 0, none⟩) 1 1]).run Tryz.prog (wr.alloc (boxF fdT f)).drew = .ok (.slice a' (k + 1) c') w4) := Lib.hid hr
      have HN : Hid (FdsAt w w4 (.slice a' (k + 1) c') (q.take (k + 1))) := Lib.hid (by
        rw [List.take_add_one, hf]
        exact hh.out)
      clear hf r1 hr hh hd hlk
      go_wp2_with fail
      go_region_law ((refine step_append_law (by rfl) _ _ _ (by rfl) _ _ _ (by rfl) (by rfl) HR.out ?_))
      all_goals
        go_simp
        go_wp2_with fail
        go_roundw
        case rel => exact ⟨k + 1, by omega, by simp, HN⟩
        case measure => simp [intOf]; omega
    · have HE : Hid (FdsAt w wr (.slice ua k uc) q) := Lib.hid (by
        have h := hB.out
        rw [List.take_of_length_le (by have := HNN.out; omega), show q.length = k by have := HNN.out; omega] at h
        exact h)
      clear hlk
      go_wp2_with fail
      go_ret
      exact ⟨_, rfl, HE.out⟩
set_option maxRecDepth 100000 in
set_option maxHeartbeats 4000000 in
theorem same_any (u v : Value) (B : List Fd) (w : World) (hu : ReadsF w u B) (hv : ReadsF w v B) (hl : B.length ≤ 1000000) :
    Calls Tryz.prog 39 #[u, v] w (TrueP w) := by
  obtain ⟨ua, uc, rfl⟩ := hu.shape
  obtain ⟨va, vc, rfl⟩ := hv.shape
  obtain ⟨n, hn⟩ : ∃ n, n = B.length := ⟨_, rfl⟩
  rw [← hn] at hu hv hl ⊢
  have HU := Lib.hid (fun k a ha => hu.at_ k a ha)
  have HV := Lib.hid (fun k a ha => hv.at_ k a ha)
  have HNN := Lib.hid hn
  clear hu hv hn
  go_enter Tryz.func39, Tryz.ntmps39
  go_wp2_with fail
  go_loopw [5, 6] (fun c i wr => ∃ k : Nat, k ≤ n ∧ i = .int .i64 k ∧ c = .bool true ∧ Hid (Below w.heap.size w wr)) (fun _ i _ => n - (intOf i).toNat)
  case atStart => exact ⟨0, Nat.zero_le _, rfl, by simp, Lib.hid (Below.refl _ _)⟩
  case round =>
    obtain ⟨k, hk, rfl, rfl, hB⟩ := hrel
    by_cases hlt : k < n
    · obtain ⟨x, hx⟩ : ∃ a, B[k]? = some a := ⟨B[k]'(by have := HNN.out; omega), List.getElem?_eq_getElem _⟩
      obtain ⟨b1, o1, rfl, hb1, r1⟩ := HU.out k x hx
      obtain ⟨b2, o2, rfl, hb2, r2⟩ := HV.out k x hx
      have HR1 := Lib.hid (fun W (hW : Below wr.heap.size wr W) => two (range_below r1 hb1 (hB.out.trans (hW.mono hB.out.size))))
      have HR2 := Lib.hid (fun W (hW : Below wr.heap.size wr W) => two (range_below r2 hb2 (hB.out.trans (hW.mono hB.out.size))))
      clear r1 r2 hx
      go_wp2_with fail
      refine wp_region_kept (by kernel_rfl) (by kernel_rfl) ?_
      repeat (first
        | (go_big_quiet_want
           first
             | refine quiet_load_str 9 (.tmp 30) rfl ⟨b1, o1 + k * 2, none⟩ rfl (.string x.n) (fun w' hk => (HR1.out w' hk.below).1) Tryz.underlying9 ?_
             | refine quiet_load_str 9 (.tmp 35) rfl ⟨b2, o2 + k * 2, none⟩ rfl (.string x.n) (fun w' hk => (HR2.out w' hk.below).1) Tryz.underlying9 ?_
             | refine quiet_load_str 9 (.tmp 42) rfl ⟨b1, o1 + k * 2 + 1, none⟩ rfl (.string x.v) (fun w' hk => (HR1.out w' hk.below).2) Tryz.underlying9 ?_
             | refine quiet_load_str 9 (.tmp 47) rfl ⟨b2, o2 + k * 2 + 1, none⟩ rfl (.string x.v) (fun w' hk => (HR2.out w' hk.below).2) Tryz.underlying9 ?_
           go_simp
           go_big_quiet_on)
        | (go_big_quiet_step ((exact fun _ => rfl))))
      refine wpQuiet_nil ?_
      intro W2 hk2
      have HK2 := Lib.hid (hB.out.trans (hk2.below.mono hB.out.size))
      clear hk2
      go_wp2_with fail
      go_roundw
      case rel => exact ⟨k + 1, by omega, by simp, by simp, HK2⟩
      case measure => simp [intOf]; omega
    · go_wp2_with fail
      go_ret
      exact ⟨rfl, hB.out⟩
set_option maxRecDepth 100000 in
set_option maxHeartbeats 2000000 in
theorem texts_any (u v : Value) (B : List ByteArray) (w : World) (hu : ReadsS w u B) (hv : ReadsS w v B) (hl : B.length ≤ 1000000) :
    Calls Tryz.prog 31 #[u, v] w (TrueP w) := by
  obtain ⟨n, hn⟩ : ∃ n, n = B.length := ⟨_, rfl⟩
  have hsh : ∀ u, ReadsS w u B → ∃ a c, u = .slice a n c ∧ ∀ i x, B[i]? = some x → ∃ b, a = some ⟨b, 0, none⟩ ∧ b < w.heap.size ∧ w.cell? ⟨b, i, none⟩ = some (.string x) := by
    intro u hu
    rcases hu with ⟨a, c, rfl, h⟩ | ⟨b, c, rfl, _, _, h1, h2⟩
    · refine ⟨a, c, by rw [hn, h]; rfl, fun i x hi => ?_⟩
      rw [h] at hi; simp at hi
    · exact ⟨_, c, by rw [hn], fun i x hi => ⟨b, rfl, h1, h2 i x hi⟩⟩
  obtain ⟨ua, uc, rfl, hu1⟩ := hsh u hu
  obtain ⟨va, vc, rfl, hv1⟩ := hsh v hv
  have HU := Lib.hid hu1
  have HV := Lib.hid hv1
  have HNN := Lib.hid hn
  have hnl : n ≤ 1000000 := by omega
  clear hu hv hn hsh hu1 hv1 hl
  go_enter Tryz.func31, Tryz.ntmps31
  go_wp2_with fail
  go_loopw [5, 6] (fun c i wr => ∃ k : Nat, k ≤ n ∧ i = .int .i64 k ∧ c = .bool true ∧ Hid (Below w.heap.size w wr)) (fun _ i _ => n - (intOf i).toNat)
  case atStart => exact ⟨0, Nat.zero_le _, rfl, by simp, Lib.hid (Below.refl _ _)⟩
  case round =>
    obtain ⟨k, hk, rfl, rfl, hB⟩ := hrel
    by_cases hlt : k < n
    · obtain ⟨x, hx⟩ : ∃ a, B[k]? = some a := ⟨B[k]'(by have := HNN.out; omega), List.getElem?_eq_getElem _⟩
      obtain ⟨b1, rfl, hb1, r1⟩ := HU.out k x hx
      obtain ⟨b2, rfl, hb2, r2⟩ := HV.out k x hx
      have HR1 : Hid (∀ W, Below wr.heap.size wr W → W.cell? ⟨b1, k, none⟩ = some (.string x)) := Lib.hid (fun W hW => by rw [(hB.out.trans (hW.mono hB.out.size)).cell (p := ⟨b1, k, none⟩) hb1]; exact r1)
      have HR2 : Hid (∀ W, Below wr.heap.size wr W → W.cell? ⟨b2, k, none⟩ = some (.string x)) := Lib.hid (fun W hW => by rw [(hB.out.trans (hW.mono hB.out.size)).cell (p := ⟨b2, k, none⟩) hb2]; exact r2)
      clear r1 r2 hx
      go_wp2_with fail
      refine wp_region_kept (by kernel_rfl) (by kernel_rfl) ?_
      repeat (first
        | (go_big_quiet_want
           first
             | refine quiet_load_str 9 (.tmp 29) rfl ⟨b1, 0 + k, none⟩ rfl (.string x) (fun w' hk => by rw [Nat.zero_add]; exact HR1.out w' hk.below) Tryz.underlying9 ?_
             | refine quiet_load_str 9 (.tmp 29) rfl ⟨b1, k, none⟩ rfl (.string x) (fun w' hk => HR1.out w' hk.below) Tryz.underlying9 ?_
             | refine quiet_load_str 9 (.tmp 33) rfl ⟨b2, 0 + k, none⟩ rfl (.string x) (fun w' hk => by rw [Nat.zero_add]; exact HR2.out w' hk.below) Tryz.underlying9 ?_
             | refine quiet_load_str 9 (.tmp 33) rfl ⟨b2, k, none⟩ rfl (.string x) (fun w' hk => HR2.out w' hk.below) Tryz.underlying9 ?_
           go_simp
           go_big_quiet_on)
        | (go_big_quiet_step ((exact fun _ => rfl))))
      refine wpQuiet_nil ?_
      intro W2 hk2
      have HK2 := Lib.hid (hB.out.trans (hk2.below.mono hB.out.size))
      clear hk2
      go_wp2_with fail
      go_roundw
      case rel => exact ⟨k + 1, by omega, by simp, by simp, HK2⟩
      case measure => simp [intOf]; omega
    · go_wp2_with fail
      go_ret
      exact ⟨rfl, hB.out⟩
/-- Not too much for a statement. -/
def okB (f : Fd) : Bool := decide (f.n.size ≤ 200) && decide (f.v.size ≤ 3000)
def lightB (q : List Fd) : Bool := (q.take 30).all okB && decide (q.length ≤ 30)
theorem light_iff {q : List Fd} (h : lightB q = true) : q.length ≤ 30 ∧ ∀ f ∈ q, f.n.size ≤ 200 ∧ f.v.size ≤ 3000 := by
  unfold lightB at h
  rw [Bool.and_eq_true, decide_eq_true_eq] at h
  refine ⟨h.2, fun f hf => ?_⟩
  have h1 := h.1
  rw [List.take_of_length_le h.2] at h1
  have := List.all_eq_true.1 h1 f hf
  unfold okB at this
  simpa using this
set_option maxRecDepth 100000 in
set_option maxHeartbeats 2000000 in
theorem light_any (v : Value) (q : List Fd) (w : World) (hv : ReadsF w v q) :
    Calls Tryz.prog 43 #[v] w fun e w' => e = .returned (.bool (lightB q)) ∧ w = w' := by
  obtain ⟨va, vc, rfl⟩ := hv.shape
  obtain ⟨n, hn⟩ : ∃ n, n = q.length := ⟨_, rfl⟩
  rw [← hn] at hv ⊢
  have HV := Lib.hid (fun k a ha => hv.at_ k a ha)
  have HNN := Lib.hid hn
  clear hv hn
  go_enter Tryz.func43, Tryz.ntmps43
  go_wp2_with fail
  go_loopw [3] (fun i wr => ∃ k : Nat, k ≤ 30 ∧ i = .int .i64 k ∧ Hid (k ≤ n ∧ (q.take k).all okB = true) ∧ w = wr) (fun i _ => 30 - (intOf i).toNat)
  case atStart => exact ⟨0, Nat.zero_le _, rfl, Lib.hid ⟨Nat.zero_le _, by simp⟩, rfl⟩
  case round =>
    obtain ⟨k, hk, rfl, hall, rfl⟩ := hrel
    by_cases hlt : k < n
    · by_cases h30 : k < 30
      · have d1 : (k : Int) < 30 := by omega
        obtain ⟨x, hx⟩ : ∃ a, q[k]? = some a := ⟨q[k]'(by have := HNN.out; omega), List.getElem?_eq_getElem _⟩
        obtain ⟨b1, o1, rfl, hb1, r1⟩ := HV.out k x hx
        obtain ⟨c0, c1⟩ := two r1
        have hbad : okB x = false → Hid (lightB q = false) := fun hb => Lib.hid (by
          unfold lightB
          rw [Bool.and_eq_false_iff]
          refine .inl ?_
          rw [List.all_eq_false]
          refine ⟨x, ?_, by rw [hb]; decide⟩
          rw [List.mem_iff_getElem?]
          exact ⟨k, by rw [List.getElem?_take, if_pos h30]; exact hx⟩)
        have hgood : okB x = true → Hid (k + 1 ≤ n ∧ (q.take (k + 1)).all okB = true) := fun hb => Lib.hid ⟨hlt, by
          rw [List.take_add_one, hx, List.all_append, hall.out.2]
          simp [hb]⟩
        by_cases s1 : 200 < x.n.size
        · have e1 : (200 : Int) < (x.n.size : Int) := by omega
          have HE := hbad (by unfold okB; rw [decide_eq_false (by omega)]; rfl)
          clear hbad hgood hx r1
          go_wp2_with fail
          go_ret
          rw [HE.out]
          exact ⟨rfl, rfl⟩
        · have e1 : ¬ (200 : Int) < (x.n.size : Int) := by omega
          by_cases s2 : 3000 < x.v.size
          · have e2 : (3000 : Int) < (x.v.size : Int) := by omega
            have HE := hbad (by unfold okB; rw [decide_eq_false (p := x.v.size ≤ 3000) (by omega), Bool.and_false])
            clear hbad hgood hx r1
            go_wp2_with fail
            go_ret
            rw [HE.out]
            exact ⟨rfl, rfl⟩
          · have e2 : ¬ (3000 : Int) < (x.v.size : Int) := by omega
            have HG := hgood (by unfold okB; rw [decide_eq_true (by omega), decide_eq_true (by omega)]; rfl)
            clear hbad hgood hx r1
            go_wp2_with fail
            go_roundw
            case rel => exact ⟨k + 1, by omega, by simp, HG, trivial⟩
            case measure => simp [intOf]; omega
      · have hk30 : k = 30 := by omega
        subst hk30
        have HE : Hid (lightB q = decide (n ≤ 30)) := Lib.hid (by unfold lightB; rw [hall.out.2, Bool.true_and, HNN.out])
        have hn30 : ¬ (n : Int) ≤ 30 := by omega
        rw [decide_eq_false (by omega)] at HE
        go_wp2_with fail
        go_ret
        rw [HE.out]
        exact ⟨rfl, rfl⟩
    · have hkn : k = n := by have := hall.out.1; omega
      have HE : Hid (lightB q = true) := Lib.hid (by
        unfold lightB
        have h1 := hall.out.2
        have h2 := HNN.out
        rw [List.take_of_length_le (by omega)] at h1
        rw [List.take_of_length_le (by omega), h1, decide_eq_true (by omega)]
        rfl)
      have hn30 : (n : Int) ≤ 30 := by omega
      go_wp2_with fail
      go_ret
      rw [HE.out]
      exact ⟨rfl, rfl⟩

/-! The example. -/
def exS : ByteArray := ⟨#[65, 58, 32, 98, 13, 10, 32, 99, 13, 10, 13, 10, 100]⟩
abbrev exF : Fd := ⟨⟨#[65]⟩, ⟨#[98, 32, 99]⟩⟩
abbrev exT : ByteArray := ⟨#[65, 58, 32, 98, 32, 99, 13, 10]⟩
theorem exC : parseC (bl exS) = 0 := by kernel_rfl
theorem exFs : parseF (bl exS) = [exF] := by kernel_rfl
theorem exB : ba (parseB (bl exS)) = ⟨#[100]⟩ := by kernel_rfl
theorem exShow : ba (showL (bl exF.n) (bl exF.v)) = exT := by kernel_rfl
theorem eqIn_fd (w : World) (n : Nat) (a b : Fd) : (Op.equalIn (n + 2) fdT (fdV a) (fdV b)).run Tryz.prog w = .ok (decide (a.n = b.n) && decide (a.v = b.v)) w := by
  have e : (Op.equalIn (n + 1 + 1) fdT (fdV a) (fdV b)).run Tryz.prog w = _ := run_equalIn_struct w (n + 1) fdT _ _ (by unfold Program.fieldsOf; rw [Tryz.underlying68]) (by kernel_rfl)
  rw [e]
  unfold Program.fieldsOf
  rw [Tryz.underlying68, ← str_eq, ← str_eq]
  simp [Op.eqFields, go_sem]
  by_cases h1 : a.n.toList = b.n.toList <;> by_cases h2 : a.v.toList = b.v.toList <;> simp [h1, h2]
theorem eql_fd (w : World) (a b : Fd) : (binOp .eql fdT (fdV a) (fdV b)).run Tryz.prog w = .ok (.bool (decide (a.n = b.n) && decide (a.v = b.v))) w := by
  simp only [binOp]
  simp [Op.equal, Op.maxDepth, eqIn_fd w 9998]
theorem guard_fd : Tryz.prog.eqGuardType Tryz.prog.depth fdT = false := by kernel_rfl
end Go.Proofs.YtegbkfloiiilfaaGreatDoor.Head

/-
  A field, and a list of fields, among the arguments, opened; what the world's shape tells of internal/bytealg.MaxLen.
-/
namespace Go.Proofs.YtegbkfloiiilfaaGreatDoor.Head
open Go Go.RowKit Go.ChangeShapes Go.WideShapes Go.ChangeAt

theorem cellsStr : Tryz.prog.cellsOf 9 = 1 := by kernel_rfl
theorem cellsFd : Tryz.prog.cellsOf 65 = 2 := by kernel_rfl
theorem maxAt_of_shape {W : World} (h : W.ShapedOpen Tryz.prog) : MaxAt W :=
  Go.Proofs.cell_of_shapedOpen_int (zero := #[.int .i64 0]) (t := 3) h (of_decide_eq_true (by kernel_rfl)) (by kernel_rfl) rfl (by kernel_rfl) (by kernel_rfl) Tryz.underlying3
section
variable {H : Type} {enc : TypeId × Value → H} {W : World}
set_option maxRecDepth 100000 in
/-- The two cells of a field. -/
theorem open_fd {fuel : Nat} {cs : List Value} {x : DataW H × List MemPlace} (hf : DataW.trod enc Tryz.prog W 0 (fun _ => true) true fuel 65 cs = some x) : ∃ f : Fd, cs = fdC f := by
  obtain ⟨y0, y1, n, _, hl, h0, h1⟩ := trod_struct2 Tryz.underlying65 hf
  rw [cellsFd] at hl
  match cs, hl with
  | [c0, c1], _ =>
    simp only [cellsStr, List.drop_zero, List.drop_succ_cons, List.take_succ_cons, List.take_zero] at h0 h1
    obtain ⟨k, e0, _, w0⟩ := DataW.trod_string Tryz.underlying9 h0
    obtain ⟨s, e1, _, w1⟩ := DataW.trod_string Tryz.underlying9 h1
    obtain rfl := List.cons.inj e0 |>.1
    obtain rfl := List.cons.inj e1 |>.1
    exact ⟨⟨k, s⟩, rfl⟩
set_option maxRecDepth 100000 in
theorem arg_fd {base : Nat} {v : Value} {d : DataW H} {p : List MemPlace} (hv : Value.okWide Tryz.prog W .any base 65 v) (h : DataW.Trod enc Tryz.prog W 0 (fun _ => true) true 65 v d p) :
    ∃ f : Fd, v = fdV f := by
  obtain ⟨cs, rfl, hsz, _⟩ : ∃ cs, v = .agg cs ∧ cs.size = Tryz.prog.cellsOf 65 ∧ Row.okWide Tryz.prog W .any base 65 cs := by
    simpa [Value.okWide, Tryz.underlying65] using hv
  obtain ⟨l⟩ := cs
  obtain ⟨fuel, hf⟩ := h
  obtain ⟨f1, hc⟩ := open_fd (cs := l) (by simpa [Value.cells] using hf)
  subst hc
  exact ⟨f1, rfl⟩
set_option maxRecDepth 100000 in
theorem arg_fds {base : Nat} {v : Value} {d : DataW H} {p : List MemPlace} (hv : Value.okWide Tryz.prog W .any base 29 v) (h : DataW.Trod enc Tryz.prog W 0 (fun _ => true) true 29 v d p) :
    ∃ q, ReadsF W v q := by
  obtain ⟨a0, len, cap, rfl⟩ := okWide_slice Tryz.underlying29 hv
  obtain ⟨fuel, hf⟩ := h
  rcases Go.Deep.open_slice Tryz.underlying29 hf with ⟨e, _⟩ | ⟨a, l, c, m, n, D, Pl, e, _, hl, hm, hmm, _, hel⟩
  · have e2 : Value.slice a0 len cap = .slice none 0 0 := by simpa [Value.cells] using e
    rw [e2]
    exact ⟨[], .inl ⟨none, 0, rfl, rfl⟩⟩
  · have e2 : Value.slice a0 len cap = .slice (some a) l c := by simpa [Value.cells] using e
    rw [e2]
    simp only [if_true] at hmm
    subst hmm
    rw [cellsFd] at hel
    by_cases h0 : l = 0
    · subst h0
      exact ⟨[], .inl ⟨_, _, rfl, rfl⟩⟩
    · have hone : ∀ i, i < l → ∃ e : Fd, W.cells? 0 (a.add (i * 2)) 2 = some (fdC e) := fun i hi => by
        obtain ⟨cs', h1, h2⟩ := hel i (by omega)
        obtain ⟨e, rfl⟩ := open_fd h2
        exact ⟨e, h1⟩
      haveI : Inhabited Fd := ⟨⟨⟨#[]⟩, ⟨#[]⟩⟩⟩
      obtain ⟨f, hfe⟩ := Go.Deep.choose_lt hone
      have hcell : ∀ i, i < l → ∀ j x, (fdC (f i))[j]? = some x → W.cell? ((a.add (i * 2)).add j) = some x := fun i hi j x hx => by
        have hh := World.cells?_some (hfe i hi)
        rw [hh.2.2 j (by rw [← tkC_length (f i)]; exact (List.getElem?_eq_some_iff.1 hx).1)]
        exact hx
      obtain ⟨b, off, spot⟩ := a
      have hspot : spot = none := by simpa [Addr.add] using World.cell?_spot (hcell 0 (by omega) 0 _ rfl)
      subst hspot
      refine ⟨(List.range l).map f, .inr ⟨b, off, m, by simp, by simp; omega, by unfold maxLen at hm; omega, ?_, fun i e hi j x hx => ?_⟩⟩
      · have := hcell 0 (by omega) 0 _ rfl
        rw [addr_add, addr_add] at this
        exact cell_lt this
      · obtain ⟨hi2, rfl⟩ : i < l ∧ f i = e := by
          rw [List.getElem?_map, Option.map_eq_some_iff] at hi
          obtain ⟨y, hy, rfl⟩ := hi
          obtain ⟨h1, h2⟩ := List.getElem?_eq_some_iff.1 hy
          rw [List.getElem_range] at h2
          subst h2
          exact ⟨by simpa using h1, rfl⟩
        have := hcell i hi2 j x hx
        rw [addr_add, addr_add] at this
        exact this
end
end Go.Proofs.YtegbkfloiiilfaaGreatDoor.Head
