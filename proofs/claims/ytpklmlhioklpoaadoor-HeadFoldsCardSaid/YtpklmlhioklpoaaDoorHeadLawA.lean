/-
  Walks: To, Same, Light of the laws, SameTexts, the chapter's example.
-/
import Derived.Test.YtpklmlhioklpoaaDoorHeadParse
import Derived.Test.YtpklmlhioklpoaaDoorHeadRight
import Derived.Deep.RegionLaw
namespace Go.Proofs.YtpklmlhioklpoaaDoor.Head
open Go Go.RowKit
open Go.Proofs.YtpklmlhioklpoaaDoor.Sha (Kept wp_region_kept wp_region_kept_tail quiet_load_row)

def TrueP (w : World) (e : Ending) (w' : World) : Prop := e = .returned (.bool true) ∧ Below w.heap.size w w'
theorem FdsAt.add {w W : World} {n c : Nat} {a : Option Addr} {q : List Fd} (h : FdsAt w W (.slice a n c) q) (hn : q.length = n) (y : Fd) (hl : n ≤ 100000000) :
    ∃ a' c' w', (Builtin.append_ #[fdsT, fdsT] fdsT #[.slice a n c, .slice (some ⟨W.heap.size, 0, none⟩) 1 1]).run Tryd.prog (W.alloc (boxF fdT y)) = .ok (.slice a' (n + 1) c') w' ∧ Hid (FdsAt w w' (.slice a' (n + 1) c') (q ++ [y])) := by
  have ho := h.1
  rw [hn] at ho
  obtain ⟨a', c', w', hr, hh⟩ := append_oneF n (us := q) hn W w.heap.size _ y ho hl h.2.size
  refine ⟨a', c', w', hr, Lib.hid ⟨?_, h.2.trans hh.out.2⟩⟩
  rw [List.length_append, hn]
  exact hh.out.1
/-- An append within a region that draws its order, its run laid. -/
theorem step_append_law {P : Program} {ops : Array Oper} {o : Oper} {a : Act} {w w' : World} {K : Act → World → Prop} {Q : Exit → Act → World → Prop} {E : Prop}
    (hg : o.guard = none) (s x : Operand) (t : TypeId) (hop : o.op = Op.call { callee := Callee.builtin Builtin.append, args := #[s, x], argTypes := #[t, t] })
    (u v r : Value) (hs : a.eval s = u) (hx : a.eval x = v) (hrun : (Builtin.append_ #[t, t] o.type #[u, v]).run P w = .ok r w') (hK : K (a.put o.dst r) w') :
    if Region.wanted o (yielded ops a.tmps) = true then Oper.wp P o a w K Q else E := by
  have hw : Region.wanted o (yielded ops a.tmps) = true := by simp [Region.wanted, hg]
  rw [if_pos hw]
  unfold Oper.wp
  simp [execOp, hop, resolve, invoke, builtin, hs, hx, hrun, Result.andThen]
  exact hK
set_option maxRecDepth 100000 in
set_option maxHeartbeats 2000000 in
theorem to_any (v : Value) (q : List Fd) (w : World) (hv : ReadsF w v q) (hl : q.length ≤ 1000000) :
    Calls Tryd.prog 14 #[v] w fun e w' => ∃ u, e = .returned u ∧ FdsAt w w' u q := by
  obtain ⟨va, vc, rfl⟩ := hv.shape
  obtain ⟨n, hn⟩ : ∃ n, n = q.length := ⟨_, rfl⟩
  rw [← hn] at hv hl ⊢
  have HV := Lib.hid (fun k a ha => hv.at_ k a ha)
  have HNN := Lib.hid hn
  have HS := Lib.hid (FdsAt.start w)
  clear hv hn
  go_enter Tryd.func14, Tryd.ntmps14
  go_wp2_with fail
  go_loopw [3, 4] (fun u i wr => ∃ k : Nat, k ≤ n ∧ i = .int .i64 k ∧ Hid (FdsAt w wr u (q.take k))) (fun _ i _ => n - (intOf i).toNat)
  case atStart => exact ⟨0, Nat.zero_le _, rfl, HS⟩
  case round =>
    clear HS
    obtain ⟨k, hk, rfl, hB⟩ := hrel
    obtain ⟨ua, uc, rfl⟩ := owns_slice hB.out.1
    have hlk : (q.take k).length = k := by rw [List.length_take]; have := HNN.out; omega
    rw [hlk]
    by_cases hlt : k < n
    · obtain ⟨f, hf⟩ : ∃ a, q[k]? = some a := ⟨q[k]'(by have := HNN.out; omega), List.getElem?_eq_getElem _⟩
      obtain ⟨b1, o1, rfl, hb1, r1⟩ := HV.out k f hf
      obtain ⟨c0, c1⟩ := two (range_below r1 hb1 hB.out.2)
      have hd : FdsAt w wr.drew (.slice ua k uc) (q.take k) := ⟨by have := hB.out.1; rw [hlk] at this; rw [hlk]; exact this, hB.out.2.drew⟩
      obtain ⟨a', c', w4, hr, hh⟩ := hd.add hlk f (by omega)
      have HR : Hid ((Builtin.append_ #[fdsT, fdsT] fdsT #[.slice ua k uc, .slice (some ⟨wr.heap.size, 0, none⟩) 1 1]).run Tryd.prog (wr.alloc (boxF fdT f)).drew = .ok (.slice a' (k + 1) c') w4) := Lib.hid hr
      have HN : Hid (FdsAt w w4 (.slice a' (k + 1) c') (q.take (k + 1))) := Lib.hid (by
        rw [List.take_add_one, hf]
        exact hh.out)
      clear hf r1 hr hh hd hlk
      go_wp2_with fail
      go_region_law ((refine step_append_law (by rfl) _ _ _ (by rfl) _ _ _ (by rfl) (by rfl) HR.out ?_))
      all_goals
        go_simp
        go_wp2_with fail
        go_roundw
        case rel => exact ⟨k + 1, by omega, by simp, HN⟩
        case measure => simp [intOf]; omega
    · have HE : Hid (FdsAt w wr (.slice ua k uc) q) := Lib.hid (by
        have h := hB.out
        rw [List.take_of_length_le (by have := HNN.out; omega), show q.length = k by have := HNN.out; omega] at h
        exact h)
      clear hlk
      go_wp2_with fail
      go_ret
      exact ⟨_, rfl, HE.out⟩
set_option maxRecDepth 100000 in
set_option maxHeartbeats 4000000 in
theorem same_any (u v : Value) (B : List Fd) (w : World) (hu : ReadsF w u B) (hv : ReadsF w v B) (hl : B.length ≤ 1000000) :
    Calls Tryd.prog 12 #[u, v] w (TrueP w) := by
  obtain ⟨ua, uc, rfl⟩ := hu.shape
  obtain ⟨va, vc, rfl⟩ := hv.shape
  obtain ⟨n, hn⟩ : ∃ n, n = B.length := ⟨_, rfl⟩
  rw [← hn] at hu hv hl ⊢
  have HU := Lib.hid (fun k a ha => hu.at_ k a ha)
  have HV := Lib.hid (fun k a ha => hv.at_ k a ha)
  have HNN := Lib.hid hn
  clear hu hv hn
  go_enter Tryd.func12, Tryd.ntmps12
  go_wp2_with fail
  go_loopw [5, 6] (fun c i wr => ∃ k : Nat, k ≤ n ∧ i = .int .i64 k ∧ c = .bool true ∧ Hid (Below w.heap.size w wr)) (fun _ i _ => n - (intOf i).toNat)
  case atStart => exact ⟨0, Nat.zero_le _, rfl, by simp, Lib.hid (Below.refl _ _)⟩
  case round =>
    obtain ⟨k, hk, rfl, rfl, hB⟩ := hrel
    by_cases hlt : k < n
    · obtain ⟨x, hx⟩ : ∃ a, B[k]? = some a := ⟨B[k]'(by have := HNN.out; omega), List.getElem?_eq_getElem _⟩
      obtain ⟨b1, o1, rfl, hb1, r1⟩ := HU.out k x hx
      obtain ⟨b2, o2, rfl, hb2, r2⟩ := HV.out k x hx
      have HR1 := Lib.hid (fun W (hW : Below wr.heap.size wr W) => two (range_below r1 hb1 (hB.out.trans (hW.mono hB.out.size))))
      have HR2 := Lib.hid (fun W (hW : Below wr.heap.size wr W) => two (range_below r2 hb2 (hB.out.trans (hW.mono hB.out.size))))
      clear r1 r2 hx
      go_wp2_with fail
      refine wp_region_kept (by kernel_rfl) (by kernel_rfl) ?_
      repeat (first
        | (go_big_quiet_want
           first
             | refine quiet_load_str 9 (.tmp 30) rfl ⟨b1, o1 + k * 2, none⟩ rfl (.string x.n) (fun w' hk => (HR1.out w' hk.below).1) Tryd.underlying9 ?_
             | refine quiet_load_str 9 (.tmp 35) rfl ⟨b2, o2 + k * 2, none⟩ rfl (.string x.n) (fun w' hk => (HR2.out w' hk.below).1) Tryd.underlying9 ?_
             | refine quiet_load_str 9 (.tmp 42) rfl ⟨b1, o1 + k * 2 + 1, none⟩ rfl (.string x.v) (fun w' hk => (HR1.out w' hk.below).2) Tryd.underlying9 ?_
             | refine quiet_load_str 9 (.tmp 47) rfl ⟨b2, o2 + k * 2 + 1, none⟩ rfl (.string x.v) (fun w' hk => (HR2.out w' hk.below).2) Tryd.underlying9 ?_
           go_simp
           go_big_quiet_on)
        | (go_big_quiet_step ((exact fun _ => rfl))))
      refine wpQuiet_nil ?_
      intro W2 hk2
      have HK2 := Lib.hid (hB.out.trans (hk2.below.mono hB.out.size))
      clear hk2
      go_wp2_with fail
      go_roundw
      case rel => exact ⟨k + 1, by omega, by simp, by simp, HK2⟩
      case measure => simp [intOf]; omega
    · go_wp2_with fail
      go_ret
      exact ⟨rfl, hB.out⟩
set_option maxRecDepth 100000 in
set_option maxHeartbeats 2000000 in
theorem texts_any (u v : Value) (B : List ByteArray) (w : World) (hu : ReadsS w u B) (hv : ReadsS w v B) (hl : B.length ≤ 1000000) :
    Calls Tryd.prog 19 #[u, v] w (TrueP w) := by
  obtain ⟨n, hn⟩ : ∃ n, n = B.length := ⟨_, rfl⟩
  have hsh : ∀ u, ReadsS w u B → ∃ a c, u = .slice a n c ∧ ∀ i x, B[i]? = some x → ∃ b, a = some ⟨b, 0, none⟩ ∧ b < w.heap.size ∧ w.cell? ⟨b, i, none⟩ = some (.string x) := by
    intro u hu
    rcases hu with ⟨a, c, rfl, h⟩ | ⟨b, c, rfl, _, _, h1, h2⟩
    · refine ⟨a, c, by rw [hn, h]; rfl, fun i x hi => ?_⟩
      rw [h] at hi; simp at hi
    · exact ⟨_, c, by rw [hn], fun i x hi => ⟨b, rfl, h1, h2 i x hi⟩⟩
  obtain ⟨ua, uc, rfl, hu1⟩ := hsh u hu
  obtain ⟨va, vc, rfl, hv1⟩ := hsh v hv
  have HU := Lib.hid hu1
  have HV := Lib.hid hv1
  have HNN := Lib.hid hn
  have hnl : n ≤ 1000000 := by omega
  clear hu hv hn hsh hu1 hv1 hl
  go_enter Tryd.func19, Tryd.ntmps19
  go_wp2_with fail
  go_loopw [5, 6] (fun c i wr => ∃ k : Nat, k ≤ n ∧ i = .int .i64 k ∧ c = .bool true ∧ Hid (Below w.heap.size w wr)) (fun _ i _ => n - (intOf i).toNat)
  case atStart => exact ⟨0, Nat.zero_le _, rfl, by simp, Lib.hid (Below.refl _ _)⟩
  case round =>
    obtain ⟨k, hk, rfl, rfl, hB⟩ := hrel
    by_cases hlt : k < n
    · obtain ⟨x, hx⟩ : ∃ a, B[k]? = some a := ⟨B[k]'(by have := HNN.out; omega), List.getElem?_eq_getElem _⟩
      obtain ⟨b1, rfl, hb1, r1⟩ := HU.out k x hx
      obtain ⟨b2, rfl, hb2, r2⟩ := HV.out k x hx
      have HR1 : Hid (∀ W, Below wr.heap.size wr W → W.cell? ⟨b1, k, none⟩ = some (.string x)) := Lib.hid (fun W hW => by rw [(hB.out.trans (hW.mono hB.out.size)).cell (p := ⟨b1, k, none⟩) hb1]; exact r1)
      have HR2 : Hid (∀ W, Below wr.heap.size wr W → W.cell? ⟨b2, k, none⟩ = some (.string x)) := Lib.hid (fun W hW => by rw [(hB.out.trans (hW.mono hB.out.size)).cell (p := ⟨b2, k, none⟩) hb2]; exact r2)
      clear r1 r2 hx
      go_wp2_with fail
      refine wp_region_kept (by kernel_rfl) (by kernel_rfl) ?_
      repeat (first
        | (go_big_quiet_want
           first
             | refine quiet_load_str 9 (.tmp 29) rfl ⟨b1, 0 + k, none⟩ rfl (.string x) (fun w' hk => by rw [Nat.zero_add]; exact HR1.out w' hk.below) Tryd.underlying9 ?_
             | refine quiet_load_str 9 (.tmp 29) rfl ⟨b1, k, none⟩ rfl (.string x) (fun w' hk => HR1.out w' hk.below) Tryd.underlying9 ?_
             | refine quiet_load_str 9 (.tmp 33) rfl ⟨b2, 0 + k, none⟩ rfl (.string x) (fun w' hk => by rw [Nat.zero_add]; exact HR2.out w' hk.below) Tryd.underlying9 ?_
             | refine quiet_load_str 9 (.tmp 33) rfl ⟨b2, k, none⟩ rfl (.string x) (fun w' hk => HR2.out w' hk.below) Tryd.underlying9 ?_
           go_simp
           go_big_quiet_on)
        | (go_big_quiet_step ((exact fun _ => rfl))))
      refine wpQuiet_nil ?_
      intro W2 hk2
      have HK2 := Lib.hid (hB.out.trans (hk2.below.mono hB.out.size))
      clear hk2
      go_wp2_with fail
      go_roundw
      case rel => exact ⟨k + 1, by omega, by simp, by simp, HK2⟩
      case measure => simp [intOf]; omega
    · go_wp2_with fail
      go_ret
      exact ⟨rfl, hB.out⟩
/-- Not too much for a statement. -/
def okB (f : Fd) : Bool := decide (f.n.size ≤ 200) && decide (f.v.size ≤ 3000)
def lightB (q : List Fd) : Bool := (q.take 30).all okB && decide (q.length ≤ 30)
theorem light_iff {q : List Fd} (h : lightB q = true) : q.length ≤ 30 ∧ ∀ f ∈ q, f.n.size ≤ 200 ∧ f.v.size ≤ 3000 := by
  unfold lightB at h
  rw [Bool.and_eq_true, decide_eq_true_eq] at h
  refine ⟨h.2, fun f hf => ?_⟩
  have h1 := h.1
  rw [List.take_of_length_le h.2] at h1
  have := List.all_eq_true.1 h1 f hf
  unfold okB at this
  simpa using this
set_option maxRecDepth 100000 in
set_option maxHeartbeats 2000000 in
theorem light_any (v : Value) (q : List Fd) (w : World) (hv : ReadsF w v q) :
    Calls Tryd.prog 13 #[v] w fun e w' => e = .returned (.bool (lightB q)) ∧ w = w' := by
  obtain ⟨va, vc, rfl⟩ := hv.shape
  obtain ⟨n, hn⟩ : ∃ n, n = q.length := ⟨_, rfl⟩
  rw [← hn] at hv ⊢
  have HV := Lib.hid (fun k a ha => hv.at_ k a ha)
  have HNN := Lib.hid hn
  clear hv hn
  go_enter Tryd.func13, Tryd.ntmps13
  go_wp2_with fail
  go_loopw [3] (fun i wr => ∃ k : Nat, k ≤ 30 ∧ i = .int .i64 k ∧ Hid (k ≤ n ∧ (q.take k).all okB = true) ∧ w = wr) (fun i _ => 30 - (intOf i).toNat)
  case atStart => exact ⟨0, Nat.zero_le _, rfl, Lib.hid ⟨Nat.zero_le _, by simp⟩, rfl⟩
  case round =>
    obtain ⟨k, hk, rfl, hall, rfl⟩ := hrel
    by_cases hlt : k < n
    · by_cases h30 : k < 30
      · have d1 : (k : Int) < 30 := by omega
        obtain ⟨x, hx⟩ : ∃ a, q[k]? = some a := ⟨q[k]'(by have := HNN.out; omega), List.getElem?_eq_getElem _⟩
        obtain ⟨b1, o1, rfl, hb1, r1⟩ := HV.out k x hx
        obtain ⟨c0, c1⟩ := two r1
        have hbad : okB x = false → Hid (lightB q = false) := fun hb => Lib.hid (by
          unfold lightB
          rw [Bool.and_eq_false_iff]
          refine .inl ?_
          rw [List.all_eq_false]
          refine ⟨x, ?_, by rw [hb]; decide⟩
          rw [List.mem_iff_getElem?]
          exact ⟨k, by rw [List.getElem?_take, if_pos h30]; exact hx⟩)
        have hgood : okB x = true → Hid (k + 1 ≤ n ∧ (q.take (k + 1)).all okB = true) := fun hb => Lib.hid ⟨hlt, by
          rw [List.take_add_one, hx, List.all_append, hall.out.2]
          simp [hb]⟩
        by_cases s1 : 200 < x.n.size
        · have e1 : (200 : Int) < (x.n.size : Int) := by omega
          have HE := hbad (by unfold okB; rw [decide_eq_false (by omega)]; rfl)
          clear hbad hgood hx r1
          go_wp2_with fail
          go_ret
          rw [HE.out]
          exact ⟨rfl, rfl⟩
        · have e1 : ¬ (200 : Int) < (x.n.size : Int) := by omega
          by_cases s2 : 3000 < x.v.size
          · have e2 : (3000 : Int) < (x.v.size : Int) := by omega
            have HE := hbad (by unfold okB; rw [decide_eq_false (p := x.v.size ≤ 3000) (by omega), Bool.and_false])
            clear hbad hgood hx r1
            go_wp2_with fail
            go_ret
            rw [HE.out]
            exact ⟨rfl, rfl⟩
          · have e2 : ¬ (3000 : Int) < (x.v.size : Int) := by omega
            have HG := hgood (by unfold okB; rw [decide_eq_true (by omega), decide_eq_true (by omega)]; rfl)
            clear hbad hgood hx r1
            go_wp2_with fail
            go_roundw
            case rel => exact ⟨k + 1, by omega, by simp, HG, trivial⟩
            case measure => simp [intOf]; omega
      · have hk30 : k = 30 := by omega
        subst hk30
        have HE : Hid (lightB q = decide (n ≤ 30)) := Lib.hid (by unfold lightB; rw [hall.out.2, Bool.true_and, HNN.out])
        have hn30 : ¬ (n : Int) ≤ 30 := by omega
        rw [decide_eq_false (by omega)] at HE
        go_wp2_with fail
        go_ret
        rw [HE.out]
        exact ⟨rfl, rfl⟩
    · have hkn : k = n := by have := hall.out.1; omega
      have HE : Hid (lightB q = true) := Lib.hid (by
        unfold lightB
        have h1 := hall.out.2
        have h2 := HNN.out
        rw [List.take_of_length_le (by omega)] at h1
        rw [List.take_of_length_le (by omega), h1, decide_eq_true (by omega)]
        rfl)
      have hn30 : (n : Int) ≤ 30 := by omega
      go_wp2_with fail
      go_ret
      rw [HE.out]
      exact ⟨rfl, rfl⟩

/-! The example. -/
def exS : ByteArray := ⟨#[65, 58, 32, 98, 13, 10, 32, 99, 13, 10, 13, 10, 100]⟩
abbrev exF : Fd := ⟨⟨#[65]⟩, ⟨#[98, 32, 99]⟩⟩
abbrev exT : ByteArray := ⟨#[65, 58, 32, 98, 32, 99, 13, 10]⟩
theorem exC : parseC (bl exS) = 0 := by kernel_rfl
theorem exFs : parseF (bl exS) = [exF] := by kernel_rfl
theorem exB : ba (parseB (bl exS)) = ⟨#[100]⟩ := by kernel_rfl
theorem exShow : ba (showL (bl exF.n) (bl exF.v)) = exT := by kernel_rfl
theorem eqIn_fd (w : World) (n : Nat) (a b : Fd) : (Op.equalIn (n + 2) fdT (fdV a) (fdV b)).run Tryd.prog w = .ok (decide (a.n = b.n) && decide (a.v = b.v)) w := by
  have e : (Op.equalIn (n + 1 + 1) fdT (fdV a) (fdV b)).run Tryd.prog w = _ := run_equalIn_struct w (n + 1) fdT _ _ (by unfold Program.fieldsOf; rw [Tryd.underlying42]) (by kernel_rfl)
  rw [e]
  unfold Program.fieldsOf
  rw [Tryd.underlying42, ← str_eq, ← str_eq]
  simp [Op.eqFields, go_sem]
  by_cases h1 : a.n.toList = b.n.toList <;> by_cases h2 : a.v.toList = b.v.toList <;> simp [h1, h2]
theorem eql_fd (w : World) (a b : Fd) : (binOp .eql fdT (fdV a) (fdV b)).run Tryd.prog w = .ok (.bool (decide (a.n = b.n) && decide (a.v = b.v))) w := by
  simp only [binOp]
  simp [Op.equal, Op.maxDepth, eqIn_fd w 9998]
theorem guard_fd : Tryd.prog.eqGuardType Tryd.prog.depth fdT = false := by kernel_rfl
set_option maxRecDepth 100000 in
set_option maxHeartbeats 4000000 in
theorem works_any (w : World) (hm : MaxAt w) : Calls Tryd.prog 9 #[] w (TrueP w) := by
  have HR : Hid (Calls Tryd.prog 10 #[.string exS] w fun e w' => ∃ va vc, e = .returned (.tuple #[.slice va 1 vc, .string ⟨#[100]⟩, .int .i64 0]) ∧ ReadsF w' (.slice va 1 vc) [exF] ∧ Below w.heap.size w w') := Lib.hid ((parse_any exS w (by decide) hm).mono fun e w' he => by
    obtain ⟨v, he, hr⟩ := he
    rw [exC, exB] at he
    rw [exFs] at hr
    obtain ⟨va, vc, rfl⟩ := owns_slice hr.1
    exact ⟨va, vc, he, owns_readsF hr.1, hr.2⟩)
  have HSA := Lib.hid (fun W => show_any exF W (by decide) (by decide))
  rw [exShow] at HSA
  have hq : ∀ W, (binOp .eql fdT (fdV exF) (fdV exF)).run Tryd.prog W = .ok (.bool true) W := fun W => by rw [eql_fd]; simp
  have t2 : ((⟨#[100]⟩ : ByteArray).toList == [100]) = true := by rw [Lib.toList_data]; rfl
  have t4 : (exT.toList == [65, 58, 32, 98, 32, 99, 13, 10]) = true := by rw [Lib.toList_data]; rfl
  clear hm
  go_enter Tryd.func9, Tryd.ntmps9
  go_wp2_with fail
  refine HR.out.mono ?_
  rintro e w1 ⟨va, vc, rfl, hr, hb⟩
  obtain ⟨g, o, rfl, hg, r1⟩ := hr.at_ 0 exF rfl
  rw [Nat.zero_mul, Nat.add_zero] at r1
  obtain ⟨c0, c1⟩ := two r1
  have HB := Lib.hid hb
  clear hb hr r1
  go_wp2_with fail
  refine (HSA.out _).mono ?_
  rintro e w2 ⟨rfl, hb⟩
  have HB2 := Lib.hid (HB.out.trans (hb.mono HB.out.size))
  clear hb
  go_wp2_with fail
  go_ret
  exact ⟨rfl, HB2.out⟩
end Go.Proofs.YtpklmlhioklpoaaDoor.Head
