/-
  Walks of the program's disk, fifth part: chosen.
-/
import Derived.Test.YtebiebbbkdbffaaDiskWalkD
namespace Go.Proofs.Ytebiebbbkdbffaa.Disk
open Go Go.RowKit
open Go.Proofs.Ytebiebbbkdbffaa.Sha (wp_region_drawn_tail wp_region_kept_tail quiet_load_row)

/-- The value is a slice that reads as these bools. -/
def ReadsK (w : World) (v : Value) (ks : List Bool) : Prop :=
  (∃ a cap, v = .slice a 0 cap ∧ ks = []) ∨
  (0 < ks.length ∧ ∃ b off cap, v = .slice (some ⟨b, off, none⟩) ks.length cap ∧ b < w.heap.size ∧ ∀ i, i < ks.length → w.cell? ⟨b, off + i, none⟩ = some (.bool (ks.getD i false)))
theorem ReadsK.below {w w' : World} {v : Value} {ks : List Bool} (h : ReadsK w v ks) (hb : Below w.heap.size w w') : ReadsK w' v ks := by
  rcases h with h | ⟨h0, b, off, cap, rfl, h1, h2⟩
  · exact .inl h
  · refine .inr ⟨h0, b, off, cap, rfl, by have := hb.size; omega, fun i hi => ?_⟩
    rw [hb.cell (p := ⟨b, off + i, none⟩) h1]
    exact h2 i hi
theorem ReadsK.keep {B : Nat} {w w' : World} {v : Value} {ks : List Bool} (h : ReadsK w v ks) (hb : Below B w w') (hB : 0 < ks.length → ∀ k, v.ownBlock = some k → k < B) : ReadsK w' v ks := by
  rcases h with h | ⟨h0, b, off, cap, rfl, h1, h2⟩
  · exact .inl h
  · refine .inr ⟨h0, b, off, cap, rfl, by have := hb.size; omega, fun i hi => ?_⟩
    rw [hb.cell (p := ⟨b, off + i, none⟩) (hB h0 b rfl)]
    exact h2 i hi
theorem ReadsK.shape {w : World} {v : Value} {ks : List Bool} (h : ReadsK w v ks) : ∃ a cap, v = .slice a ks.length cap ∧ (0 < ks.length → ∃ b off, a = some ⟨b, off, none⟩ ∧ b < w.heap.size ∧ ∀ i, i < ks.length → w.cell? ⟨b, off + i, none⟩ = some (.bool (ks.getD i false))) := by
  rcases h with ⟨a, cap, rfl, rfl⟩ | ⟨h0, b, off, cap, rfl, h1, h2⟩
  · exact ⟨a, cap, rfl, fun h => by simp at h⟩
  · exact ⟨_, cap, rfl, fun _ => ⟨b, off, rfl, h1, h2⟩⟩

theorem wpList_append_run {P : Program} {w w' : World} {ops : Array Oper} {rest : List Oper} {o : Oper} {a : Act} {Q : Exit → Act → World → Prop} (hg : o.guard = none) (s x : Operand) (t : TypeId)
    (ho : o.op = .call { callee := .builtin .append, args := #[s, x], argTypes := #[t, t] }) (u v r : Value) (hs : a.eval s = u) (hx : a.eval x = v)
    (hrun : (Builtin.append_ #[t, t] o.type #[u, v]).run P w = .ok r w') (h : wpList P ops Q rest (a.put o.dst r) w') : wpList P ops Q (o :: rest) a w := by
  refine wpList_plain hg fun K hK => ?_
  unfold Oper.wp execOp
  simp only [ho, resolve, invoke, builtin, Sem.run_bind, Sem.run_pure, Result.andThen_ok, List.map_toArray, List.map_cons, List.map_nil, hs, hx, hrun]
  exact hK _ _ h
section
variable {w : World}
set_option maxRecDepth 100000 in
set_option maxHeartbeats 4000000 in
theorem chosen_any (w : World) (B : Nat) (cv kv : Value) (ws : List Wr) (ks : List Bool) (ho : w.ownsRow B wrT 2 cv ws.length (ws.flatMap wC)) (hk : ReadsK w kv ks) (hl : ws.length ≤ 1000000) (hkl : ks.length ≤ 9223372036854775807) :
    Calls Try.prog 31 #[cv, kv] w fun e w' => ∃ rv, e = .returned rv ∧ w'.ownsRow w.heap.size wrT 2 rv (chosen ws ks).length ((chosen ws ks).flatMap wC) ∧ Below w.heap.size w w' := by
  have HO := Lib.hid ho
  obtain ⟨ca, cc, rfl⟩ := owns_slice ho
  obtain ⟨ka, kc, rfl, hks⟩ := hk.shape
  have HK := Lib.hid hks
  clear ho hk hks
  go_enter Try.func31, Try.ntmps31
  go_wp2_with fail
  go_loopw [5, 10] (fun v i wr => ∃ (k : Nat) (a : Option Addr) (c : Nat), k ≤ ws.length ∧ i = .int .i64 k ∧ v = .slice a (chosen (ws.take k) ks).length c ∧ wr.ownsRow w.heap.size wrT 2 (.slice a (chosen (ws.take k) ks).length c) (chosen (ws.take k) ks).length ((chosen (ws.take k) ks).flatMap wC) ∧ Below w.heap.size w wr) (fun _ i _ => ws.length - (intOf i).toNat)
  case atStart => exact ⟨0, none, 0, Nat.zero_le _, rfl, by rw [List.take_zero, chosen_nil]; rfl, by rw [List.take_zero, chosen_nil]; exact World.ownsRow_nil _ _ _ _, Below.refl _ _⟩
  case round =>
    obtain ⟨k, a, c, hk, rfl, rfl, hO, hB⟩ := hrel
    have HH := Lib.hid (And.intro hO hB)
    clear hO hB
    by_cases hlt : k < ws.length
    · obtain ⟨x, hx⟩ : ∃ x, ws[k]? = some x := ⟨ws[k], List.getElem?_eq_getElem hlt⟩
      have ho2 := Fr.owns (F := fun j => w.heap.size ≤ j) HO.out ⟨HH.out.2.os, HH.out.2.tape, HH.out.2.output, HH.out.2.size, fun j _ h => HH.out.2.block j (by omega)⟩ (fun j hj => by have := (HO.out.lt j hj).2; omega)
      obtain ⟨g, c', hv, hgb, k0, k1, hr⟩ := owns_write ho2 hx
      obtain ⟨rfl, -, rfl⟩ := Value.slice.inj hv
      have hgs : g < wr.heap.size := (ho2.lt g rfl).2
      have HT := Lib.hid (chosen_take (ks := ks) hx)
      clear hv hgb hr ho2
      by_cases hkk : k < ks.length
      · obtain ⟨b, off, rfl, hb, hkc⟩ := HK.out (by omega)
        have kk := hkc k hkk
        rw [← HH.out.2.cell (p := ⟨b, off + k, none⟩) hb] at kk
        have hbs := Nat.lt_of_lt_of_le hb HH.out.2.size
        clear hkc hb
        cases hbk : ks.getD k false
        · rw [hbk] at kk
          have HN := Lib.hid (HT.out.trans (by rw [hbk]; simp : _ = chosen (ws.take k) ks))
          clear hbk HT
          go_wp2_with fail
          go_roundw
          case rel =>
            refine ⟨k + 1, a, c, by omega, by simp, by rw [HN.out], ?_⟩
            rw [HN.out]
            exact ⟨HH.out.1.alloc _, HH.out.2.alloc HH.out.2.size _⟩
          case measure => simp [intOf]; omega
        · rw [hbk] at kk
          have HN := Lib.hid (HT.out.trans (by rw [hbk]; rfl : _ = chosen (ws.take k) ks ++ [x]))
          clear hbk HT
          have hcl := chosen_length (ws.take k) ks
          rw [List.length_take] at hcl
          have hHs := HH.out.2.size
          obtain ⟨v', w', hr, h3, h4, h5⟩ := append_wr ((wr.alloc (boxW x)).alloc (boxW x)) w.heap.size (wr.heap.size + 1) _ (chosen (ws.take k) ks) x (new_at (by simp)) ((HH.out.1.alloc _).alloc _) (by omega) (by simp; omega)
          obtain ⟨a', c', rfl⟩ := owns_slice h3
          have HR := Lib.hid hr
          have HW := Lib.hid (And.intro h3 (((HH.out.2.alloc hHs (boxW x)).alloc (by simp; omega) (boxW x)).grown h4 (by simp; omega) (fun j hj => (HH.out.1.lt j hj).1)))
          clear hr h3 h4 h5 hcl hHs
          go_wp2_with (at_builtin; refine wpList_append_run rfl _ _ 53 rfl _ _ _ rfl rfl HR.out ?_)
          go_roundw
          case rel =>
            refine ⟨k + 1, a', c', by omega, by simp, by rw [HN.out, List.length_append]; rfl, ?_⟩
            rw [HN.out]
            exact HW.out
          case measure => simp [intOf]; omega
      · have HN := Lib.hid (HT.out.trans (by rw [List.getD_eq_getElem?_getD, List.getElem?_eq_none (by omega)]; simp : _ = chosen (ws.take k) ks))
        clear HT
        go_wp2_with fail
        go_roundw
        case rel =>
          refine ⟨k + 1, a, c, by omega, by simp, by rw [HN.out], ?_⟩
          rw [HN.out]
          exact ⟨HH.out.1.alloc _, HH.out.2.alloc HH.out.2.size _⟩
        case measure => simp [intOf]; omega
    · go_wp2_with fail
      go_ret
      have e : chosen (ws.take k) ks = chosen ws ks := by rw [List.take_of_length_le (by omega)]
      refine ⟨_, rfl, ?_⟩
      rw [← e]
      exact HH.out
end
end Go.Proofs.Ytebiebbbkdbffaa.Disk
