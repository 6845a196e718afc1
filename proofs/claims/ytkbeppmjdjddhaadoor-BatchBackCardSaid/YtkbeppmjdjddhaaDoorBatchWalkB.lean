/-
  Walks of the program's batch: check, Get.
-/
import Derived.Test.YtkbeppmjdjddhaaDoorBatchWalkA
namespace Go.Proofs.YtkbeppmjdjddhaaDoor.Batch
open Go Go.RowKit

theorem emp_true (s : ByteArray) (h : s.size = 0) : s.toList.isEmpty = true := Nets.emp_of s h
theorem emp_false (s : ByteArray) (h : 0 < s.size) : s.toList.isEmpty = false := Nets.emp_not s h
set_option maxHeartbeats 1000000 in
theorem check_any (c : Chg) (w : World) (hk : c.key.size ≤ 9223372036854775807) (hv : c.val.size ≤ 9223372036854775807) (n : Nat) (hn : chk c = n) :
    Calls Tryd.prog 35 #[chV c] w fun e w' => e = .returned (.int .i64 n) ∧ Below w.heap.size w w' := by
  subst hn
  by_cases h0 : c.key.size = 0
  · have e1 : chk c = 3 := by unfold chk; rw [if_pos h0]
    have e2 := emp_true c.key h0
    rw [e1]
    clear e1
    go_enter Tryd.func35, Tryd.ntmps35
    go_wp2
    go_ret
    exact ⟨rfl, (Below.refl _ _).alloc (Nat.le_refl _) _⟩
  · have e2 := emp_false c.key (by omega)
    by_cases h1 : 200 < c.key.size
    · have e1 : chk c = 2 := by unfold chk; rw [if_neg h0, if_pos (.inl h1)]
      rw [e1]
      clear e1
      go_enter Tryd.func35, Tryd.ntmps35
      go_wp2
      go_ret
      exact ⟨rfl, (Below.refl _ _).alloc (Nat.le_refl _) _⟩
    · by_cases h2 : 1048576 < c.val.size
      · have e1 : chk c = 2 := by unfold chk; rw [if_neg h0, if_pos (.inr h2)]
        rw [e1]
        clear e1
        go_enter Tryd.func35, Tryd.ntmps35
        go_wp2
        go_ret
        exact ⟨rfl, (Below.refl _ _).alloc (Nat.le_refl _) _⟩
      · have e1 : chk c = 0 := by unfold chk; rw [if_neg h0, if_neg (by omega)]
        rw [e1]
        clear e1
        go_enter Tryd.func35, Tryd.ntmps35
        go_wp2
        go_ret
        exact ⟨rfl, (Below.refl _ _).alloc (Nat.le_refl _) _⟩

theorem load_chg (w : World) (g : Nat) (t : TypeId) (cs : Array Value) (h3 : cs.size = 3) (hg : w.heap[g]? = some (.cells cs t (0, 0))) : (loadVar chgT ⟨g, 0, none⟩).run Tryd.prog w = .ok (.agg cs) w :=
  run_loadVar_row w g t chgT cs (0, 0) _ hg Tryd.underlying30 rfl (by rw [h3]; exact size3)
theorem load_ref (w : World) (g : Nat) (t : TypeId) (cs : Array Value) (h3 : cs.size = 3) (hg : w.heap[g]? = some (.cells cs t (0, 0))) : (loadVar refT ⟨g, 0, none⟩).run Tryd.prog w = .ok (.agg cs) w :=
  run_loadVar_row w g t refT cs (0, 0) _ hg Tryd.underlying33 rfl (by rw [h3]; exact sizeR)
/-- The three cells of a box, and that they may be written. -/
theorem lies3 {w : World} {b : Nat} {x y z : Value} {t : TypeId} (h : Lies w b #[x, y, z] t) : w.cell? ⟨b, 0, none⟩ = some x ∧ w.cell? ⟨b, 1, none⟩ = some y ∧ w.cell? ⟨b, 2, none⟩ = some z ∧ w.frozen? ⟨b, 0, none⟩ = false ∧ w.frozen? ⟨b, 1, none⟩ = false ∧ w.frozen? ⟨b, 2, none⟩ = false :=
  ⟨h.cell 0, h.cell 1, h.cell 2, h.free 0, h.free 1, h.free 2⟩
theorem set3 {w w1 : World} {x y z : Value} (h : Below w.heap.size w w1) : Below w.heap.size w (((w1.setCell ⟨w.heap.size, 0, none⟩ x).setCell ⟨w.heap.size, 1, none⟩ y).setCell ⟨w.heap.size, 2, none⟩ z) :=
  ((h.setCell (p := ⟨w.heap.size, 0, none⟩) (Nat.le_refl _) x).setCell (p := ⟨w.heap.size, 1, none⟩) (Nat.le_refl _) y).setCell (p := ⟨w.heap.size, 2, none⟩) (Nat.le_refl _) z
theorem results_two {fn : Func} {p q : Tmp} {ty : TypeId} (h : fn.results = #[.cell p ty, .tmp q]) (tmps : Array Value) (w : World) (g : Nat) (cs : Array Value)
    (hp : tmps.getD p undef = .pointer (some ⟨g, 0, none⟩)) (hl : (loadVar ty ⟨g, 0, none⟩).run Tryd.prog w = .ok (.agg cs) w) :
    (results fn tmps).run Tryd.prog w = .ok (.tuple #[.agg cs, tmps.getD q undef]) w := by
  have hp' : tmps[p]?.getD undef = .pointer (some ⟨g, 0, none⟩) := by simpa using hp
  simp [results, h, hp', asAddr, hl]
theorem results_one {fn : Func} {p : Tmp} {ty : TypeId} (h : fn.results = #[.cell p ty]) (tmps : Array Value) (w : World) (g : Nat) (cs : Array Value)
    (hp : tmps.getD p undef = .pointer (some ⟨g, 0, none⟩)) (hl : (loadVar ty ⟨g, 0, none⟩).run Tryd.prog w = .ok (.agg cs) w) :
    (results fn tmps).run Tryd.prog w = .ok (.agg cs) w := by
  have hp' : tmps[p]?.getD undef = .pointer (some ⟨g, 0, none⟩) := by simpa using hp
  simp [results, h, hp', asAddr, hl]

/-- What is told of a key. -/
def tells (k : ByteArray) (q : List Chg) : Chg := match at? Chg.key k q with | some c => c | none => Chg.none
set_option maxHeartbeats 1000000 in
theorem get_any {w : World} {d : Bt} {q : List Chg} (h : Mem w d q) (hr : Rising Chg.key q) (hl : q.length ≤ 100000) (k : ByteArray) :
    Calls Tryd.prog 12 #[ptr d.pb, .string k] w fun e w' => e = .returned (.tuple #[chV (tells k q), .bool (at? Chg.key k q).isSome]) ∧ Below w.heap.size w w' := by
  have HF := Lib.hid (fun (W : World) (hW : Below w.heap.size w W) => find_any (h.below hW) hr hl k)
  have HM := Lib.hid (fun (W : World) (hW : Below w.heap.size w W) => (h.below hW).cell)
  have hA : Below w.heap.size w (w.alloc (boxC chgT Chg.none)) := (Below.refl _ _).alloc (Nat.le_refl _) _
  have HA := Lib.hid hA
  cases ha : at? Chg.key k q with
  | none =>
    rw [ha] at HF
    have e1 : tells k q = Chg.none := by unfold tells; rw [ha]
    rw [e1]
    clear e1 ha h hr hA
    go_enter Tryd.func12, Tryd.ntmps12
    go_wp2_with fail
    refine (HF.out _ HA.out).mono ?_
    rintro e w1 ⟨rfl, hb1⟩
    have hb : Below (w.alloc (boxC chgT Chg.none)).heap.size (w.alloc (boxC chgT Chg.none)) w1 := hb1
    have hx : w1.heap[w.heap.size]? = some (boxC chgT Chg.none) := (hb.block _ (by simp)).trans (heap_alloc_new w _)
    have HB := Lib.hid (HA.out.trans (hb.mono HA.out.size))
    have HX : Hid (Lies w1 w.heap.size #[.string ⟨#[]⟩, .string ⟨#[]⟩, .bool false] chgT) := hx
    clear hb1 hb hx
    obtain ⟨x0, x1, x2, g0, g1, g2⟩ := lies3 HX.out
    go_wp2_with fail
    refine bodyPost_ret (results_two Tryd.results12 _ _ w.heap.size _ rfl (load_chg _ _ chgT _ rfl (((HX.out.set 0 _).set 1 _).set 2 _))) rfl ?_
    refine ⟨rfl, ?_⟩
    exact set3 HB.out
  | some c =>
    rw [ha] at HF
    have e1 : tells k q = c := by unfold tells; rw [ha]
    obtain ⟨hlt, hat⟩ := at_there Chg.key hr ha
    have HC := Lib.hid (fun (W : World) (hW : Below w.heap.size w W) => (h.below hW).reads)
    obtain ⟨b0, off, cap, hv, hbl, h4⟩ : ∃ b off cap, d.cv = .slice (some ⟨b, off, none⟩) q.length cap ∧ b < w.heap.size ∧ w.rangeAt b (off + lo Chg.key k q * 3) (chC c) := by
      rcases h.reads with ⟨a, cap, _, e⟩ | ⟨_, b, off, cap, e1, e2, e3⟩
      · rw [e] at hlt; exact absurd hlt (by simp)
      · exact ⟨b, off, cap, e1, e2, e3 _ _ hat⟩
    have HR := Lib.hid (fun (W : World) (hW : Below w.heap.size w W) => three (range_below h4 hbl hW))
    have hlo : lo Chg.key k q < q.length := hlt
    rw [e1]
    generalize lo Chg.key k q = L at *
    clear e1 ha h hr hA hat h4 HC
    rw [hv] at HM
    go_enter Tryd.func12, Tryd.ntmps12
    go_wp2_with fail
    refine (HF.out _ HA.out).mono ?_
    rintro e w1 ⟨rfl, hb1⟩
    have hb : Below (w.alloc (boxC chgT Chg.none)).heap.size (w.alloc (boxC chgT Chg.none)) w1 := hb1
    have hx : w1.heap[w.heap.size]? = some (boxC chgT Chg.none) := (hb.block _ (by simp)).trans (heap_alloc_new w _)
    have HB := Lib.hid (HA.out.trans (hb.mono HA.out.size))
    have HX : Hid (Lies w1 w.heap.size #[.string ⟨#[]⟩, .string ⟨#[]⟩, .bool false] chgT) := hx
    clear hb1 hb hx
    obtain ⟨x0, x1, x2, g0, g1, g2⟩ := lies3 HX.out
    have hM := HM.out w1 HB.out
    obtain ⟨c0, c1, c2⟩ := HR.out w1 HB.out
    go_wp2_with fail
    refine bodyPost_ret (results_two Tryd.results12 _ _ w.heap.size _ rfl (load_chg _ _ chgT _ rfl (((HX.out.set 0 _).set 1 _).set 2 _))) rfl ?_
    refine ⟨rfl, ?_⟩
    exact set3 HB.out
end Go.Proofs.YtkbeppmjdjddhaaDoor.Batch
