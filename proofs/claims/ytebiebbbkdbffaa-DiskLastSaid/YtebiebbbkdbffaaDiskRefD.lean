/-
  The document's disk: New. Bytes made and turned to texts.
-/
import Derived.Test.YtebiebbbkdbffaaDiskRefC
import Derived.Laws.BytesArg
import Derived.Deep.RegionLaw
namespace Go.Proofs.Ytebiebbbkdbffaa.Disk
open Go Go.RowKit
open Go.Proofs.Ytebiebbbkdbffaa.Sha (wp_region_drawn_tail wp_region_kept_tail quiet_load_row)

abbrev u8T : TypeId := 5
def bytesC (l : List UInt8) : Array Value := (l.map fun b => Value.int .u8 b.toNat).toArray
theorem bytesC_size (l : List UInt8) : (bytesC l).size = l.length := by simp [bytesC]
theorem bytesC_get {l : List UInt8} {i : Nat} (h : i < l.length) : (bytesC l)[i]? = some (.int .u8 (l[i]).toNat) := by simp [bytesC, h]
theorem bytesC_set (l : List UInt8) (i : Nat) (b : UInt8) : (bytesC l).setIfInBounds i (.int .u8 b.toNat) = bytesC (l.set i b) := by
  apply Array.ext'
  unfold bytesC
  rw [Array.toList_setIfInBounds, List.map_set]
theorem infoU8 : (Try.prog.info? 5).map (fun i => (i.zero, i.size, i.bytes)) = some (some (.int .u8 0), 1, 1) := by kernel_rfl
theorem made_bytes (n : Nat) : madeCells (Value.int .u8 0).cells n = bytesC (List.replicate n 0) := by
  show madeCells #[.int .u8 0] n = _
  apply Array.ext_getElem?
  intro j
  by_cases hj : j < n
  · rw [bytesC_get (by simpa using hj), Array.getElem?_eq_getElem (by rw [size_madeCells]; exact hj)]
    unfold madeCells
    simp [Nat.mod_one]
  · rw [Array.getElem?_eq_none (by rw [size_madeCells]; omega), Array.getElem?_eq_none (by rw [bytesC_size, List.length_replicate]; omega)]
theorem make_bytes (n : Nat) (hn : n ≤ 100000) (W : World) : (Instr.makeSlice 57 (.int .i64 n) (.int .i64 n)).run Try.prog W = .ok (.slice (some ⟨W.heap.size, 0, none⟩) n n) (W.alloc (.cells (bytesC (List.replicate n 0)) u8T)) := by
  obtain ⟨i, hi, hz0, hz1, hz2⟩ := info_parts infoU8
  have h := run_make (P := Try.prog) W 57 u8T i (.int .u8 0) Try.underlying57 hi hz0 .i64 .i64 n n (by omega) (by omega) (by rw [hz2]; omega) (by omega)
  rw [h, hz1, Int.toNat_natCast, Nat.mul_one, made_bytes]
theorem nums_bytes (l : List UInt8) : strOfNums (l.map fun b => (b.toNat : Int)) = ⟨l.toArray⟩ := by
  unfold strOfNums
  have e : (l.map fun b : UInt8 => (b.toNat : Int)).map (fun n => UInt8.ofNat n.toNat) = l := by
    rw [List.map_map]
    have : ((fun n : Int => UInt8.ofNat n.toNat) ∘ fun b : UInt8 => (b.toNat : Int)) = id := by
      funext b
      simp
    rw [this, List.map_id]
  rw [e]
theorem conv_bytes (W : World) (b off cap : Nat) (l : List UInt8) (h : ∀ i (hi : i < l.length), W.cell? ⟨b, off + i, none⟩ = some (.int .u8 (l[i]).toNat)) :
    (convert 57 9 (.slice (some ⟨b, off, none⟩) l.length cap)).run Try.prog W = .ok (.string ⟨l.toArray⟩) W := by
  have e := run_convert_bytes_arg (P := Try.prog) W 57 u8T Try.underlying57 Try.underlying5 b off l.length cap (l.map fun b => (b.toNat : Int)) (by simp) (fun i hi => by
    rw [h i hi]
    simp [hi]) 9 Try.underlying9
  rw [e, nums_bytes]
theorem conv_zeros (n : Nat) (W : World) : (convert 57 9 (.slice (some ⟨W.heap.size, 0, none⟩) n n)).run Try.prog (W.alloc (.cells (bytesC (List.replicate n 0)) u8T)) = .ok (.string (zs n)) (W.alloc (.cells (bytesC (List.replicate n 0)) u8T)) := by
  have h := conv_bytes (W.alloc (.cells (bytesC (List.replicate n 0)) u8T)) W.heap.size 0 n (List.replicate n 0) (fun i hi => by
    rw [Nat.zero_add]
    exact ((Lies.new W _ _).cell i).trans (bytesC_get hi))
  rw [List.length_replicate] at h
  exact h
theorem append_str (w : World) (B g : Nat) (v : Value) (ws : List ByteArray) (x : ByteArray) (hg : Lies w g #[.string x] strT) (ho : w.ownsRow B strT 1 v ws.length (ws.map Value.string)) (hl : ws.length ≤ 2000000) (hB : B ≤ w.heap.size) :
    ∃ v' w', (Builtin.append_ #[30, 30] 30 #[v, .slice (some ⟨g, 0, none⟩) 1 1]).run Try.prog w = .ok v' w' ∧
      w'.ownsRow B strT 1 v' (ws.length + 1) ((ws ++ [x]).map Value.string) ∧ w.grownBy w' v.ownBlock ∧ (∀ k, v'.ownBlock = some k → v.ownBlock = some k ∨ w.heap.size ≤ k) := by
  obtain ⟨i, z, hi, hz1, hs, hb, hz2⟩ := info_of infoS
  obtain ⟨v', w', hr, h2, h3, _, h5⟩ := run_append_own_at (P := Try.prog) w B 30 30 strT i z 1 16 Try.underlying30 hi hz1 hs hb hz2 (by decide) v ws.length (ws.map Value.string) ho ⟨g, 0, none⟩ 1 1 [.string x] rfl (fun j u hu => by
    rw [addr_add, Nat.zero_add]
    exact (hg.cell j).trans (by simpa using hu)) (by intro u hu; obtain rfl := List.mem_singleton.1 hu; rfl) (by unfold maxLen; omega) (by omega) hB
  refine ⟨v', w', hr, by simpa using h2, h3, fun k hk => ?_⟩
  rcases h5 with e | e
  · rw [e] at hk; exact .inl hk
  · rw [e] at hk
    obtain rfl := Option.some.inj hk
    exact .inr (Nat.le_refl _)
abbrev qN (z : Nat) (lv : Value) : Array Value := #[.int .i64 z, lv, .slice none 0 0, .int .i64 0, .bool false, .bool false, .int .i64 0]
/-- So many sectors have been put. -/
structure NewAt (w : World) (z : Nat) (v : Value) (k : Nat) (wr : World) : Prop where
  self : Lies wr (w.heap.size + 1) (qN z v) qT
  res : Lies wr w.heap.size zQ qT
  owns : wr.ownsRow (w.heap.size + 2) strT 1 v k ((List.replicate k (zs z)).map Value.string)
  below : Below w.heap.size w wr
set_option maxRecDepth 100000 in
set_option maxHeartbeats 2000000 in
theorem newQ_any (w : World) (n z : Nat) (h2 : n ≤ 4096) (h4 : z ≤ 256) :
    Calls Try.prog 9 #[.int .i64 n, .int .i64 z] w fun e w' => ∃ lv cv, e = .returned (qV (newS n z) lv cv) ∧ IsQ w' w.heap.size lv cv (newS n z) ∧ Below w.heap.size w w' := by
  have hmk := make_bytes z (by omega)
  have hcv : ∀ W : World, (convert 57 9 (.slice (some ⟨W.heap.size, 0, none⟩) z z)).run Try.prog (W.alloc (.cells (bytesC (List.replicate z 0)) u8T)).drew = .ok (.string (zs z)) (W.alloc (.cells (bytesC (List.replicate z 0)) u8T)).drew := fun W => conv_zeros z W.drew
  have HN : Hid (NewAt w z (.slice none 0 0) 0 ((w.alloc (.cells zQ qT)).alloc (.cells (qN z (.slice none 0 0)) qT))) :=
    ⟨new_at (by simp), (Lies.new w _ _).same (Below.heap_alloc _ _ _ (by simp)), World.ownsRow_nil _ _ _ _, boxes _ _⟩
  go_enter Try.func9, Try.ntmps9
  go_wp2_with fail
  go_loopw [6] (fun i wr => ∃ (k : Nat) (a : Option Addr) (c : Nat), k ≤ n ∧ i = .int .i64 k ∧ NewAt w z (.slice a k c) k wr) (fun i _ => n - (intOf i).toNat)
  case atStart => exact ⟨0, none, 0, Nat.zero_le _, rfl, HN.out⟩
  case round =>
    obtain ⟨k, a, c, hk, rfl, hM⟩ := hrel
    have HM := Lib.hid hM
    clear hM
    by_cases hlt : k < n
    · have hlt0 := HM.out.self.lt
      have hle := HM.out.below.size
      have hk1 : wr.cell? ⟨w.heap.size + 1, 1, none⟩ = some (.slice a k c) := HM.out.self.cell 1
      have hk2 : ∀ o o', ((wr.alloc o).alloc o').cell? ⟨w.heap.size + 1, 1, none⟩ = some (.slice a k c) := fun o o' => (((HM.out.self.same (Below.heap_alloc _ o _ hlt0)).same (Below.heap_alloc _ o' _ (by simp; omega)))).cell 1
      have ho := ((HM.out.owns.alloc (.cells (bytesC (List.replicate z 0)) u8T)).alloc (.cells #[.string (zs z)] strT))
      have ho' : ((wr.alloc (.cells (bytesC (List.replicate z 0)) u8T)).alloc (.cells #[.string (zs z)] strT)).drew.ownsRow (w.heap.size + 2) strT 1 (.slice a k c) (List.replicate k (zs z)).length ((List.replicate k (zs z)).map Value.string) := by rw [List.length_replicate]; exact ho.drew
      have hL : Lies ((wr.alloc (.cells (bytesC (List.replicate z 0)) u8T)).alloc (.cells #[.string (zs z)] strT)).drew (wr.heap.size + 1) #[.string (zs z)] strT := new_drew (w := wr.alloc (.cells (bytesC (List.replicate z 0)) u8T)) (by simp)
      obtain ⟨v', w2, hr, ho2, hg2, hf2⟩ := append_str _ (w.heap.size + 2) (wr.heap.size + 1) _ (List.replicate k (zs z)) (zs z) hL ho' (by rw [List.length_replicate]; omega) (by simp; omega)
      obtain ⟨a', c', rfl⟩ := owns_slice ho2
      rw [List.length_replicate] at ho2 hr
      have HR := Lib.hid hr
      have hbw : Below (wr.heap.size) wr ((wr.alloc (.cells (bytesC (List.replicate z 0)) u8T)).alloc (.cells #[.string (zs z)] strT)).drew := (boxes _ _).drew
      have hF : Fr (fun j => (Value.slice a k c).ownBlock = some j) wr w2 := (Fr.of_below hbw).grown hg2 fun j hj _ => hj
      have hnb : ∀ j, (Value.slice a k c).ownBlock = some j → w.heap.size + 2 ≤ j := fun j hj => (HM.out.owns.lt j hj).1
      have L1 : Lies w2 (w.heap.size + 1) (qN z (.slice a k c)) qT := HM.out.self.same (hF.block _ hlt0 fun e => by have := hnb _ e; omega)
      have L0 : Lies w2 w.heap.size zQ qT := HM.out.res.same (hF.block _ HM.out.res.lt fun e => by have := hnb _ e; omega)
      have kc : w2.cell? ⟨w.heap.size + 1, 1, none⟩ = some (.slice a k c) := L1.cell 1
      have kf := L1.free 1
      have HZ : Hid (NewAt w z (.slice a' (k + 1) c') (k + 1) (w2.setCell ⟨w.heap.size + 1, 1, none⟩ (.slice a' (k + 1) c'))) := by
        refine ⟨L1.set 1 _, L0.other _ (by omega), ?_, (HM.out.below.trans (hF.below hle fun j hj => by have := hnb j hj; omega)).setCell (Nat.le_succ _) _⟩
        have := Fr.owns (F := fun j => j = w.heap.size + 1) ho2 (Fr.one w2 _ 1 (.slice a' (k + 1) c')) (fun j hj e => by have := (ho2.lt j hj).1; omega)
        rw [List.replicate_succ']
        exact this
      clear hr ho2 hg2 hf2 hL ho ho' hbw hF hnb L1 L0
      go_wp2_with fail
      go_region_law ((refine step_append_run (by rfl) _ _ _ (by rfl) _ _ _ (by rfl) (by rfl) HR.out ?_))
      all_goals
        go_wp2_with fail
        go_roundw
        case rel => exact ⟨k + 1, a', c', by omega, by simp, HZ.out⟩
        case measure => simp [intOf]; omega
    · obtain rfl : k = n := by omega
      have HO5 := Lib.hid (Fr.owns (F := fun j => j = w.heap.size) HM.out.owns (Fr.row _ _ (qN z (.slice a k c))) (fun j hj e => by have := (HM.out.owns.lt j hj).1; omega))
      have HB5 := Lib.hid (HM.out.below.trans ((Fr.row wr w.heap.size (qN z (.slice a k c))).below HM.out.below.size (fun j hj => by omega)))
      go_wp2_with (first
        | (refine wpList_load_row rfl 33 (.tmp 5) rfl (w.heap.size + 1) rfl qT (qN z (.slice a k c)) (0, 0) _ HM.out.self Try.underlying33 rfl sizeQ ?_)
        | (refine wpList_store_row rfl 33 (.tmp 4) (.tmp 22) rfl w.heap.size (qN z (.slice a k c)) rfl rfl qT _ HM.out.res sizeQ rfl (by simp [Value.oneCell']) ?_))
      refine bodyPost_ret (v := qV (newS k z) (.slice a k c) (.slice none 0 0)) (results_cell_row Try.results9 _ _ w.heap.size qT _ (0, 0) _ rfl (HM.out.res.setRow _) Try.underlying33 rfl sizeQ) rfl ⟨.slice a k c, .slice none 0 0, rfl, ⟨?_, World.ownsRow_nil _ _ _ _⟩, HB5.out⟩
      show World.ownsRow _ _ strT 1 _ (List.replicate k (zs z)).length _
      rw [List.length_replicate]
      exact owns_base HO5.out (by omega)
end Go.Proofs.Ytebiebbbkdbffaa.Disk
