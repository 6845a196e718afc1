/-
  Walks: To and Of of the laws, the chapter's example.
-/
import Derived.Test.YtjnadahognmkhaaDoorAddrParse
namespace Go.Proofs.YtjnadahognmkhaaDoor.Addr
open Go Go.RowKit
open Go.Proofs.YtjnadahognmkhaaDoor.Lex (bl ba bl_len ba_size bl_ba ba_bl Lies range_below ret_bool below_drewN)
open Go.Proofs.YtjnadahognmkhaaDoor.Glyph (fd foldL foldL_foldL fold_any)

set_option maxHeartbeats 1000000 in
theorem to_any (l d : ByteArray) (w : World) :
    Calls Tryd.prog 16 #[adB l d] w fun e w' => e = .returned (adB l d) ∧ Below w.heap.size w w' := by
  have hl : Lies ((w.alloc (boxA arT l d)).alloc (boxA adT l d)) (w.heap.size + 1) #[.string l, .string d] adT := by
    have := Lies.new (w.alloc (boxA arT l d)) #[.string l, .string d] adT
    have hz : (w.alloc (boxA arT l d)).heap.size = w.heap.size + 1 := by simp
    rwa [hz] at this
  have hb : Below w.heap.size w ((w.alloc (boxA arT l d)).alloc (boxA adT l d)) := ((Below.refl _ w).alloc (Nat.le_refl _) _).alloc (by simp) _
  go_enter Tryd.func16, Tryd.ntmps16
  go_wp2_with fail
  exact bodyPost_ret (v := adB l d) (results_cell_row Tryd.results16 _ _ (w.heap.size + 1) adT _ (0, 0) _ rfl hl Tryd.underlying24 rfl sizeA) rfl ⟨rfl, hb⟩
set_option maxHeartbeats 1000000 in
theorem ofA_any (l d : ByteArray) (w : World) :
    Calls Tryd.prog 13 #[adB l d] w fun e w' => e = .returned (adB l d) ∧ Below w.heap.size w w' := by
  have hl : Lies ((w.alloc (boxA adT l d)).alloc (boxA arT l d)) (w.heap.size + 1) #[.string l, .string d] arT := by
    have := Lies.new (w.alloc (boxA adT l d)) #[.string l, .string d] arT
    have hz : (w.alloc (boxA adT l d)).heap.size = w.heap.size + 1 := by simp
    rwa [hz] at this
  have hb : Below w.heap.size w ((w.alloc (boxA adT l d)).alloc (boxA arT l d)) := ((Below.refl _ w).alloc (Nat.le_refl _) _).alloc (by simp) _
  go_enter Tryd.func13, Tryd.ntmps13
  go_wp2_with fail
  exact bodyPost_ret (v := adB l d) (results_cell_row Tryd.results13 _ _ (w.heap.size + 1) arT _ (0, 0) _ rfl hl Tryd.underlying28 rfl sizeAR) rfl ⟨rfl, hb⟩

def exS : ByteArray := ⟨#[97, 46, 34, 98, 32, 99, 34, 64, 88, 46, 111, 114, 103]⟩
abbrev exL : ByteArray := ⟨#[97, 46, 98, 32, 99]⟩
abbrev exD : ByteArray := ⟨#[120, 46, 111, 114, 103]⟩
def exT : ByteArray := ⟨#[34, 97, 46, 98, 32, 99, 34, 64, 120, 46, 111, 114, 103]⟩
theorem exParse : parseL (bl exS) = (⟨bl exL, bl exD⟩, 0) := by kernel_rfl
theorem exText : ba (textL ⟨bl exL, bl exD⟩) = exT := by kernel_rfl
theorem exRight : rightB ⟨bl exL, bl exD⟩ = true := by kernel_rfl
def TrueP (w : World) (e : Ending) (w' : World) : Prop := e = .returned (.bool true) ∧ Below w.heap.size w w'
set_option maxRecDepth 100000 in
set_option maxHeartbeats 2000000 in
theorem works_any (w : World) : Calls Tryd.prog 8 #[] w (TrueP w) := by
  have HP : Hid (Calls Tryd.prog 9 #[.string exS] w fun e w' => e = .returned (.tuple #[adB exL exD, .int .i64 0]) ∧ Below w.heap.size w w') := Lib.hid (by
    have h := parse_any exS w (by decide)
    rw [exParse] at h
    exact h)
  have HT := Lib.hid (fun W => text_any exL exD W (by decide) (by decide))
  have HR := Lib.hid (fun W => right_any exL exD W (by decide) (by decide))
  rw [exText] at HT
  rw [exRight] at HR
  have hq : ∀ W, (binOp .eql adT (adB exL exD) (adB exL exD)).run Tryd.prog W = .ok (.bool true) W := fun W => by rw [eql_ad]; simp
  have ht : (exT.toList == [34, 97, 46, 98, 32, 99, 34, 64, 120, 46, 111, 114, 103]) = true := by rw [Lib.toList_data]; rfl
  have HN := Lib.hid (fun W : World => new_boxA W adT exL exD)
  go_enter Tryd.func8, Tryd.ntmps8
  go_wp2_with fail
  refine HP.out.mono ?_
  rintro e w1 ⟨rfl, hb⟩
  have HB1 := Lib.hid (hb.alloc hb.size (boxA adT exL exD))
  clear hb
  go_wp2_with fail
  refine (HT.out _).mono ?_
  rintro e w2 ⟨rfl, hb⟩
  have HB2 := Lib.hid (HB1.out.trans (hb.mono HB1.out.size))
  obtain ⟨a0, a1⟩ := twoA (range_below (HN.out w1) (by simp) hb)
  clear hb
  go_wp2_with fail
  refine (HR.out _).mono ?_
  rintro e w3 ⟨rfl, hb⟩
  have HB3 := Lib.hid (HB2.out.trans (hb.mono HB2.out.size))
  clear hb
  go_wp2_with fail
  go_ret
  exact ⟨rfl, HB3.out⟩
end Go.Proofs.YtjnadahognmkhaaDoor.Addr
