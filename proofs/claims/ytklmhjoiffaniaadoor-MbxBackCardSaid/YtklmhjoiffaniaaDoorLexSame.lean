/-
  Walks: alike and Same on one list of tokens; the chapter's example.
-/
import Derived.Test.YtklmhjoiffaniaaDoorLexPrint
namespace Go.Proofs.YtklmhjoiffaniaaDoor.Lex
open Go Go.RowKit

theorem below_drewN {B : Nat} {w w' : World} (h : Below B w w') (n : Nat) : Below B w (w'.drewN n) := ⟨h.os, h.tape, h.output, h.size, h.block⟩
theorem eqIn_tk (w : World) (d : Nat) (a : Tk) : (Op.equalIn (d + 2) tkT (tkV a) (tkV a)).run Tryd.prog w = .ok true w := by
  have e : (Op.equalIn (d + 1 + 1) tkT (tkV a) (tkV a)).run Tryd.prog w = _ := run_equalIn_struct w (d + 1) tkT _ _ (by unfold Program.fieldsOf; rw [Tryd.underlying76]) (by kernel_rfl)
  rw [e]
  unfold Program.fieldsOf
  rw [Tryd.underlying76]
  simp [Op.eqFields, go_sem]
theorem eql_tk (w : World) (a : Tk) : (binOp .eql tkT (tkV a) (tkV a)).run Tryd.prog w = .ok (.bool true) w := by
  simp only [binOp]
  simp [Op.equal, Op.maxDepth, eqIn_tk w 9998 a]
theorem beq_list (a : List UInt8) : (a == a) = true := beq_self_eq_true a
def TruePost (w : World) (e : Ending) (w' : World) : Prop := e = .returned (.bool true) ∧ Below w.heap.size w w'
/-! The chapter's example. -/
def exT : List Tk := [⟨1, ⟨#[97]⟩⟩, ⟨2, ⟨#[98, 32, 99]⟩⟩, ⟨3, ⟨#[64]⟩⟩, ⟨1, ⟨#[100]⟩⟩]
def exS : ByteArray := ⟨#[97, 32, 40, 120, 41, 32, 34, 98, 32, 99, 34, 64, 100]⟩
def exP : ByteArray := ⟨#[97, 32, 34, 98, 32, 99, 34, 64, 100]⟩
theorem exScan : scan (bl exS) = (0, exT) := by kernel_rfl
theorem exPrint : ba (printL exT) = exP := by kernel_rfl
end Go.Proofs.YtklmhjoiffaniaaDoor.Lex
