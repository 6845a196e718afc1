/-
  Operations of a region that draws its order, within a round of a range over a function: one at a time, met by the equation of their run or by a callee's contract.
-/
import Derived.Test.YtkbeppmjdjddhaaDoorProg
import Derived.WalkKit
import Derived.RangeFuncNested
import Derived.RangeFuncCalls
import Derived.OrdersIn
import Derived.RegionIn
namespace Go.Proofs.YtkbeppmjdjddhaaDoor.Batch
open Go Go.RowKit

section
variable {P : Program} {ops : Array Oper} {Q : Exit → Act → World → Prop} {l n : Nat} {o : Oper} {a : Act} {w w' : World} {K : Act → World → Prop} {v : Value} {E : Prop}
theorem opIn_value (hg : o.guard = none) (hd : ∀ c, o.op ≠ .defer c) (hr : (execOp a.eval o).run P w = .ok (.value v) w') (h : K (a.put o.dst v) w') :
    if Region.wanted o (yielded ops a.tmps) = true then Oper.wpIn (Fence.wide.inRound l) n P o a w K Q else E := by
  rw [if_pos (by simp [Region.wanted, hg])]
  refine ⟨fun _ _ => trivial, ?_⟩
  rw [Oper.semAt_eq _ _ _ hd, hr]
  exact h
theorem opIn_skip (hg : o.guard = none) (hd : ∀ c, o.op ≠ .defer c) (hr : (execOp a.eval o).run P w = .ok .skip w') (h : K (a.put o.dst undef) w') :
    if Region.wanted o (yielded ops a.tmps) = true then Oper.wpIn (Fence.wide.inRound l) n P o a w K Q else E := by
  rw [if_pos (by simp [Region.wanted, hg])]
  refine ⟨fun _ _ => trivial, ?_⟩
  rw [Oper.semAt_eq _ _ _ hd, hr]
  exact h
theorem opIn_call {f : FuncId} {args : Array Value} {R : World → Prop} (hg : o.guard = none) (hd : ∀ c, o.op ≠ .defer c) (hr : (execOp a.eval o).run P w = .ok (.enter f args) w') (hc : Calls P f args w' fun e w2 => e = .returned v ∧ R w2)
    (h : ∀ w2, R w2 → K (a.put o.dst v) w2) : if Region.wanted o (yielded ops a.tmps) = true then Oper.wpIn (Fence.wide.inRound l) n P o a w K Q else E := by
  rw [if_pos (by simp [Region.wanted, hg])]
  refine ⟨fun _ _ => trivial, ?_⟩
  rw [Oper.semAt_eq _ _ _ hd, hr]
  refine ⟨fun h => (by simp [Fence.wide] at h), ?_⟩
  refine (CallsIn.inRound l (callsIn_wide.2 hc)).mono ?_
  rintro e w2 ⟨rfl, h2⟩
  exact h w2 h2
theorem opIn_append {s x : Operand} {t t' : TypeId} {v1 v2 : Value} (hg : o.guard = none) (ho : o.op = .call { callee := .builtin .append, args := #[s, x], argTypes := #[t, t'] }) (h1 : a.eval s = v1) (h2 : a.eval x = v2) (hr : (Builtin.append_ #[t, t'] o.type #[v1, v2]).run P w = .ok v w')
    (h : K (a.put o.dst v) w') : if Region.wanted o (yielded ops a.tmps) = true then Oper.wpIn (Fence.wide.inRound l) n P o a w K Q else E := by
  refine opIn_value hg (fun c e => by rw [ho] at e; cases e) ?_ h
  simp [execOp, ho, resolve, invoke, builtin, h1, h2, hr, Result.andThen]
end
end Go.Proofs.YtkbeppmjdjddhaaDoor.Batch
