/-
  A region that draws its order, whose own operations only read, and whose callees may make memory but turn nothing that lay there: one walk, in the order of the text, serves every order.
-/
import Derived.Below
import Derived.Deep.QuietTactic
import Derived.BigQuiet
namespace Go.Proofs.Ytldadkpdmkghoaa
open Go.RowKit

/-- The worlds in which all that lay in w lies as it lay. -/
def Kept (w w' : World) : Prop := Below w.heap.size w w'
theorem Kept.on {w w' w2 : World} (h : Kept w w') (k : Below w'.heap.size w' w2) : Kept w w2 := Below.trans h (k.mono h.size)
theorem Kept.below {w w' : World} (h : Kept w w') : Below w.heap.size w w' := h

theorem wp_region_kept {P : Program} {id : Nat} {Q : Exit → Act → World → Prop} {a : Act} {w : World} {l : List Oper} (hm : P.follows .mixedOrders = true) (hB : Region.lexB .any l.toArray = true)
    (h : wpQuiet P l.toArray (Kept w) (fun a' => ∀ w', Kept w w' → Q .normal a' w') l a) : (Code.region id l.toArray true).wp P Q a w :=
  wp_region_quiet (C := Kept w) hm hB ⟨rfl, rfl, rfl, Nat.le_refl _, fun _ _ => rfl⟩ (by simpa using h)

/-- A callee's contract, met within the class. -/
theorem Kept.call {P : Program} {f : FuncId} {args : Array Value} {w w' : World} {v : Value} (k : Kept w w') (h : Calls P f args w' fun e w2 => e = .returned v ∧ Below w'.heap.size w' w2) :
    Calls P f args w' fun e w2 => e = .returned v ∧ Kept w w2 := h.mono fun _ _ ⟨he, hb⟩ => ⟨he, k.on hb⟩
theorem Kept.call_same {P : Program} {f : FuncId} {args : Array Value} {w w' : World} {v : Value} (k : Kept w w') (h : Calls P f args w' fun e w2 => e = .returned v ∧ w' = w2) :
    Calls P f args w' fun e w2 => e = .returned v ∧ Kept w w2 := h.mono fun _ _ ⟨he, hb⟩ => ⟨he, hb ▸ k⟩
end Go.Proofs.Ytldadkpdmkghoaa
