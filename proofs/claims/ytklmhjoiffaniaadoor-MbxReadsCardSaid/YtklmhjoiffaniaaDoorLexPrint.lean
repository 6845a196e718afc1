/-
  Walk of Print.
-/
import Derived.Test.YtklmhjoiffaniaaDoorLexQuote
namespace Go.Proofs.YtklmhjoiffaniaaDoor.Lex
open Go Go.RowKit

/-- The kind of the token ahead of a place. -/
def prevK (l : List Tk) (k : Nat) : Int := if k = 0 then 3 else ((l[k - 1]?).map Tk.kind).getD 3
/-- What is printed up to a place. -/
def PAt (l : List Tk) (k : Nat) (acc : List UInt8) : Prop := acc ++ printP (prevK l k) (l.drop k) = printL l
theorem PAt.next {l : List Tk} {k : Nat} {acc : List UInt8} {e : Tk} (h : PAt l k acc) (he : l[k]? = some e) {g q : List UInt8} (hg : gap (prevK l k) e.kind = g) (hq : tokL e = q) : PAt l (k + 1) (acc ++ g ++ q) := by
  unfold PAt at *
  have hd : l.drop k = e :: l.drop (k + 1) := by
    obtain ⟨h1, h2⟩ := List.getElem?_eq_some_iff.1 he
    rw [List.drop_eq_getElem_cons h1, h2]
  have hp : prevK l (k + 1) = e.kind := by
    unfold prevK
    rw [if_neg (by omega), Nat.add_sub_cancel, he]
    rfl
  rw [hp, ← h, hd]
  show acc ++ g ++ q ++ _ = acc ++ (gap (prevK l k) e.kind ++ (tokL e ++ printP e.kind (l.drop (k + 1))))
  rw [hg, hq]
  simp
theorem costT {l : List Tk} {k : Nat} {e : Tk} (he : l[k]? = some e) : cost (l.take (k + 1)) = cost (l.take k) + (e.text.size + 1) := by
  rw [List.take_add_one, he]
  exact cost_snoc _ _
theorem costT_le (l : List Tk) (k : Nat) : cost (l.take k) ≤ cost l := by
  unfold cost
  conv => rhs; rw [← List.take_append_drop k l]
  rw [List.map_append, List.sum_append]
  omega
/-- A builder, and a box for the token at hand. -/
def PBox (w W : World) (g : Nat) (acc : List UInt8) (e : Tk) : Prop := BuiltAt w W acc ∧ Lies W g #[.int .i64 e.kind, .string e.text] tkT ∧ w.heap.size ≤ g
theorem PBox.new {w wr : World} {acc : List UInt8} (h : BuiltAt w wr acc) (e : Tk) : PBox w (wr.alloc (.cells #[.int .i64 e.kind, .string e.text] tkT)) wr.heap.size acc e :=
  ⟨h.kept ((Below.refl _ wr).alloc (Nat.le_refl _) _), Lies.new wr _ _, h.2.size⟩
theorem prevK_succ {l : List Tk} {j : Nat} {e : Tk} (h : l[j]? = some e) : prevK l (j + 1) = e.kind := by
  unfold prevK
  rw [if_neg (by omega), Nat.add_sub_cancel, h]
  rfl
theorem box_rest {b g : Nat} {w w' : World} {k : Int} {t : ByteArray} (h : Lies w g #[.int .i64 k, .string t] tkT) (hr : Rest b w w') (hb : g ≠ b) : Lies w' g #[.int .i64 k, .string t] tkT :=
  hr g _ h (fun e => hb (Option.some.inj e)) (fun c fz e => by
    obtain ⟨_, h2, _⟩ := Obj.cells.inj e
    exact absurd h2 (by decide))
end Go.Proofs.YtklmhjoiffaniaaDoor.Lex
