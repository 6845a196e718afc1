/-
  Walks: Parse, Strict.
-/
import Derived.Test.YtklmhjoiffaniaaDoorAddrOf
namespace Go.Proofs.YtklmhjoiffaniaaDoor.Addr
open Go Go.RowKit
open Go.Proofs.YtklmhjoiffaniaaDoor.Lex
open Go.Proofs.YtklmhjoiffaniaaDoor.Glyph (fd foldL foldL_foldL fold_any)
open Go.Proofs.YtklmhjoiffaniaaDoor.Sha (Kept wp_region_kept wp_region_kept_tail quiet_load_row)

theorem foldX_any (s : ByteArray) (w : World) (hs : s.size ≤ 1000000) :
    Calls Tryd.prog 75 #[.string s] w fun e w' => e = .returned (.string (ba (foldL (bl s)))) ∧ Below w.heap.size w w' := fold_any s w hs
theorem scan_small {l : List UInt8} {T : List Tk} (h : scan l = (0, T)) (hl : l.length ≤ 5000) : T.length ≤ 10000 ∧ cost T ≤ 50000 := by
  have h1 := (scan_ok h).2
  have h2 := len_cost T
  omega
theorem parse_bad {l : List UInt8} (h : (scan l).1 ≠ 0) : parseL l = (noAd, 130) := by unfold parseL; rw [if_neg h]
theorem parse_good {l : List UInt8} {T : List Tk} (h : scan l = (0, T)) : parseL l = ofL T := by unfold parseL; rw [h]; rfl
theorem strict_bad {l : List UInt8} {c : Nat} (h : parseL l = (noAd, c)) (hc : c ≠ 0) : strictL l = (noAd, c) := by
  unfold strictL
  rw [h, if_neg hc]
theorem strict_good {l : List UInt8} {a : Ad} (h : parseL l = (a, 0)) : strictL l = if foldL l = keyL a then (a, 0) else (noAd, 130) := by
  unfold strictL
  rw [h, if_pos rfl]
theorem parse_way (l : List UInt8) : (∃ a, parseL l = (a, 0) ∧ Right a) ∨ ∃ c, c ≠ 0 ∧ parseL l = (noAd, c) := by
  rcases parse_cases l with h | h | h
  · exact .inl h
  · exact .inr ⟨130, by decide, h⟩
  · exact .inr ⟨2, by decide, h⟩
end Go.Proofs.YtklmhjoiffaniaaDoor.Addr
