/-
  Package rollup's laws: buckets that are the same; the example.
-/
import Derived.Test.YtjjmidooikgaaaaYgat
import Derived.Laws.EntriesVeiled
import Derived.Deep.QuietTactic
namespace Go.Proofs.Ytjjmidooikgaaaa.Ru
open Go Go.RowKit Go.Proofs.Lys Go.Shelf
set_option linter.unusedVariables false
set_option linter.unusedSimpArgs false

theorem neq_bk (a b c d e f : Int) (w : World) : (binOp .neq 62 (.agg #[.int .i64 a, .int .i64 b, .int .i64 c, .int .i64 d, .int .i64 e, .int .i64 f]) (.agg #[.int .i64 a, .int .i64 b, .int .i64 c, .int .i64 d, .int .i64 e, .int .i64 f])).run Try.prog w = .ok (.bool false) w := by
  go_simp
theorem only_cell {w w' : World} {O : Nat → Prop} (k : Only O w w') {b i : Nat} {v : Value} (hb : ¬ O b) (h : w.cell? ⟨b, i, none⟩ = some v) : w'.cell? ⟨b, i, none⟩ = some v := by
  rw [World.cell?_of_block (w := w) (w' := w') (a := ⟨b, i, none⟩) (k.block b (World.block_lt_of_cell? w _ h) hb)]
  exact h
end Go.Proofs.Ytjjmidooikgaaaa.Ru
