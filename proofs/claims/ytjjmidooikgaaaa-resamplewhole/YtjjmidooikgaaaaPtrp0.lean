/-
  Package resample: the document's own Points, its refusals.
-/
import Derived.Test.YtjjmidooikgaaaaPtref
namespace Go.Proofs.Ytjjmidooikgaaaa.Rs
open Go Go.RowKit Go.Proofs.Lys
open Ru (In64 one okT T0 Rising infoI6)
set_option linter.unusedVariables false
set_option linter.unusedSimpArgs false

set_option maxRecDepth 100000 in
set_option maxHeartbeats 1600000 in
theorem rpts_bad1 (w : World) (v : Value) (f s n : Int) (R : Ending → World → Prop) (HF : Hid (R (.returned (.tuple #[.slice none 0 0, .int .i64 0, .int .i64 1])) w)) (h1 : s < 1) :
    Calls Try.prog 9 #[v, .int .i64 f, .int .i64 s, .int .i64 n] w R := by
  go_enter Try.func9, Try.ntmps9
  go_wp2_with fail
  (try simp only [Exit.inBlock, Exit.then])
  refine bodyPost_ret (results_tmp3 rfl _ _ _) rfl ?_
  exact HF.out
set_option maxRecDepth 100000 in
set_option maxHeartbeats 1600000 in
theorem rpts_bad2 (w : World) (v : Value) (f s n : Int) (R : Ending → World → Prop) (HF : Hid (R (.returned (.tuple #[.slice none 0 0, .int .i64 0, .int .i64 1])) w)) (h1 : 9007199254740992 < s) (g1 : ¬ s < 1) :
    Calls Try.prog 9 #[v, .int .i64 f, .int .i64 s, .int .i64 n] w R := by
  go_enter Try.func9, Try.ntmps9
  go_wp2_with fail
  (try simp only [Exit.inBlock, Exit.then])
  refine bodyPost_ret (results_tmp3 rfl _ _ _) rfl ?_
  exact HF.out
set_option maxRecDepth 100000 in
set_option maxHeartbeats 1600000 in
theorem rpts_bad3 (w : World) (v : Value) (f s n : Int) (R : Ending → World → Prop) (HF : Hid (R (.returned (.tuple #[.slice none 0 0, .int .i64 0, .int .i64 1])) w)) (h1 : n < 0) (g1 : ¬ s < 1) (g2 : ¬ 9007199254740992 < s) :
    Calls Try.prog 9 #[v, .int .i64 f, .int .i64 s, .int .i64 n] w R := by
  go_enter Try.func9, Try.ntmps9
  go_wp2_with fail
  (try simp only [Exit.inBlock, Exit.then])
  refine bodyPost_ret (results_tmp3 rfl _ _ _) rfl ?_
  exact HF.out
set_option maxRecDepth 100000 in
set_option maxHeartbeats 1600000 in
theorem rpts_bad4 (w : World) (v : Value) (f s n : Int) (R : Ending → World → Prop) (HF : Hid (R (.returned (.tuple #[.slice none 0 0, .int .i64 0, .int .i64 1])) w)) (h1 : 10000 < n) (g1 : ¬ s < 1) (g2 : ¬ 9007199254740992 < s) (g3 : ¬ n < 0) :
    Calls Try.prog 9 #[v, .int .i64 f, .int .i64 s, .int .i64 n] w R := by
  go_enter Try.func9, Try.ntmps9
  go_wp2_with fail
  (try simp only [Exit.inBlock, Exit.then])
  refine bodyPost_ret (results_tmp3 rfl _ _ _) rfl ?_
  exact HF.out
set_option maxRecDepth 100000 in
set_option maxHeartbeats 1600000 in
theorem rpts_bad5 (w : World) (v : Value) (f s n : Int) (R : Ending → World → Prop) (HF : Hid (R (.returned (.tuple #[.slice none 0 0, .int .i64 0, .int .i64 1])) w)) (h1 : f < -9007199254740992) (g1 : ¬ s < 1) (g2 : ¬ 9007199254740992 < s) (g3 : ¬ n < 0) (g4 : ¬ 10000 < n) :
    Calls Try.prog 9 #[v, .int .i64 f, .int .i64 s, .int .i64 n] w R := by
  go_enter Try.func9, Try.ntmps9
  go_wp2_with fail
  (try simp only [Exit.inBlock, Exit.then])
  refine bodyPost_ret (results_tmp3 rfl _ _ _) rfl ?_
  exact HF.out
set_option maxRecDepth 100000 in
set_option maxHeartbeats 1600000 in
theorem rpts_bad6 (w : World) (v : Value) (f s n : Int) (R : Ending → World → Prop) (HF : Hid (R (.returned (.tuple #[.slice none 0 0, .int .i64 0, .int .i64 1])) w)) (h1 : 9007199254740992 < f) (g1 : ¬ s < 1) (g2 : ¬ 9007199254740992 < s) (g3 : ¬ n < 0) (g4 : ¬ 10000 < n) (g5 : ¬ f < -9007199254740992) :
    Calls Try.prog 9 #[v, .int .i64 f, .int .i64 s, .int .i64 n] w R := by
  go_enter Try.func9, Try.ntmps9
  go_wp2_with fail
  (try simp only [Exit.inBlock, Exit.then])
  refine bodyPost_ret (results_tmp3 rfl _ _ _) rfl ?_
  exact HF.out
theorem rpts_bad (w : World) (v : Value) (f s n : Int) (R : Ending → World → Prop) (HF : Hid (R (.returned (.tuple #[.slice none 0 0, .int .i64 0, .int .i64 1])) w)) (hb : n < 0 ∨ 10000 < n ∨ f < -9007199254740992 ∨ 9007199254740992 < f ∨ s < 1 ∨ 9007199254740992 < s) :
    Calls Try.prog 9 #[v, .int .i64 f, .int .i64 s, .int .i64 n] w R := by
  by_cases h1 : s < 1
  · exact rpts_bad1 w v f s n R HF h1
  by_cases h2 : 9007199254740992 < s
  · exact rpts_bad2 w v f s n R HF h2 h1
  by_cases h3 : n < 0
  · exact rpts_bad3 w v f s n R HF h3 h1 h2
  by_cases h4 : 10000 < n
  · exact rpts_bad4 w v f s n R HF h4 h1 h2 h3
  by_cases h5 : f < -9007199254740992
  · exact rpts_bad5 w v f s n R HF h5 h1 h2 h3 h4
  · exact rpts_bad6 w v f s n R HF (by omega) h1 h2 h3 h4 h5
end Go.Proofs.Ytjjmidooikgaaaa.Rs
