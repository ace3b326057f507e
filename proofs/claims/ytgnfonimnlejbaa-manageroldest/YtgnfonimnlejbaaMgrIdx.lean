/-
  AN ARRAY OF THREADS, INDEXED.
-/
import Derived.Test.YtgnfonimnlejbaaMgrLaws
namespace Go.Proofs.Ytgnfonimnlejbaa
set_option linter.unusedVariables false
set_option linter.unusedSimpArgs false
open Go.RowKit

theorem tindex0 (v0 v1 v2 v3 v4 v5 v6 v7 v8 v9 v10 v11 v12 v13 v14 v15 v16 v17 v18 v19 : Value) (w : World) : (Instr.index 57 (.agg #[v0, v1, v2, v3, v4, v5, v6, v7, v8, v9, v10, v11, v12, v13, v14, v15, v16, v17, v18, v19]) (.int .i64 0)).run Try.prog w = .ok (.agg #[v0, v1, v2, v3, v4]) w := by
  simp only [Instr.index, Sem.run_bind, run_underlying Try.underlying57, Result.andThen_ok]
  go_simp

theorem tindex1 (v0 v1 v2 v3 v4 v5 v6 v7 v8 v9 v10 v11 v12 v13 v14 v15 v16 v17 v18 v19 : Value) (w : World) : (Instr.index 57 (.agg #[v0, v1, v2, v3, v4, v5, v6, v7, v8, v9, v10, v11, v12, v13, v14, v15, v16, v17, v18, v19]) (.int .i64 1)).run Try.prog w = .ok (.agg #[v5, v6, v7, v8, v9]) w := by
  simp only [Instr.index, Sem.run_bind, run_underlying Try.underlying57, Result.andThen_ok]
  go_simp

theorem tindex2 (v0 v1 v2 v3 v4 v5 v6 v7 v8 v9 v10 v11 v12 v13 v14 v15 v16 v17 v18 v19 : Value) (w : World) : (Instr.index 57 (.agg #[v0, v1, v2, v3, v4, v5, v6, v7, v8, v9, v10, v11, v12, v13, v14, v15, v16, v17, v18, v19]) (.int .i64 2)).run Try.prog w = .ok (.agg #[v10, v11, v12, v13, v14]) w := by
  simp only [Instr.index, Sem.run_bind, run_underlying Try.underlying57, Result.andThen_ok]
  go_simp

theorem tindex3 (v0 v1 v2 v3 v4 v5 v6 v7 v8 v9 v10 v11 v12 v13 v14 v15 v16 v17 v18 v19 : Value) (w : World) : (Instr.index 57 (.agg #[v0, v1, v2, v3, v4, v5, v6, v7, v8, v9, v10, v11, v12, v13, v14, v15, v16, v17, v18, v19]) (.int .i64 3)).run Try.prog w = .ok (.agg #[v15, v16, v17, v18, v19]) w := by
  simp only [Instr.index, Sem.run_bind, run_underlying Try.underlying57, Result.andThen_ok]
  go_simp

end Go.Proofs.Ytgnfonimnlejbaa
