import Derived.Test.YtnigbjjllolgdaaSpE
/-
  DelaysOf of the model.
-/
set_option linter.unusedVariables false
set_option linter.unusedSimpArgs false
namespace Go.Proofs.Ytnigbjjllolgdaa
open Go.RowKit Flt Fast
attribute [local go_sem] run_fadd run_fsub run_fmul run_fquo run_cadd run_csub

end Go.Proofs.Ytnigbjjllolgdaa
