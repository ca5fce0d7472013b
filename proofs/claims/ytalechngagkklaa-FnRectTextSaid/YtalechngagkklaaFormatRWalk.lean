/-
  The walk of the law on FormatRect.
-/
import Derived.Test.YtalechngagkklaaFormat
namespace Go.Proofs.Ytalechngagkklaa.fnExactFormatRect
open Go.RowKit Go.Proofs.Ytalechngagkklaa.Plain Go.Proofs.Ytalechngagkklaa.Pat Go.Proofs.Ytalechngagkklaa.Rect Go.Proofs.Ytalechngagkklaa.Format
set_option linter.unusedVariables false

end Go.Proofs.Ytalechngagkklaa.fnExactFormatRect
