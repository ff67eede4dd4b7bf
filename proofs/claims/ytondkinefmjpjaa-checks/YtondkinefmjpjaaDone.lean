import Derived.Test.YtondkinefmjpjaaRows
import Derived.Test.YtondkinefmjpjaaLaw2
import Derived.Test.YtondkinefmjpjaaEq9
import Derived.Test.YtondkinefmjpjaaPar12
namespace Go.Proofs.Ytondkinefmjpjaa
open Go.RowKit

/-- The document's Parse answers what its plain functions say. -/
theorem Parse_said : ParseSaid := Parse_any
/-- P3: the program's Check answers as the document does, whatever the texts. -/
theorem Checks_true : Rows.ChecksSaid := Checks_holds Check_said Parse_said

end Go.Proofs.Ytondkinefmjpjaa
