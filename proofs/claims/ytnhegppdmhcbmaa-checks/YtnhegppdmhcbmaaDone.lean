import Derived.Test.YtnhegppdmhcbmaaRows
import Derived.Test.YtnhegppdmhcbmaaLaw2
import Derived.Test.YtnhegppdmhcbmaaEq9
import Derived.Test.YtnhegppdmhcbmaaPar12
namespace Go.Proofs.Ytnhegppdmhcbmaa
open Go.RowKit

/-- The document's Parse answers what its plain functions say. -/
theorem Parse_said : ParseSaid := Parse_any
/-- P3: the program's Check answers as the document does, whatever the texts. -/
theorem Checks_true : Rows.ChecksSaid := Checks_holds Check_said Parse_said

end Go.Proofs.Ytnhegppdmhcbmaa
