/- atom.TakeText. -/
import Derived.Test.YtfgecjljnaimoaaTake2
namespace Go.Proofs.Ytfgecjljnaimoaa
open Go.RowKit

end Go.Proofs.Ytfgecjljnaimoaa
