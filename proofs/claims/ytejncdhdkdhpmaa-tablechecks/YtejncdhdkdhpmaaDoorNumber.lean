/- The contract of ascii.Number, at base 10 and at base 16. -/
import Derived.Test.YtejncdhdkdhpmaaDoorToken
namespace Go.Proofs.YtejncdhdkdhpmaaDoor
open Go.RowKit Pl

end Go.Proofs.YtejncdhdkdhpmaaDoor
