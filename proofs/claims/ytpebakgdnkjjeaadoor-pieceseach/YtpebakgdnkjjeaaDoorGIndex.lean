/- Index, Has. -/
import Derived.Test.YtpebakgdnkjjeaaDoorMath
namespace Go.Proofs.YtpebakgdnkjjeaaDoor
open Go.RowKit

end Go.Proofs.YtpebakgdnkjjeaaDoor
