/-
  Digest: two hashes that are known.
-/
import Derived.Test.YtekboemijafplaaDoorTree
namespace Go.Proofs.YtekboemijafplaaDoor
open Go Go.RowKit
set_option maxRecDepth 100000 in
theorem sha_abc : (sha [97, 98, 99]).take 4 = [186, 120, 22, 191] := by decide +kernel
set_option maxRecDepth 100000 in
theorem sha_nil : (sha []).take 4 = [227, 176, 196, 66] := by decide +kernel
end Go.Proofs.YtekboemijafplaaDoor
