/-
  Links: what happens (function 27), for every move.
-/
import Derived.Test.YtpempgajejbdoaaHpb
namespace Go.Proofs.Ytpempgajejbdoaa
open Go Go.RowKit
variable {F : Nat → Prop}
theorem hap_any (v : Value) (n : Nt) (m : Mv) (w : World) (h : NV F w v n) (hk : m.k < 256) (hi : m.i < 256) (ha : m.a < 256) (hb : m.b < 256) : Calls Try.prog 27 #[v, .agg #[.int .u8 m.k, .int .u8 m.i, .int .u8 m.a, .int .u8 m.b, byt m.d]] w (RetH F (hapN n m) (hapP n m) (hapE n m) w) := by
  have h6 : m.k % 6 = 0 ∨ m.k % 6 = 1 ∨ m.k % 6 = 2 ∨ m.k % 6 = 3 ∨ m.k % 6 = 4 ∨ m.k % 6 = 5 := by omega
  unfold hapN hapP hapE
  rcases h6 with h6 | h6 | h6 | h6 | h6 | h6
  all_goals rw [h6]
  · exact hap_send v n m w h hk hi ha hb h6
  · exact hap_deliver v n m w h hk hi ha hb h6
  · exact hap_lose v n m w h hk hi ha hb h6
  · exact hap_repeat v n m w h hk hi ha hb h6
  · exact hap_cut v n m w h hk hi ha hb h6
  · exact hap_mend v n m w h hk hi ha hb h6
end Go.Proofs.Ytpempgajejbdoaa
