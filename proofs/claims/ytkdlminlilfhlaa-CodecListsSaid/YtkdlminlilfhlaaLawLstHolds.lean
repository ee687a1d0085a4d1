/- For all values the encoding of their list ends with their encodings, one after the other: the law CodecLists returns true for every input that can be read, and leaves it as it was. -/
import Derived.Test.YtkdlminlilfhlaaRows
import Derived.Test.YtkdlminlilfhlaaLawLst
import Derived.Test.YtkdlminlilfhlaaOpen
import Derived.Test.YtkdlminlilfhlaaSane
import Derived.ProofKit
namespace Go.Proofs.Ytkdlminlilfhlaa
open Go.ChangeShapes Go.WideShapes Go.ChangeAt Go.RowKit
theorem Try.own : ownKnob Try.prog.godebug = none := by kernel_rfl
theorem Try.laidOut : laidOutB Try.prog = true := by kernel_rfl
set_option maxRecDepth 100000 in
theorem codecLists_lifted (os : Os) (started : os.Started) (H : Type) (enc : TypeId × Value → H) :
    ReturnsInHanded {} Try.checked os 8 .any (Rows.codecListsSpec.pre6 enc Try.prog Try.f8 Rows.codecListsRow.domain false) (Rows.codecListsSpec.post enc Try.prog Try.f8 false true false false) := by
  refine returnsInHanded_of_change (C := Try.checked) Try.own started (by kernel_rfl) Try.func8
    (ChangeSpec.witness6 (enc := enc) (C := Try.checked) false ⟨#[], #[.slice none 0 0], []⟩ 8 (by kernel_rfl) (by kernel_rfl) (by kernel_rfl) (by kernel_rfl)) ?_
  intro W base args ds gs before hval0 hW hcnd _
  have hval : ∀ (j : Nat) t v, Try.f8.params[j]? = some t → args[j]? = some v → Value.okWide Try.prog W .any base t v := hval0
  have hW' := hW
  obtain ⟨p, q, hA0, hV, rfl, hfz, hnd⟩ := hW
  have hA : DataW.TrodAll enc Try.prog W 0 (fun _ => true) true Try.f8.params.toList args.toList ds p := hA0
  rw [Try.params8] at hA hval
  obtain ⟨v0, d0, rfl, rfl, h0⟩ := trodAll_one hA
  obtain ⟨rfl, rfl⟩ := trodVars_none hV
  obtain ⟨q, hSl⟩ : ∃ q, Sl W v0 q := by
    obtain ⟨a, len, cap, ev⟩ := okWide_slice Try.underlying22 (hval 0 22 v0 rfl rfl)
    subst ev
    obtain ⟨fuel, hf⟩ := h0
    exact sl_of_trod fuel _ _ hf
  have hlt0 : ∀ x ∈ p, x.block < W.heap.size := fun x hx => by simpa using hW'.lt x (by simp [hx])
  clear hA0 hval0
  simp only [List.append_nil] at hW'
  have hc : Calls Try.prog 8 #[v0] W (Ret (.bool true) W) := by
    have hSl' := hSl
    rcases hSl with ⟨p', c, rfl, rfl⟩ | ⟨b, o, cap, rfl, e1, e2, e3, e4⟩
    · exact lists_at .nil p' c 0 W rfl hSl' (by omega) (.inl rfl) sane_any
    · exact lists_at q _ cap q.len W rfl hSl' (by unfold maxLen at e2; omega) (.inr ⟨b, o, rfl, e3, e4⟩) sane_any
  refine hc.mono fun e W' ⟨he, hb⟩ => ?_
  subst he
  refine ⟨_, rfl, ⟨[d0], [], p, [], p, [], hW', ?_, ?_, rfl, hb.frame _, fun h => by cases h⟩⟩
  · exact trodAll_mk1 (shut_bool Try.underlying4 true)
  · exact trodAll_mk1 (Below.trod Try.laidOut (by kernel_rfl) (of_decide_eq_true (by kernel_rfl)) h0 hb hlt0)
theorem codecLists_holds : Rows.CodecListsSaid :=
  OpenClaim.holds_of_wide 8 Try.f8 rfl rfl rfl rfl rfl rfl rfl ⟨rfl, rfl, rfl, rfl, rfl⟩ rfl rfl rfl rfl rfl (by kernel_rfl) Try.func8 (by kernel_rfl)
    (of_decide_eq_true (by kernel_rfl)) (by unfold Func.isWrapper; rw [if_neg (of_decide_eq_false (by kernel_rfl))]; exact ⟨rfl, rfl⟩)
    (fun os started H enc _ => codecLists_lifted os started H enc)
end Go.Proofs.Ytkdlminlilfhlaa
