/-
  What CodecLists needs: lists of few values, and of zeros.
-/
import Derived.Test.YtaahmfmelmjahaaLawEnc
import Derived.Test.YtaahmfmelmjahaaLawNum
import Derived.Test.YtaahmfmelmjahaaOwnN
namespace Go.Proofs.Ytaahmfmelmjahaa
open Go Go.RowKit
theorem few_all : ∀ {q : F}, F.few q → q.All fun _ _ s a => FewV s a
  | .nil, _ => trivial
  | .cons _ _ _ _ _, h => ⟨h.1, few_all h.2⟩
theorem few_sz : ∀ {q : F}, F.few q → F.sz q ≤ 82211 * q.len
  | .nil, _ => Nat.zero_le _
  | .cons k n s a r, h => by
    have h1 := few_sz h.2
    have h2 := h.1.size
    have h3 := h.1.sz
    have h4 := nlen_le (hdv k n s.size a.len)
    simp only [F.sz, F.len]
    omega
theorem few_dep : ∀ {q : F}, F.few q → F.dep q ≤ 21
  | .nil, _ => Nat.zero_le _
  | .cons k n s a r, h => by
    have h1 := few_dep h.2
    have h2 := h.1.dep
    simp only [F.dep, depv]
    split <;> omega
theorem chk_elems : ∀ {q : F}, F.wf q = true → F.dep q ≤ 15 → q.All fun k n s a => chkv k n s a = 0
  | .nil, _, _ => trivial
  | .cons k n s a r, h, hd => by
    simp only [F.wf, Bool.and_eq_true] at h
    simp only [F.dep] at hd
    refine ⟨?_, chk_elems h.2 (by omega)⟩
    show chkv k n s a = 0
    unfold chkv
    rw [if_pos h.1, if_neg (by omega)]
theorem chk_list {q : F} (h : chkv 3 0 bnil q = 0) : q.All fun k n s a => chkv k n s a = 0 := by
  have hw := chk_wf h
  have hq : F.wf q = true := by
    rcases wfv_kind hw with h1 | h1 | h1
    · omega
    · omega
    · exact h1.2.2.2
  refine chk_elems hq ?_
  unfold chkv at h
  rw [if_pos hw] at h
  split at h
  · cases h
  · rename_i h2
    simp only [depv] at h2
    simp at h2
    omega
theorem all_and {p r : Int → Int → ByteArray → F → Prop} : ∀ {q : F}, q.All p → q.All r → q.All fun k n s a => p k n s a ∧ r k n s a
  | .nil, _, _ => trivial
  | .cons _ _ _ _ _, h, h' => ⟨⟨h.1, h'.1⟩, all_and h.2 h'.2⟩
theorem all_imp {C : Prop} {p : Int → Int → ByteArray → F → Prop} {q : F} (h : C → q.All p) : q.All fun k n s a => C → p k n s a := by
  by_cases c : C
  · have := h c
    clear h
    induction q with
    | nil => trivial
    | cons k n s a r _ ih => exact ⟨fun _ => this.1, ih this.2⟩
  · exact F.all_of (fun _ _ _ _ _ hc => absurd hc c) q
theorem chk_wf_list {q : F} (h : F.wf q = true) : chkv 3 0 bnil q = 0 ∨ chkv 3 0 bnil q = 2 := by
  unfold chkv
  rw [if_pos (by simp [wfv, h])]
  split
  · exact .inr rfl
  · exact .inl rfl
/-- so many zeros -/
def zF : Nat → F
  | 0 => .nil
  | j + 1 => .cons 1 0 bnil .nil (zF j)
def z4 : List Value := [.int .i64 1, .int .i64 0, .string bnil, .slice none 0 0]
def zc : Nat → List Value
  | 0 => []
  | j + 1 => z4 ++ zc j
theorem zc_snoc : ∀ j, zc j ++ z4 = zc (j + 1)
  | 0 => by simp [zc]
  | j + 1 => by
    have := zc_snoc j
    rw [show zc (j + 1) = z4 ++ zc j from rfl, List.append_assoc, this]
    rfl
theorem zF_len : ∀ j, (zF j).len = j
  | 0 => rfl
  | j + 1 => by simp [zF, F.len, zF_len j]
theorem zF_wf : ∀ j, F.wf (zF j) = true
  | 0 => rfl
  | j + 1 => by simp [zF, F.wf, zF_wf j, wfv, F.len]
theorem zF_dep : ∀ j, F.dep (zF j) = 0
  | 0 => rfl
  | j + 1 => by simp [zF, F.dep, zF_dep j, depv]
theorem zF_sz : ∀ j, F.sz (zF j) = 2 * j
  | 0 => rfl
  | j + 1 => by
    have h1 : nlen (hdv 1 0 bnil.size F.nil.len) = 1 := by simp [hdv, uns, nlen, num, numF]
    simp only [zF, F.sz, zF_sz j, h1]
    simp
    omega
theorem zF_lies {w : World} {g : Nat} : ∀ (j o : Nat), (∀ (i : Nat) (u : Value), (zc j)[i]? = some u → w.cell? ⟨g, o + i, none⟩ = some u) → Lies w (zF j) g o
  | 0, _, _ => by unfold zF Lies; trivial
  | j + 1, o, h => by
    unfold zF Lies
    refine ⟨⟨.slice none 0 0, h 0 _ rfl, h 1 _ rfl, h 2 _ rfl, h 3 _ rfl, ok_int (by unfold W64; omega), .inl ⟨none, 0, rfl, rfl⟩⟩, ?_⟩
    refine zF_lies j (o + 4) fun i u hu => ?_
    rw [show o + 4 + i = o + (i + 4) from by omega]
    exact h (i + 4) u (by
      show (z4 ++ zc j)[i + 4]? = some u
      rw [List.getElem?_append_right (by simp [z4])]
      simpa [z4] using hu)
theorem zF_sl {w : World} {v : Value} {j : Nat} (h : OwnN 4 w v j (zc j)) : Sl w v (zF j) := by
  rcases h with ⟨rfl, rfl, _⟩ | ⟨g, cap, rfl, h⟩
  · exact .inl ⟨none, 0, rfl, rfl⟩
  · exact .inr ⟨g, 0, cap, by rw [zF_len], by rw [zF_len]; exact h.le, h.mx, h.lt, zF_lies j 0 fun i u hu => by rw [Nat.zero_add]; exact h.cells i u hu⟩
theorem list_any (p : Option Addr) (n c : Nat) (w : World) : Calls Try.prog 22 #[.slice p n c] w (Ret (val 3 0 bnil (.slice p n c)) w) := by
  go_enter Try.func22, Try.ntmps22
  go_wp2_with fail
  exact bodyPost_ret (v := val 3 0 bnil (.slice p n c)) (results_cell_row rfl _ _ w.heap.size 24 _ (0, 0) _ rfl (heap_alloc_new _ _) Try.underlying24 rfl (by kernel_rfl)) rfl ⟨rfl, one_new _ _⟩
theorem Try.info24 : (Try.prog.info? 24).map (fun i => (i.zero, i.size, i.bytes)) = some (some (.agg #[.int .i64 0, .int .i64 0, .string ByteArray.empty, .slice none 0 0]), 4, 56) := by kernel_rfl
theorem src_four {w : World} {g : Nat} (h : w.heap[g]? = some (.cells #[.int .i64 1, .int .i64 0, .string bnil, .slice none 0 0] 24)) : Src Try.prog 4 22 (.slice (some ⟨g, 0, none⟩) 1 1) 1 z4 w :=
  Src.ofSlice w Try.underlying22 ⟨g, 0, none⟩ 1 1 z4 rfl (fun j u hj => by
    rw [Addr.add_lit, Nat.zero_add]
    simp only [World.cell?, h]
    simpa [z4] using hj) (fun u hu => by
    simp only [z4, List.mem_cons, List.not_mem_nil, or_false] at hu
    rcases hu with rfl | rfl | rfl | rfl <;> rfl)
end Go.Proofs.Ytaahmfmelmjahaa
