/-
  Links: what NetworkOnlySent's walk wants, of what happens as data.
-/
import Derived.Test.YtpempgajejbdoaaHpc
import Derived.Test.YtpempgajejbdoaaAll
namespace Go.Proofs.Ytpempgajejbdoaa
open Go Go.RowKit
/-- what holds of links whose packets have been sent -/
structure Snt (n : Nt) (sent : List Pk) (cuts : Int) : Prop where
  ok : okN n = true
  q : ∀ y ∈ n.q, y ∈ sent
  a : n.a ≠ [] → 0 < cuts
theorem snt_new : Snt zero [] 0 := ⟨by rfl, fun y hy => by simp [zero] at hy, fun h => absurd rfl h⟩
theorem okN_q2 {n : Nt} (h : okN n = true) : okQ n.q = true := by
  unfold okN at h
  rw [Bool.and_eq_true] at h
  exact h.1
theorem okQ_all2 {q : List Pk} (h : okQ q = true) : q.length ≤ 4096 ∧ ∀ x ∈ q, pkB x = true := by
  unfold okQ at h
  rw [Bool.and_eq_true, decide_eq_true_eq, List.all_eq_true] at h
  exact h
theorem okN_of {n : Nt} (h1 : n.q.length ≤ 4096) (h2 : ∀ x ∈ n.q, pkB x = true) (h3 : okA n.a = true) : okN n = true := by
  have h : okQ n.q = true := by
    unfold okQ
    rw [Bool.and_eq_true, decide_eq_true_eq, List.all_eq_true]
    exact ⟨h1, h2⟩
  unfold okN
  rw [h, h3]
  rfl
theorem add_of {n : Nt} {x : Pk} (h : addE n = 0) : addN n x = ⟨n.q ++ [x], n.a⟩ ∧ n.q.length ≠ 4096 := by
  unfold addE at h
  unfold addN
  by_cases hl : n.q.length = 4096
  · rw [if_pos hl] at h; omega
  · rw [if_neg hl]; exact ⟨rfl, hl⟩
theorem ok_add {n : Nt} {x : Pk} (h : okN n = true) (hl : n.q.length ≠ 4096) (hx : pkB x = true) : okN ⟨n.q ++ [x], n.a⟩ = true := by
  obtain ⟨h1, h2⟩ := okQ_all2 (okN_q2 h)
  refine okN_of (by simp; omega) (fun y hy => ?_) (okN_a (n := n) h)
  rcases List.mem_append.1 hy with k | k
  · exact h2 y k
  · simp at k; subst k; exact hx
theorem mem_wo {n : Nt} {k : Nat} {y : Pk} (h : y ∈ (wo n k).q) : y ∈ n.q := by
  unfold wo at h
  rcases List.mem_append.1 h with k1 | k1
  · exact List.mem_of_mem_take k1
  · exact List.mem_of_mem_drop k1
theorem snt_wo {n : Nt} {sent : List Pk} {cuts : Int} (h : Snt n sent cuts) (k : Nat) : Snt (wo n k) sent cuts := by
  obtain ⟨h1, h2⟩ := okQ_all2 (okN_q2 h.ok)
  refine ⟨okN_of (by unfold wo; simp; omega) (fun y hy => h2 y (mem_wo hy)) (okN_a (n := n) h.ok), fun y hy => h.q y (mem_wo hy), h.a⟩
/-- a send -/
theorem snt_send {n : Nt} {sent : List Pk} {cuts : Int} {x : Pk} (h : Snt n sent cuts) (hE : sendE n x = 0) : sendN n x = ⟨n.q ++ [x], n.a⟩ ∧ Snt ⟨n.q ++ [x], n.a⟩ (sent ++ [x]) cuts := by
  unfold sendE at hE
  by_cases hc : (okN n && pkB x) = true
  · rw [if_pos hc] at hE
    obtain ⟨h1, h2⟩ := add_of (x := x) hE
    have hx : pkB x = true := by rw [Bool.and_eq_true] at hc; exact hc.2
    refine ⟨by unfold sendN; rw [if_pos hc]; exact h1, ok_add h.ok h2 hx, fun y hy => ?_, h.a⟩
    rcases List.mem_append.1 hy with k | k
    · exact List.mem_append_left _ (h.q y k)
    · exact List.mem_append_right _ k
  · rw [if_neg hc] at hE; omega
theorem send_zero {n : Nt} {x : Pk} (hE : sendE n x ≠ 0) : sendN n x = zero := by
  unfold sendE addE at hE
  unfold sendN addN
  split at hE
  · split at hE
    · rename_i h1 h2; rw [if_pos h1, if_pos h2]
    · omega
  · rename_i h1; rw [if_neg h1]
/-- an inquiry that is answered -/
theorem ask_in {n : Nt} {a : Int} (h : askE n a = 0) : ∃ k : Nat, a = (k : Int) ∧ k < n.q.length := by
  rcases askE_cases n a with h1 | h1 | ⟨_, _, k, h1, h2⟩
  · omega
  · omega
  · exact ⟨k, h1, h2⟩
theorem snt_lose {n : Nt} {sent : List Pk} {cuts : Int} {a : Int} (h : Snt n sent cuts) (hE : askE n a = 0) : Snt (loseN n a) sent cuts := by
  unfold loseN
  rw [if_pos hE]
  exact snt_wo h _
theorem lose_zero {n : Nt} {a : Int} (hE : askE n a ≠ 0) : loseN n a = zero := by unfold loseN; rw [if_neg hE]
theorem pkAt_mem {n : Nt} {a : Int} (h : askE n a = 0) : pkAt n a ∈ n.q := by
  obtain ⟨k, rfl, hk⟩ := ask_in h
  unfold pkAt
  rw [Int.toNat_natCast, List.getElem?_eq_getElem hk]
  exact List.getElem_mem hk
theorem del_sent {n : Nt} {sent : List Pk} {cuts : Int} {a : Int} (h : Snt n sent cuts) (hE : askE n a = 0) : delP n a ∈ sent ∨ (delP n a = pk0 ∧ 0 < cuts) := by
  unfold delP
  rw [if_pos hE]
  cases hc : cutB n (pkAt n a).1 (pkAt n a).2.1
  · rw [if_neg (by simp)]; exact .inl (h.q _ (pkAt_mem hE))
  · rw [if_pos rfl]
    refine .inr ⟨rfl, h.a fun e => ?_⟩
    unfold cutB at hc
    rw [e] at hc
    simp at hc
theorem snt_rep {n : Nt} {sent : List Pk} {cuts : Int} {a : Int} (h : Snt n sent cuts) (hE : repE n a = 0) : Snt (repN n a) sent cuts := by
  unfold repE at hE
  unfold repN
  by_cases hA : askE n a = 0
  · rw [if_pos hA] at hE
    rw [if_pos hA]
    obtain ⟨h1, h2⟩ := add_of (x := pkAt n a) hE
    rw [h1]
    have hm := pkAt_mem hA
    refine ⟨ok_add h.ok h2 ((okQ_all2 (okN_q2 h.ok)).2 _ hm), fun y hy => ?_, h.a⟩
    rcases List.mem_append.1 hy with k | k
    · exact h.q y k
    · simp at k; subst k; exact h.q _ hm
  · rw [if_neg hA] at hE; omega
theorem rep_zero {n : Nt} {a : Int} (hE : repE n a ≠ 0) : repN n a = zero := by
  unfold repE addE at hE
  unfold repN addN
  split at hE
  · split at hE
    · rename_i h1 h2; rw [if_pos h1, if_pos h2]
    · omega
  · rename_i h1; rw [if_neg h1]
theorem cut_zero {n : Nt} {a b : Int} {on : Bool} (hE : cutE n a b ≠ 0) : cutN n a b on = zero := by
  unfold cutE at hE
  unfold cutN
  split at hE
  · split at hE
    · omega
    · rename_i h1 h2; rw [if_neg (fun h => h2 h.2)]
  · rename_i h1; rw [if_neg (fun h => h1 h.1)]
theorem cut_of {n : Nt} {a b : Int} {on : Bool} (hE : cutE n a b = 0) : okN n = true ∧ endsB a b = true ∧ cutN n a b on = ⟨n.q, cutL n.a (mkL a b) on⟩ := by
  unfold cutE at hE
  unfold cutN
  split at hE
  · split at hE
    · rename_i h1 h2; exact ⟨h1, h2, by rw [if_pos ⟨h1, h2⟩]⟩
    · omega
  · omega
theorem snt_cut {n : Nt} {sent : List Pk} {cuts : Int} {a b : Int} (h : Snt n sent cuts) (h0 : 0 ≤ cuts) (hE : cutE n a b = 0) : Snt (cutN n a b true) sent (cuts + 1) := by
  obtain ⟨h1, h2, h3⟩ := cut_of (on := true) hE
  obtain ⟨k1, k2⟩ := okQ_all2 (okN_q2 h1)
  rw [h3]
  exact ⟨okN_of k1 k2 (cutL_ok true (okN_a h1) (mk_ok h2)), h.q, fun _ => by omega⟩
theorem snt_mend {n : Nt} {sent : List Pk} {cuts : Int} {a b : Int} (h : Snt n sent cuts) (hE : cutE n a b = 0) : Snt (cutN n a b false) sent cuts := by
  obtain ⟨h1, h2, h3⟩ := cut_of (on := false) hE
  obtain ⟨k1, k2⟩ := okQ_all2 (okN_q2 h1)
  rw [h3]
  refine ⟨okN_of k1 k2 (cutL_ok false (okN_a h1) (mk_ok h2)), h.q, fun hne => h.a fun e => ?_⟩
  obtain ⟨z, hz⟩ := List.exists_mem_of_ne_nil _ hne
  have hz2 := mem_cutL.1 (show z ∈ cutL n.a (mkL a b) false from hz)
  unfold flag at hz2
  split at hz2
  · cases hz2
  · rw [e] at hz2; simp at hz2
/-- a move that fails leaves nothing -/
theorem hap_zero {n : Nt} {m : Mv} (hE : hapE n m ≠ 0) : hapN n m = zero := by
  unfold hapE at hE
  unfold hapN
  split at hE <;> rename_i hk <;> (try rw [hk])
  · exact send_zero hE
  · exact lose_zero hE
  · exact lose_zero hE
  · exact rep_zero hE
  · exact cut_zero hE
  · exact cut_zero hE
theorem hap_cases (m : Mv) : m.k % 6 = 0 ∨ m.k % 6 = 1 ∨ m.k % 6 = 2 ∨ m.k % 6 = 3 ∨ m.k % 6 = 4 ∨ m.k % 6 = 5 := by omega
/-- what a move that does not fail leaves -/
structure Hap (n : Nt) (sent : List Pk) (cuts : Int) (m : Mv) : Prop where
  send : m.k % 6 = 0 → ∃ x, hapN n m = ⟨n.q ++ [x], n.a⟩ ∧ Snt (hapN n m) (sent ++ [x]) cuts
  other : m.k % 6 ≠ 0 → m.k % 6 ≠ 4 → Snt (hapN n m) sent cuts
  cut : m.k % 6 = 4 → Snt (hapN n m) sent (cuts + 1)
  del : m.k % 6 = 1 → hapP n m ∈ sent ∨ (hapP n m = pk0 ∧ 0 < cuts)
theorem hap_of {n : Nt} {sent : List Pk} {cuts : Int} {m : Mv} (h : Snt n sent cuts) (h0 : 0 ≤ cuts) (hE : hapE n m = 0) : Hap n sent cuts m := by
  rcases hap_cases m with hk | hk | hk | hk | hk | hk
  · have e : hapE n m = sendE n (hapA m, hapB m, [m.d]) := by unfold hapE; rw [hk]; rfl
    have e2 : hapN n m = sendN n (hapA m, hapB m, [m.d]) := by unfold hapN; rw [hk]; rfl
    rw [e] at hE
    obtain ⟨h1, h2⟩ := snt_send h hE
    exact ⟨fun _ => ⟨_, by rw [e2]; exact h1, by rw [e2, h1]; exact h2⟩, fun h => absurd hk h, fun h => by omega, fun h => by omega⟩
  · have e : hapE n m = askE n (hapI n m) := by unfold hapE; rw [hk]; rfl
    have e2 : hapN n m = loseN n (hapI n m) := by unfold hapN; rw [hk]; rfl
    have e3 : hapP n m = delP n (hapI n m) := by unfold hapP; rw [hk]; rfl
    rw [e] at hE
    exact ⟨fun h => by omega, fun _ _ => by rw [e2]; exact snt_lose h hE, fun h => by omega, fun _ => by rw [e3]; exact del_sent h hE⟩
  · have e : hapE n m = askE n (hapI n m) := by unfold hapE; rw [hk]; rfl
    have e2 : hapN n m = loseN n (hapI n m) := by unfold hapN; rw [hk]; rfl
    rw [e] at hE
    exact ⟨fun h => by omega, fun _ _ => by rw [e2]; exact snt_lose h hE, fun h => by omega, fun h => by omega⟩
  · have e : hapE n m = repE n (hapI n m) := by unfold hapE; rw [hk]; rfl
    have e2 : hapN n m = repN n (hapI n m) := by unfold hapN; rw [hk]; rfl
    rw [e] at hE
    exact ⟨fun h => by omega, fun _ _ => by rw [e2]; exact snt_rep h hE, fun h => by omega, fun h => by omega⟩
  · have e : hapE n m = cutE n (hapA m) (hapB m) := by unfold hapE; rw [hk]; rfl
    have e2 : hapN n m = cutN n (hapA m) (hapB m) true := by unfold hapN; rw [hk]; rfl
    rw [e] at hE
    exact ⟨fun h => by omega, fun _ h => by omega, fun _ => by rw [e2]; exact snt_cut h h0 hE, fun h => by omega⟩
  · have e : hapE n m = cutE n (hapA m) (hapB m) := by unfold hapE; rw [hk]; rfl
    have e2 : hapN n m = cutN n (hapA m) (hapB m) false := by unfold hapN; rw [hk]; rfl
    rw [e] at hE
    exact ⟨fun h => by omega, fun _ _ => by rw [e2]; exact snt_mend h hE, fun h => by omega, fun h => by omega⟩
theorem below_alloc {w w1 : World} (h : Below w.heap.size w w1) (o : Obj) : Below w.heap.size w (w1.alloc o) := h.alloc h.size o
theorem below_set' {m k o : Nat} {w w' : World} {v : Value} (hk : m ≤ k) (h : Below m w w') : Below m w (w'.setCell ⟨k, o, none⟩ v) := below_set h hk v
theorem rowA (w : World) (o o' : Obj) : ((w.alloc o).alloc o').heap[w.heap.size]? = some o := (heap_alloc_old _ _ (by simp)).trans (heap_alloc_new w o)
theorem rowB' (w : World) (o o' : Obj) : ((w.alloc o).alloc o').heap[w.heap.size + 1]? = some o' := by
  have := heap_alloc_new (w.alloc o) o'
  rwa [World.size_alloc] at this
/-- the loop's links and list -/
structure B1 (w wr : World) (nb : Nat) (n : Nt) (sent : List Pk) (rv c0 c1 : Value) (xs : List Value) : Prop where
  row : wr.heap[nb]? = some (.cells #[c0, c1] 25 (0, 0))
  nv : NV (Ot nb rv) wr (.agg #[c0, c1]) n
  own : OwnN 3 wr rv sent.length xs
  cells : QCells (Ot nb rv) wr xs sent
  new : ∀ k, rv.ownBlock = some k → nb < k
  below : Below w.heap.size w wr
theorem B1.nb {w wr : World} {nb : Nat} {n : Nt} {sent : List Pk} {rv c0 c1 : Value} {xs : List Value} (h : B1 w wr nb n sent rv c0 c1 xs) : nb < wr.heap.size := by
  apply Classical.byContradiction
  intro hn
  have := h.row
  rw [Array.getElem?_eq_none (by omega)] at this
  cases this
theorem B1.later {w wr w1 : World} {nb : Nat} {n : Nt} {sent : List Pk} {rv c0 c1 : Value} {xs : List Value} (h : B1 w wr nb n sent rv c0 c1 xs) (hb : Below wr.heap.size wr w1) : B1 w w1 nb n sent rv c0 c1 xs :=
  ⟨(hb.block nb h.nb).trans h.row, h.nv.below hb, h.own.keep hb.size fun k hk => hb.block k (h.own.lt hk), h.cells.keep (.of_below hb), h.new, h.below.trans (hb.mono h.below.size)⟩
end Go.Proofs.Ytpempgajejbdoaa
