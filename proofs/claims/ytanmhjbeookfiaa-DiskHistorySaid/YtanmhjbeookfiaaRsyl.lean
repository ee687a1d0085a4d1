/-
  Disks: steps of the reference's Sync.
-/
import Derived.Test.YtanmhjbeookfiaaSyn
import Derived.Test.YtanmhjbeookfiaaRstp
import Derived.Test.YtanmhjbeookfiaaRnew
import Derived.Test.YtanmhjbeookfiaaRwy
import Derived.Deep.RegionHeld3
namespace Go.Proofs.Ytanmhjbeookfiaa
open Go Go.RowKit
/-- a list of sectors in a slice that the call owns -/
theorem os_of_own {w0 w : World} {g cap : Nat} {us : List Value} {s : List (List UInt8)} (h : OwnAt w g cap us) (hG : w0.heap.size ≤ g) (hb : Below w0.heap.size w0 w) (hus : ∀ (j : Nat) (l : List UInt8), s[j]? = some l → ∃ u, us[j]? = some u ∧ BV w0 u l) : OS w g s :=
  ⟨h.lt, h.free, fun j l hj => by
    obtain ⟨u, h1, h2⟩ := hus j l hj
    exact ⟨u, h.cells j u h1, (BVx.of_new h2 hG).below hb⟩⟩
theorem own_empty {W : World} {g : Nat} (h : W.heap[g]? = some (.cells #[] 35 (0, 0))) : Own W (.slice (some ⟨g, 0, none⟩) 0 0) [] := by
  refine .inr ⟨g, 0, rfl, ⟨by simp, by simp [maxLen], (Array.getElem?_eq_some_iff.1 h).1, fun j hj => by omega, fun j => by simp [World.frozen?, h], fun j u hu => by simp at hu⟩⟩
/-- what a row's place shows, behind an append elsewhere -/
theorem grown_row {w w' : World} {b k : Nat} {x : Option Obj} (hg : w.grownBy w' (some b)) (hk : k < w.heap.size) (hne : k ≠ b) (h : w.heap[k]? = x) : w'.heap[k]? = x := by
  obtain ⟨g1, g2, g3, g4, g5⟩ := hg
  exact (g5 k hk (by simpa using hne)).trans h
theorem own_none (W : World) (t : TypeId) : Own (W.alloc (.cells #[] t)) (.slice (some ⟨W.heap.size, 0, none⟩) 0 0) [] := by
  have h := Own.made W #[] t 0 (by simp) (by simp [maxLen])
  simpa using h
theorem grown_below {w w' : World} {b : Nat} (hg : w.grownBy w' (some b)) {m : Nat} {w0 : World} (h : Below m w0 w) (hm : m ≤ b) (hmw : m ≤ w.heap.size) : Below m w0 w' := by
  obtain ⟨g1, g2, g3, g4, g5⟩ := hg
  exact ⟨g1.trans h.os, g2.trans h.tape, g3.trans h.output, Nat.le_trans h.size g4, fun k hk => (g5 k (by omega) (by simp; omega)).trans (h.block k hk)⟩
theorem src_us {w w' : World} {b o N cs : Nat} {us : List Value} (hu : us.length = N) (hc : ∀ (j : Nat) (u : Value), us[j]? = some u → w.cell? ⟨b, o + j, none⟩ = some u) (h1 : ∀ u ∈ us, u.oneCell' = true) (hb : Below w.heap.size w w') (hlt : b < w.heap.size) : Src Try.prog 1 22 (.slice (some ⟨b, o, none⟩) N cs) N us w' :=
  Src.ofSlice w' Try.underlying22 ⟨b, o, none⟩ N cs us (by rw [hu, Nat.mul_one]) (fun j u hj => by rw [Addr.add_lit, bcells hb hlt]; exact hc j u hj) h1
theorem perfR_succ (d : D) (i : Nat) {n : Int} {l : List UInt8} (h : d.p[i]? = some (n, l)) : perfR d.s (d.p.take (i + 1)) = (perfR d.s (d.p.take i)).set n.toNat l := by
  obtain ⟨hlt, hx⟩ := List.getElem?_eq_some_iff.1 h
  unfold perfR
  rw [List.take_succ_eq_append_getElem hlt, List.foldl_append, hx]
  rfl
theorem BV.some_of {w : World} {p : Option Addr} {n c : Nat} {l : List UInt8} (h : BV w (.slice p n c) l) (hn : 0 < n) : ∃ b o, p = some ⟨b, o, none⟩ ∧ b < w.heap.size ∧ l.length = n ∧ n ≤ c ∧ c ≤ 9223372036854775807 := by
  obtain ⟨b, cap, p', e, h1, h2, h3, h4⟩ := h
  cases e
  unfold maxLen at h2
  rcases h4 with rfl | ⟨o, e, hlt, _⟩
  · simp at hn
  · exact ⟨b, o, e, hlt, rfl, h1, by omega⟩
theorem BV.first {w : World} {p : Option Addr} {n k m : Nat} {l : List UInt8} (h : BV w (.slice p n k) l) (hm : m ≤ l.length) : BV w (.slice p m k) (l.take m) := by
  obtain ⟨b, cap, p', e, h1, h2, h3, h4⟩ := h
  cases e
  have hl : (l.take m).length = m := by rw [List.length_take]; omega
  refine ⟨b, k, p, by rw [hl], by omega, h2, h3, ?_⟩
  rcases h4 with rfl | ⟨o, e, hlt, hc⟩
  · exact .inl (by simp)
  · refine .inr ⟨o, e, hlt, fun j c hj => hc j c ?_⟩
    rw [List.getElem?_take] at hj
    split at hj
    · exact hj
    · cases hj
theorem BV.last {w : World} {b o n k : Nat} {l : List UInt8} (m : Nat) (h : BV w (.slice (some ⟨b, o, none⟩) n k) l) (hm : m ≤ n) : BV w (.slice (some ⟨b, o + m, none⟩) (n - m) (k - m)) (l.drop m) := by
  obtain ⟨b', cap, p', e, h1, h2, h3, h4⟩ := h
  cases e
  refine ⟨b', k - m, _, by rw [List.length_drop], by rw [List.length_drop]; omega, by omega, (fun e => by cases e), ?_⟩
  rcases h4 with rfl | ⟨o', e, hlt, hc⟩
  · exact .inl (by simp)
  · cases e
    refine .inr ⟨o + m, rfl, hlt, fun j c hj => ?_⟩
    rw [List.getElem?_drop] at hj
    rw [Nat.add_assoc]
    exact hc _ c hj
theorem bvx_of_own {w : World} {v : Value} {l : List UInt8} {m G : Nat} (h : Own w v (l.map byt)) (hob : ∀ j, v.ownBlock = some j → m ≤ j) (hG : G < m) : BVx G w v l := by
  rcases h with ⟨rfl, hx⟩ | ⟨g, cap, rfl, h⟩
  · obtain rfl := List.map_eq_nil_iff.1 hx
    exact ⟨G + 1, 0, none, rfl, Nat.le_refl _, by unfold maxLen; omega, fun _ => rfl, by omega, .inl rfl⟩
  · have h1 := h.le
    have h2 := h.mx
    unfold maxLen at h2
    have hg := hob g rfl
    rw [List.length_map] at h1 ⊢
    refine ⟨g, cap, _, rfl, h1, by unfold maxLen; omega, (fun e => by cases e), by omega, .inr ⟨0, rfl, h.lt, fun j c hj => ?_⟩⟩
    rw [Nat.zero_add]
    exact h.cells j _ (by rw [List.getElem?_map, hj]; rfl)
theorem own_one {w : World} {v : Value} {xs : List Value} (h : Own w v xs) : v.oneCell' = true := by
  rcases h with ⟨rfl, _⟩ | ⟨g, cap, rfl, _⟩
  · rfl
  · rfl
section
variable {o : Oper} {a : Act} {w : World} {K : Act → World → Prop} {Q : Exit → Act → World → Prop}
theorem take_at {P : Program} {ops : Array Oper} {md : Region.Mode} {S : World → Prop} {i k : Nat} {oi : Oper} {v : Value} {fuel : Nat} {listed : Array Bool} (hi : ops[i]? = some oi) (hd : oi.dst = some k)
    (hs : Region.noSelect ops = true) (hf : Region.free md ops listed i = true) (hr : (Region.ready md ops listed).contains i = true)
    (hQ : ∀ c a w, Q (.panic c) (a.put oi.dst v) w → Q (.panic c) a w) (hy : YieldsIf P ops S oi v a) (hS : S w)
    (h : wpAnyH P md ops Q S fuel (listed.setIfInBounds i true) (a.put (some k) v) w) : wpAnyH P md ops Q S (fuel + 1) listed a w :=
  wpAnyH_take hi hs hf hr hQ hy hS (by rw [hd]; exact h)
theorem wp_al25 {k : Nat} (hd' : o.dst = some k) (ho : o.op = .alloc 25) (h : ∀ (U : World) (xb : Nat), Below w.heap.size w U → w.heap.size ≤ xb → xb < U.heap.size → Hid (U.heap[xb]? = some (.cells #[.slice none 0 0, .slice none 0 0, .int .i64 0, .bool false] 25 (0, 0))) → K (a.put (some k) (.pointer (some ⟨xb, 0, none⟩))) U) :
    Oper.wp Try.prog o a w K Q := by
  have h1 := h (w.alloc (.cells #[.slice none 0 0, .slice none 0 0, .int .i64 0, .bool false] 25)) w.heap.size (one_new _ _) (Nat.le_refl _) (by simp) (Lib.hid (heap_alloc_new _ _))
  unfold Oper.wp execOp
  simp only [ho]
  go_simp
  exact h1
theorem wp_bs22 {k : Nat} (hd' : o.dst = some k) (ho : o.op = .buildSlice 22 0 #[]) (h : ∀ (U : World) (g : Nat), Below w.heap.size w U → w.heap.size ≤ g → g < U.heap.size → Hid (U.heap[g]? = some (.cells #[] 35 (0, 0))) → K (a.put (some k) (.slice (some ⟨g, 0, none⟩) 0 0)) U) :
    Oper.wp Try.prog o a w K Q := by
  have h1 := h (w.alloc (.cells #[] 35)) w.heap.size (one_new _ _) (Nat.le_refl _) (by simp) (Lib.hid (heap_alloc_new _ _))
  unfold Oper.wp execOp
  simp only [ho]
  go_simp
  exact h1
theorem wp_st25 (x y : Operand) (hd' : o.dst = none) (ho : o.op = .store 25 x y) (g : Nat) (old : Array Value) (c0 c1 c2 c3 : Value)
    (hp : a.eval x = .pointer (some ⟨g, 0, none⟩)) (hv : a.eval y = .agg #[c0, c1, c2, c3]) (hl : w.heap[g]? = some (.cells old 25 (0, 0))) (hold : old.size = 4) (h1 : c0.oneCell' = true ∧ c1.oneCell' = true ∧ c2.oneCell' = true ∧ c3.oneCell' = true)
    (h : ∀ w2 : World, Hid (w2.heap[g]? = some (.cells #[c0, c1, c2, c3] 25 (0, 0))) → Chg g w w2 → K a w2) : Oper.wp Try.prog o a w K Q := by
  refine wp_store_row 25 x y ho g _ hp hv 25 old hl (by rw [info25]; rfl) (by rw [hold]; rfl) (by simp [h1]) ?_
  rw [hd']
  exact h _ (Lib.hid (setRow_heap _ _ _ _ _ _ hl)) (chg_row _ _ _)
/-- the headers of sectors are appended to an empty list -/
theorem wp_hdrs {k : Nat} (hd' : o.dst = some k) (s x : Operand) (ho : o.op = .call { callee := .builtin .append, args := #[s, x], argTypes := #[22, 22] })
    (g : Nat) (xv : Value) (hg : w.heap[g]? = some (.cells #[] 35 (0, 0))) (hs : a.eval s = .slice (some ⟨g, 0, none⟩) 0 0) (hx : a.eval x = xv) (us : List Value) (N : Nat) (hu : us.length = N) (h1 : 1 ≤ N) (hN : N ≤ 4096) (hsrc : Src Try.prog 1 22 xv N us w)
    (h : ∀ (w' : World) (G cap : Nat), N ≤ cap → cap ≤ 9223372036854775807 → (G = g ∨ w.heap.size ≤ G) → OwnAt w' G cap us → w.grownBy w' (some g) → K (a.put (some k) (.slice (some ⟨G, 0, none⟩) N cap)) w') : Oper.wp Try.prog o a w K Q := by
  obtain ⟨i0, hi0, hz0, hsz0, hby0⟩ := inf35
  refine wp_own s x 22 22 ho 35 i0 _ 24 Try.underlying22 hi0 hz0 hsz0 hby0 (by rfl) _ xv [] hs (own_empty hg) N us hx hsrc (by unfold maxLen; simp; omega) (by simp; omega) ?_
  intro v' w' hown hgrow hblk
  rw [List.nil_append] at hown
  rcases hown with ⟨_, he⟩ | ⟨G, cap, rfl, hO⟩
  · rw [he] at hu; simp at hu; omega
  · have hm := hO.mx
    unfold maxLen at hm
    rw [hd', hu]
    refine h w' G cap (by rw [← hu]; exact hO.le) (by omega) ?_ hO hgrow
    rcases hblk with hb | ⟨k', hb, hk'⟩
    · left; simpa [Value.ownBlock] using hb
    · right
      obtain rfl : G = k' := by simpa [Value.ownBlock] using hb
      exact hk'
theorem wp_bs35 {k : Nat} (hd' : o.dst = some k) (ho : o.op = .buildSlice 35 0 #[]) (h : ∀ (U : World) (g : Nat), Below w.heap.size w U → w.heap.size ≤ g → Own U (.slice (some ⟨g, 0, none⟩) 0 0) (([] : List UInt8).map byt) → K (a.put (some k) (.slice (some ⟨g, 0, none⟩) 0 0)) U) :
    Oper.wp Try.prog o a w K Q := by
  have h1 := h (w.alloc (.cells #[] 5)) w.heap.size (one_new _ _) (Nat.le_refl _) (Own.made w #[] 5 0 (by simp) (by simp))
  unfold Oper.wp execOp
  simp only [ho]
  go_simp
  exact h1
theorem wp_bytes {k : Nat} (hd' : o.dst = some k) (s x : Operand) (ho : o.op = .call { callee := .builtin .append, args := #[s, x], argTypes := #[35, 35] })
    (v xv : Value) (l l' : List UInt8) (hs : a.eval s = v) (hown : Own w v (l.map byt)) (hx : a.eval x = xv) (hb : BV w xv l') (hl : l.length + l'.length ≤ 1099511627776)
    (h : ∀ v' w', Hid (Own w' v' ((l ++ l').map byt)) → w.grownBy w' v.ownBlock → (v'.ownBlock = v.ownBlock ∨ ∃ k, v'.ownBlock = some k ∧ w.heap.size ≤ k) → K (a.put (some k) v') w') : Oper.wp Try.prog o a w K Q := by
  have h5 := info5
  cases hi : Try.prog.info? 5 with
  | none => rw [hi] at h5; cases h5
  | some i =>
    rw [hi] at h5
    simp only [Option.map_some, Option.some.injEq, Prod.mk.injEq] at h5
    obtain ⟨s1, s2, s3⟩ := h5
    refine wp_own s x 35 35 ho 5 i (.int .u8 0) 1 Try.underlying35 hi s3 s1 s2 rfl v xv (l.map byt) hs hown l'.length (l'.map byt) hx (bv_src hb) (by rw [List.length_map]; unfold maxLen; omega) (by rw [List.length_map]; omega) ?_
    intro v' w' h1 h2 h3
    rw [hd']
    exact h v' w' (Lib.hid (by rw [List.map_append]; exact h1)) h2 h3
theorem wp_st1 (x y : Operand) (hd' : o.dst = none) (ho : o.op = .store 35 x y) (G j : Nat) (u v : Value) (hx : a.eval x = .pointer (some ⟨G, j, none⟩)) (hy : a.eval y = v) (hc : w.cell? ⟨G, j, none⟩ = some u) (hf : w.frozen? ⟨G, j, none⟩ = false) (hp : ∃ p n c, v = .slice p n c)
    (h : K a (w.setCell ⟨G, j, none⟩ v)) : Oper.wp Try.prog o a w K Q := by
  obtain ⟨p, n, c, rfl⟩ := hp
  unfold Oper.wp execOp
  simp only [ho, hx, hy]
  go_simp
  exact h
end
theorem own_shp3 {w : World} {v : Value} {xs : List Value} (h : Own w v xs) : ∃ p n c, v = .slice p n c := by
  obtain ⟨p, c, e⟩ := own_shp h
  exact ⟨p, _, c, e⟩
end Go.Proofs.Ytanmhjbeookfiaa
