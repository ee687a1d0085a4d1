/-
  Disks: current.
-/
import Derived.Test.YtanmhjbeookfiaaBack
import Derived.Test.YtanmhjbeookfiaaRrd
namespace Go.Proofs.Ytanmhjbeookfiaa
open Go Go.RowKit Go.Shelf
attribute [local go_sem] Oper.semAt_some
theorem back_stops (F : Fence) (n : Nat) (h41 : F.fn 41) (hro : F.round = none) (hn : 1 ≤ n) (Bs n₀ M cp : Nat) (pp : Option Addr) (T : Nat → WH) (hp1 : M ≤ cp) (hp2 : cp ≤ 9223372036854775807) (w : World) (hBs : Bs < n₀) (hn₀ : n₀ ≤ w.heap.size)
    (hb : w.cell? ⟨Bs, 0, none⟩ = some (.slice pp M cp)) (hc : ∀ j, j < M → ∃ b o, pp = some ⟨b, o, none⟩ ∧ b < n₀ ∧ w.cell? ⟨b, o + j * 2, none⟩ = some (.int .i64 (T j).n) ∧ w.cell? ⟨b, o + j * 2 + 1, none⟩ = some (.slice (T j).p (T j).L (T j).c)) :
    SeqStopsK F n Try.prog 41 #[.pointer (some ⟨Bs, 0, none⟩)] (fun x : Nat => #[Value.int .i64 (x : Int), (T x).val]) (Below n₀) (fun ys => ys = uptoB M M)
      (fun pre => ∃ k, k ≤ M ∧ pre = uptoB M k) M w := fun l J Jx W hW _ _ hY h0 => by
  refine back1_in F n h41 hro hn l Bs n₀ M cp pp T hp1 hp2 J Jx hY W ((hW.cell (p := ⟨Bs, 0, none⟩) (Nat.lt_of_lt_of_le hBs hn₀)).trans hb) hBs (fun j hj => ?_) h0
  obtain ⟨b, o, e, h1, h2, h3⟩ := hc j hj
  exact ⟨b, o, e, h1, (hW.cell (p := ⟨b, o + j * 2, none⟩) (Nat.lt_of_lt_of_le h1 hn₀)).trans h2, (hW.cell (p := ⟨b, o + j * 2 + 1, none⟩) (Nat.lt_of_lt_of_le h1 hn₀)).trans h3⟩
set_option maxHeartbeats 1000000 in
theorem back_in (F : Fence) (n : Nat) (h40 : F.fn 40) (hro : F.round = none) (a : Option Addr) (len cap : Nat) (w : World) :
    CallsIn F n Try.prog 40 #[.slice a len cap] w fun e w' => e = .returned (.func (.func 41) #[] #[.pointer (some ⟨w.heap.size, 0, none⟩)]) ∧ w' = w.alloc (.cells #[.slice a len cap] 23) := by
  refine callsIn_of_wp Try.func40 rfl h40 ?_ hro
  simp only [Try.ntmps40, List.size_toArray, List.length_cons, List.length_nil, Nat.reduceAdd, Nat.reduceSub, Array.replicate_succ, Array.replicate_zero, List.push_toArray, List.append_toArray, List.nil_append, List.cons_append]
  gi_wp2
  go_ret
  exact ⟨rfl, rfl⟩
/-- the last write of a place -/
theorem cur_last (d : D) (a j : Nat) (l : List UInt8) (hj : d.p[j]? = some ((a : Int), l)) (M : Nat) (hM : M ≤ d.p.length) (hjM : j < M) (hno : ∀ k n l, j < k → k < M → d.p[k]? = some (n, l) → n ≠ (a : Int)) : cur d a M = l := by
  induction M with
  | zero => omega
  | succ M ih =>
    by_cases e : M = j
    · subst e
      rw [cur_succ d a M hj, if_pos rfl]
    · obtain ⟨⟨n, l'⟩, h⟩ : ∃ x, d.p[M]'(by omega) = x := ⟨_, rfl⟩
      have h' : d.p[M]? = some (n, l') := by rw [List.getElem?_eq_getElem (by omega), h]
      rw [cur_succ d a M h', if_neg (hno M n l' (by omega) (by omega) h')]
      exact ih (by omega) (by omega) (fun k n l h1 h2 => hno k n l h1 (by omega))
theorem cur_none (d : D) (a : Nat) (M : Nat) (hM : M ≤ d.p.length) (hno : ∀ (k : Nat) (n : Int) (l : List UInt8), k < M → d.p[k]? = some (n, l) → n ≠ (a : Int)) : cur d a M = d.s.getD a [] := by
  induction M with
  | zero => rfl
  | succ M ih =>
    obtain ⟨⟨n, l'⟩, h⟩ : ∃ x, d.p[M]'(by omega) = x := ⟨_, rfl⟩
    have h' : d.p[M]? = some (n, l') := by rw [List.getElem?_eq_getElem (by omega), h]
    rw [cur_succ d a M h', if_neg (hno M n l' (by omega) h')]
    exact ih (by omega) (fun k n l h1 => hno k n l (by omega))
theorem Op.heads {w : World} {d : D} {ps pp : Option Addr} {N cs M cp : Nat} (h : Op w d ps N cs pp M cp) : ∃ T : Nat → WH, ∀ j, j < M → (∃ b o, pp = some ⟨b, o, none⟩ ∧ b < w.heap.size ∧ w.cell? ⟨b, o + j * 2, none⟩ = some (.int .i64 (T j).n) ∧ w.cell? ⟨b, o + j * 2 + 1, none⟩ = some (.slice (T j).p (T j).L (T j).c)) ∧
    ∃ l, d.p[j]? = some ((T j).n, l) ∧ BV w (.slice (T j).p (T j).L (T j).c) l := by
  refine Classical.axiomOfChoice (r := fun (j : Nat) (t : WH) => j < M → (∃ b o, pp = some ⟨b, o, none⟩ ∧ b < w.heap.size ∧ w.cell? ⟨b, o + j * 2, none⟩ = some (.int .i64 t.n) ∧ w.cell? ⟨b, o + j * 2 + 1, none⟩ = some (.slice t.p t.L t.c)) ∧
    ∃ l, d.p[j]? = some (t.n, l) ∧ BV w (.slice t.p t.L t.c) l) (fun j => ?_)
  by_cases hj : j < M
  · obtain ⟨b, o, n, pu, L, cu, l, e, h1, h2, h3, h4, _⟩ := h.penAt j hj
    exact ⟨⟨n, pu, L, cu⟩, fun _ => ⟨⟨b, o, e, h1, h2, h3⟩, l, h4.out.1, h4.out.2.2⟩⟩
  · exact ⟨⟨0, none, 0, 0⟩, fun h => absurd h hj⟩
theorem cur_world (w : World) (c0 c1 c2 c3 a r s : Value) (A B C D : TypeId) : ∃ W0, (((w.alloc (.cells #[c0, c1, c2, c3] A)).alloc (.cells #[a] B)).alloc (.cells #[r] C)).alloc (.cells #[s] D) = W0 ∧ W0.heap.size = w.heap.size + 4 ∧ Below w.heap.size w W0 ∧
    W0.cell? ⟨w.heap.size, 0, none⟩ = some c0 ∧ W0.cell? ⟨w.heap.size + 1, 0, none⟩ = some a ∧ W0.cell? ⟨w.heap.size + 1 + 1, 0, none⟩ = some r ∧ W0.cell? ⟨w.heap.size + 1 + 1 + 1, 0, none⟩ = some s ∧ W0.frozen? ⟨w.heap.size + 1 + 1, 0, none⟩ = false := by
  refine ⟨_, rfl, by simp, ((((Below.refl _ w).alloc (Nat.le_refl _) _).alloc (by simp) _).alloc (by simp; omega) _).alloc (by simp; omega) _, ?_, ?_, ?_, ?_, ?_⟩
  all_goals go_simp
theorem mem_uptoB {M k i : Nat} (h : M - 1 - k < i) (hi : i < M) : i ∈ uptoB M k := by
  unfold uptoB
  exact List.mem_map.2 ⟨M - 1 - i, List.mem_range.2 (by omega), by omega⟩
theorem mem_uptoB_all {M i : Nat} (hi : i < M) : i ∈ uptoB M M := by
  unfold uptoB
  exact List.mem_map.2 ⟨M - 1 - i, List.mem_range.2 (by omega), by omega⟩
/-- it returns a slice of these bytes -/
def RetV1 (l : List UInt8) (w : World) (e : Ending) (w' : World) : Prop := ∃ v, e = .returned v ∧ BV w' v l ∧ Below w.heap.size w w'
set_option maxRecDepth 100000 in
set_option maxHeartbeats 2000000 in
theorem current_any (w : World) (d : D) (ps pp : Option Addr) (N cs M cp : Nat) (a : Int) (HO : Op w d ps N cs pp M cp) (hs1 : N ≤ cs) (hs2 : cs ≤ 9223372036854775807) (hp1 : M ≤ cp) (hp2 : cp ≤ 9223372036854775807) (ha0 : 0 ≤ a) (haN : a < N) :
    Calls Try.prog 35 #[dval d ps N cs pp M cp, .int .i64 a] w (RetV1 (cur d a.toNat d.p.length) w) := by
  obtain ⟨T, hT⟩ := HO.heads
  refine (callsIn_wide (n := 3)).1 ?_
  refine callsIn_of_wp_marks Try.func35 rfl trivial ?_ rfl
  simp only [Try.ntmps35, List.size_toArray, List.length_cons, List.length_nil, Nat.reduceAdd, Nat.reduceSub, Array.replicate_succ, Array.replicate_zero, List.push_toArray, List.append_toArray, List.nil_append, List.cons_append]
  gi_wp2_with (refine ⟨trivial, ?_⟩; gi_at_call 40; refine (back_in _ _ trivial rfl _ _ _ _).mono ?_; rintro e w' ⟨rfl, rfl⟩)
  obtain ⟨W0, hW0, hsz, hB0, k0, k1, k2, k3, f2⟩ := cur_world w (.slice ps N cs) (.slice pp M cp) (.int .i64 d.left) (.bool d.st) (.int .i64 a) (.slice none 0 0) (.slice pp M cp) 25 3 35 23
  rw [hW0]
  have HO0 := HO.below hB0
  have HO' := Lib.hid HO
  have hT' := Lib.hid hT
  have hc0 : ∀ j, j < M → ∃ b o, pp = some ⟨b, o, none⟩ ∧ b < W0.heap.size ∧ W0.cell? ⟨b, o + j * 2, none⟩ = some (.int .i64 (T j).n) ∧ W0.cell? ⟨b, o + j * 2 + 1, none⟩ = some (.slice (T j).p (T j).L (T j).c) := fun j hj => by
    obtain ⟨⟨b, o, e, h1, h2, h3⟩, _⟩ := hT j hj
    exact ⟨b, o, e, by omega, (hB0.cell (p := ⟨b, o + j * 2, none⟩) h1).trans h2, (hB0.cell (p := ⟨b, o + j * 2 + 1, none⟩) h1).trans h3⟩
  clear hT HO
  refine wpIn_rangeFunc_ownH (w := W0) rfl (by omega) (gf := 41) (lb := #[.pointer (some ⟨w.heap.size + 1 + 1 + 1, 0, none⟩)]) rfl trivial (enters_of Try.func41 (by kernel_rfl) rfl)
    (back_stops Fence.wide 2 trivial rfl (by omega) (w.heap.size + 1 + 1 + 1) W0.heap.size M cp pp T hp1 hp2 W0 (by omega) (Nat.le_refl _) k3 hc0) belowK_t (belowK_b (Nat.le_refl _)) (Below.refl _ _) (fun _ => rfl)
    (fun pre W => (∀ j ∈ pre, (T j).n ≠ a) ∧ Below W0.heap.size W0 W)
    (fun c pre W => (c = .ret ∧ ∃ ini last, pre = ini ++ [last] ∧ (∀ j ∈ ini, (T j).n ≠ a) ∧ (T last).n = a ∧ W.cell? ⟨w.heap.size + 1 + 1, 0, none⟩ = some (.slice (T last).p (T last).L (T last).c)) ∧ Below w.heap.size w W)
    (OwnFrom.and (ownFrom_pure _ _) (ownFrom_below (Nat.le_refl _) (Nat.le_refl _)))
    (fun c => OwnFrom.and (Own.from (fun s A B row hs hg hr => by obtain ⟨hc, ini, last, e1, e2, e3, e4⟩ := hs; exact ⟨hc, ini, last, e1, e2, e3, cell_kept e4 hg hr⟩) _) (ownFrom_below (Nat.le_refl _) (by omega)))
    ⟨by simp, Below.refl _ _⟩
    (fun x a' W => ∃ Bx, W0.heap.size ≤ Bx ∧ W.cell? ⟨Bx, 0, none⟩ = some (.int .i64 (T x).n) ∧ W.cell? ⟨Bx, 1, none⟩ = some (.slice (T x).p (T x).L (T x).c) ∧ a' = { tmps := #[dval d ps N cs pp M cp, .int .i64 a, .pointer (some ⟨w.heap.size, 0, none⟩), .pointer (some ⟨w.heap.size + 1, 0, none⟩), .pointer (some ⟨w.heap.size + 1 + 1, 0, none⟩), undef, .pointer (some ⟨Bx, 0, none⟩), .pointer (some ⟨w.heap.size, 1, none⟩), .slice pp M cp, .func (.func 41) #[] #[.pointer (some ⟨w.heap.size + 1 + 1 + 1, 0, none⟩)], .int .i64 (x : Int), (T x).val, undef, undef, undef, undef, undef, undef, undef, undef, undef, undef, undef], defers := [] })
    (fun x a' => Own.from (fun s A B row hs hg hr => by obtain ⟨Bx, h1, h2, h3, h4⟩ := hs; exact ⟨Bx, h1, cell_kept h2 hg hr, cell_kept h3 hg hr, h4⟩) _)
    ?assign ?body ?done ?stop
  case assign =>
    rintro l pre x W K ⟨hp, hB⟩ hK
    gi_wp2
    exact hK _ _ ((KeepsOthers.alloc _ _).from _) ((Below.refl _ W).alloc hB.size _) ⟨hp, hB.alloc hB.size _⟩ ⟨W.heap.size, hB.size, by go_simp, by go_simp, rfl⟩
  case body =>
    rintro l pre x a' W hl ⟨r, hr⟩ ⟨hp, hB⟩ ⟨Bx, hBx, b0, b1, rfl⟩ hlt
    have q1 := (hB.cell (p := ⟨w.heap.size + 1, 0, none⟩) (by show w.heap.size + 1 < _; omega)).trans k1
    have q2 := (hB.cell (p := ⟨w.heap.size + 1 + 1, 0, none⟩) (by show w.heap.size + 1 + 1 < _; omega)).trans k2
    have q3 := (hB.frozen (p := ⟨w.heap.size + 1 + 1, 0, none⟩) (by show w.heap.size + 1 + 1 < _; omega)).trans f2
    gi_wp2
    · have hx : (T x).n = a := by simpa using ‹((T x).n == a) = true›
      exact ⟨(KeepsOthers.setCell _ _ _).from _, ⟨rfl, pre, x, rfl, hp, hx, World.cell?_setCell_same' _ _ _ (by rw [q2]; rfl)⟩, (hB0.trans (hB.mono (by omega))).setCell (p := ⟨w.heap.size + 1 + 1, 0, none⟩) (by show w.heap.size ≤ w.heap.size + 1 + 1; omega) _⟩
    · have hx : (T x).n ≠ a := by simpa using ‹((T x).n == a) = false›
      exact ⟨KeepsFrom.refl _ _, Below.refl _ _, fun j hj => (List.mem_append.1 hj).elim (hp j) (fun e => by simp at e; subst e; exact hx), hB⟩
  case done =>
    rintro D ys W hD rfl ⟨hp, hB⟩ hK
    obtain ⟨j, rfl⟩ : ∃ j : Nat, a = (j : Int) := ⟨a.toNat, by omega⟩
    have hj : j < N := by omega
    obtain ⟨b, o, pu, L, cu, l, rfl, hb, hc, hx, hL1, hL2⟩ := HO'.out.secAt j hj
    have q0 := (hB.cell (p := ⟨w.heap.size, 0, none⟩) (by show w.heap.size < _; omega)).trans k0
    have q1 := (hB.cell (p := ⟨w.heap.size + 1, 0, none⟩) (by show w.heap.size + 1 < _; omega)).trans k1
    have q2 := (hB.cell (p := ⟨w.heap.size + 1 + 1, 0, none⟩) (by show w.heap.size + 1 + 1 < _; omega)).trans k2
    have q3 := (hB.frozen (p := ⟨w.heap.size + 1 + 1, 0, none⟩) (by show w.heap.size + 1 + 1 < _; omega)).trans f2
    have q4 := ((hB0.trans (hB.mono (by omega))).cell (p := ⟨b, o + j, none⟩) hb).trans hc
    gi_wp2
    have hK' := (KeepsOthers.setCell W ⟨w.heap.size + 1 + 1, 0, none⟩ (.slice pu L cu)).same D _ hK rfl
    refine ⟨by simp, .inl ⟨_, _, rfl, run_takeDeferred hK', ?_⟩⟩
    have hc5 := cell_kept (World.cell?_setCell_same' W ⟨w.heap.size + 1 + 1, 0, none⟩ (.slice pu L cu) (by rw [q2]; rfl)) (grownBy_putObj' _ D (.deferred none)) (fun r e => by cases e; exact ⟨_, hK', rfl⟩)
    have hBW : Below w.heap.size w ((W.setCell ⟨w.heap.size + 1 + 1, 0, none⟩ (.slice pu L cu)).putObj D (.deferred none)) := ((hB0.trans (hB.mono (by omega))).setCell (p := ⟨w.heap.size + 1 + 1, 0, none⟩) (by show w.heap.size ≤ w.heap.size + 1 + 1; omega) (.slice pu L cu)).trans (belowK_b (w := w) (Nat.le_refl _) _ D _ _ (by omega) hK' rfl rfl)
    refine ⟨.slice pu L cu, ?_, _, rfl, ?_, hBW⟩
    · simp [results, Try.f35, go_sem, hc5]
    · have e : cur d j d.p.length = l := by
        rw [cur_none d j d.p.length (Nat.le_refl _) (fun k n l' hk hpk => ?_)]
        · rw [List.getD_eq_getElem?_getD, hx.out.1]; rfl
        · have hkM : k < M := by rw [← HO'.out.m]; exact hk
          obtain ⟨_, l2, h2, _⟩ := hT'.out k hkM
          have h3 := hp k (mem_uptoB_all hkM)
          rw [hpk] at h2
          cases h2
          exact h3
      show BV _ _ (cur d (j : Int).toNat d.p.length)
      rw [Int.toNat_natCast, e]
      exact hx.out.2.2.below hBW
  case stop =>
    rintro D c pre W hD ⟨k, hk, rfl⟩ ⟨⟨rfl, ini, last, e1, e2, e3, hcr⟩, hB⟩ hK
    gi_wp2
    refine ⟨by simp, .inl ⟨_, _, rfl, run_takeDeferred hK, ?_⟩⟩
    have hc5 := cell_kept hcr (grownBy_putObj' _ D (.deferred none)) (fun r e => by cases e; exact ⟨_, hK, rfl⟩)
    have hBW : Below w.heap.size w (W.putObj D (.deferred none)) := hB.trans (belowK_b (w := w) (Nat.le_refl _) _ D _ _ (by omega) hK rfl rfl)
    obtain ⟨k', rfl⟩ : ∃ k', k = k' + 1 := by
      cases k with
      | zero => simp [uptoB] at e1
      | succ k' => exact ⟨k', rfl⟩
    rw [uptoB_succ] at e1
    obtain ⟨rfl, e5⟩ := List.append_inj' e1 rfl
    obtain rfl : M - 1 - k' = last := by simpa using e5
    have hjM : M - 1 - k' < M := by omega
    obtain ⟨_, l, h2, h3⟩ := hT'.out _ hjM
    refine ⟨.slice (T (M - 1 - k')).p (T (M - 1 - k')).L (T (M - 1 - k')).c, ?_, _, rfl, ?_, hBW⟩
    · simp [results, Try.f35, go_sem, hc5]
    · obtain ⟨j, rfl⟩ : ∃ j : Nat, a = (j : Int) := ⟨a.toNat, by omega⟩
      rw [e3] at h2
      have e : cur d j d.p.length = l := by
        refine cur_last d j _ l h2 d.p.length (Nat.le_refl _) (by rw [HO'.out.m]; exact hjM) (fun i n l' h4 h5 h6 => ?_)
        have hiM : i < M := by rw [← HO'.out.m]; exact h5
        obtain ⟨_, l2, h7, _⟩ := hT'.out i hiM
        have h8 := e2 i (mem_uptoB (by omega) hiM)
        rw [h6] at h7
        cases h7
        exact h8
      show BV _ _ (cur d (j : Int).toNat d.p.length)
      rw [Int.toNat_natCast, e]
      exact h3.below hBW
end Go.Proofs.Ytanmhjbeookfiaa
