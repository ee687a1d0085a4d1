/-
  Digest: a list of digests that bytes determine.
-/
import Derived.Test.YtekboemijafplaaDoorSane
namespace Go.Proofs.YtekboemijafplaaDoor
open Go Go.RowKit
theorem grown_below {m : Nat} {w w1 w2 : World} {o : Option Nat} (h : Below m w w1) (hm : m ≤ w1.heap.size) (hg : w1.grownBy w2 o) (ho : ∀ k, o = some k → m ≤ k) : Below m w w2 :=
  ⟨hg.os.trans h.os, hg.tape.trans h.tape, hg.output.trans h.output, Nat.le_trans h.size hg.size, fun k hk => (hg.block k (by omega) (fun e => by have := ho k e.symm; omega)).trans (h.block k hk)⟩
theorem own_empty (w : World) : Own (w.alloc (.cells #[] 5)) (.slice (some ⟨w.heap.size, 0, none⟩) 0 0) (([] : List UInt8).map byt) := Own.made w #[] 5 0 (by simp) (by simp)
theorem info26s : (Tryd.prog.info? 26).map (fun i => (i.size, i.bytes, i.zero)) = some (32, 32, some (.agg (zeros.map byt).toArray)) := by kernel_rfl
theorem fl_one_cell (l : List (List UInt8)) : ∀ u ∈ fl l, u.oneCell' = true := fun u hu => by
  unfold fl at hu
  obtain ⟨c, _, rfl⟩ := List.mem_map.1 hu
  rfl
theorem ld_src {w : World} {v : Value} {l : List (List UInt8)} (h : LD w v l) (h32 : D32 l) : Src Tryd.prog 32 30 v l.length (fl l) w := by
  obtain ⟨b, cap, p, rfl, h1, h2, h3, h4⟩ := h
  rcases p with _ | a
  · obtain rfl := h3 rfl
    obtain rfl : l = [] := by
      rcases h4 with h4 | ⟨o, e, _⟩
      · exact h4
      · cases e
    exact Src.ofNil w Tryd.underlying30 0
  · refine Src.ofSlice w Tryd.underlying30 a l.length cap (fl l) (by rw [fl_len h32]) (fun j u hu => ?_) (fl_one_cell l)
    rcases h4 with rfl | ⟨o, e, _, hc⟩
    · cases hu
    · obtain rfl : a = ⟨b, o, none⟩ := by simpa using e
      rw [Addr.add_lit]
      exact hc j u hu
theorem ownN_ld {w : World} {v : Value} {l : List (List UInt8)} (h : OwnN 32 w v l.length (fl l)) (h32 : D32 l) : LD w v l := by
  rcases h with ⟨rfl, hn, _⟩ | ⟨g, cap, rfl, h⟩
  · obtain rfl := List.eq_nil_of_length_eq_zero hn
    exact ⟨0, 0, none, rfl, Nat.le_refl _, by simp, fun _ => rfl, .inl rfl⟩
  · exact ⟨g, cap, _, rfl, h.le, h.mx, (fun e => by cases e), .inr ⟨0, rfl, h.lt, fun j u hj => by rw [Nat.zero_add]; exact h.cells j u hj⟩⟩
section
variable {ops : Array Oper} {o : Oper} {a : Act} {w : World} {Q : Exit → Act → World → Prop}
/-- append digests to a list of one's own -/
theorem wp_digs {K : Act → World → Prop} (s x : Operand) (ho : o.op = .call { callee := .builtin .append, args := #[s, x], argTypes := #[30, 30] })
    (v xv : Value) (l l' : List (List UInt8)) (hs : a.eval s = v) (hown : OwnN 32 w v l.length (fl l)) (hx : a.eval x = xv) (hb : LD w xv l') (h32 : D32 l') (hl : l.length + l'.length ≤ 1000)
    (h : ∀ v' w', Hid (OwnN 32 w' v' (l ++ l').length (fl (l ++ l'))) → w.grownBy w' v.ownBlock → (v'.ownBlock = v.ownBlock ∨ ∃ k, v'.ownBlock = some k ∧ w.heap.size ≤ k) → K (a.put o.dst v') w') : o.wp Tryd.prog a w K Q := by
  have h5 := info26s
  cases hi : Tryd.prog.info? 26 with
  | none => rw [hi] at h5; cases h5
  | some i =>
    rw [hi] at h5
    simp only [Option.map_some, Option.some.injEq, Prod.mk.injEq] at h5
    obtain ⟨s1, s2, s3⟩ := h5
    refine wp_ownN s x 30 30 ho 26 i (.agg (zeros.map byt).toArray) 32 Tryd.underlying30 hi s3 s1 (by omega) s2 rfl v xv (fl l) hs hown l'.length (fl l') hx (ld_src hb h32) (by unfold maxLen; omega) (by omega) ?_
    intro v' w' h1 h2 h3
    exact h v' w' (Lib.hid (by rw [List.length_append, fl_append]; exact h1)) h2 h3
theorem digs_own {rest : List Oper} (hgd : o.guard = none) (s x : Operand) (ho : o.op = .call { callee := .builtin .append, args := #[s, x], argTypes := #[30, 30] })
    (v xv : Value) (l l' : List (List UInt8)) (hs : a.eval s = v) (hown : OwnN 32 w v l.length (fl l)) (hx : a.eval x = xv) (hb : LD w xv l') (h32 : D32 l') (hl : l.length + l'.length ≤ 1000)
    (h : ∀ v' w', Hid (OwnN 32 w' v' (l ++ l').length (fl (l ++ l'))) → w.grownBy w' v.ownBlock → (v'.ownBlock = v.ownBlock ∨ ∃ k, v'.ownBlock = some k ∧ w.heap.size ≤ k) → wpList Tryd.prog ops Q rest (a.put o.dst v') w') : wpList Tryd.prog ops Q (o :: rest) a w :=
  wpList_plain hgd fun _ hK => wp_digs s x ho v xv l l' hs hown hx hb h32 hl fun v' w' h2 h3 h4 => hK _ _ (h v' w' h2 h3 h4)
theorem digs_step {K : Act → World → Prop} {E : Prop} (hgd : o.guard = none) (s x : Operand) (ho : o.op = .call { callee := .builtin .append, args := #[s, x], argTypes := #[30, 30] })
    (v xv : Value) (l l' : List (List UInt8)) (hs : a.eval s = v) (hown : OwnN 32 w v l.length (fl l)) (hx : a.eval x = xv) (hb : LD w xv l') (h32 : D32 l') (hl : l.length + l'.length ≤ 1000)
    (h : ∀ v' w', Hid (OwnN 32 w' v' (l ++ l').length (fl (l ++ l'))) → w.grownBy w' v.ownBlock → (v'.ownBlock = v.ownBlock ∨ ∃ k, v'.ownBlock = some k ∧ w.heap.size ≤ k) → K (a.put o.dst v') w') :
    if Region.wanted o (yielded ops a.tmps) = true then Oper.wp Tryd.prog o a w K Q else E := by
  have hw : Region.wanted o (yielded ops a.tmps) = true := by simp [Region.wanted, hgd]
  rw [if_pos hw]
  exact wp_digs s x ho v xv l l' hs hown hx hb h32 hl h
end
/-- the digests that bytes determine -/
def dofN (l : List UInt8) (i : Nat) : List UInt8 := (l.getD i 0 % 4) :: UInt8.ofNat (i / 8) :: List.replicate 30 0
def dof (l : List UInt8) (n : Nat) : List (List UInt8) := (List.range n).map (dofN l)
theorem dof_len (l : List UInt8) (n : Nat) : (dof l n).length = n := by simp [dof]
theorem dof_32 (l : List UInt8) (n : Nat) : D32 (dof l n) := fun d hd => by
  unfold dof at hd
  obtain ⟨i, _, rfl⟩ := List.mem_map.1 hd
  simp [dofN]
theorem dof_succ (l : List UInt8) (n : Nat) : dof l (n + 1) = dof l n ++ [dofN l n] := by simp [dof, List.range_succ]
theorem dofN_cells (l : List UInt8) (k : Nat) (hk : k < 24) (hkl : k < l.length) : (fl [dofN l k]).toArray = #[.int .u8 ((l[k].toNat : Int) % 4), .int .u8 ((k : Int) / 8), .int .u8 0, .int .u8 0, .int .u8 0, .int .u8 0, .int .u8 0, .int .u8 0, .int .u8 0, .int .u8 0, .int .u8 0, .int .u8 0, .int .u8 0, .int .u8 0, .int .u8 0, .int .u8 0, .int .u8 0, .int .u8 0, .int .u8 0, .int .u8 0, .int .u8 0, .int .u8 0, .int .u8 0, .int .u8 0, .int .u8 0, .int .u8 0, .int .u8 0, .int .u8 0, .int .u8 0, .int .u8 0, .int .u8 0, .int .u8 0] := by
  have h1 : byt (l.getD k 0 % 4) = .int .u8 ((l[k].toNat : Int) % 4) := by
    unfold byt
    rw [List.getD_eq_getElem?_getD, List.getElem?_eq_getElem hkl]
    simp
  have h2 : byt (UInt8.ofNat (k / 8)) = .int .u8 ((k : Int) / 8) := by
    unfold byt
    congr 1
    rw [UInt8.toNat_ofNat']
    omega
  rw [← h1, ← h2]
  rfl
def DofR (l : List UInt8) (w : World) (e : Ending) (w' : World) : Prop := ∃ v, e = .returned v ∧ OwnN 32 w' v (min l.length 24) (fl (dof l (min l.length 24))) ∧ Below w.heap.size w w' ∧ ∀ k, v.ownBlock = some k → w.heap.size ≤ k
set_option maxRecDepth 100000 in
set_option maxHeartbeats 1000000 in
theorem digestsOf_any (v : Value) (l : List UInt8) (w : World) (hv : BV w v l) : Calls Tryd.prog 16 #[v] w (DofR l w) := by
  have HV := Lib.hid hv
  obtain ⟨b, cap, p, rfl, hc1, hc2, _, _⟩ := hv
  have hN : l.length ≤ 9223372036854775807 := by omega
  generalize hn : min l.length 24 = n at *
  have hn24 : n ≤ 24 := by omega
  go_enter Tryd.func16, Tryd.ntmps16
  go_wp2_with fail
  go_loopw [3, 4] (fun x i wr => ∃ k : Nat, k ≤ n ∧ i = .int .i64 k ∧ Hid (OwnN 32 wr x (dof l k).length (fl (dof l k))) ∧ Hid (Below w.heap.size w wr) ∧ Hid (∀ j, x.ownBlock = some j → w.heap.size ≤ j)) (fun _ i _ => n - (intOf i).toNat)
  case atStart =>
    refine ⟨0, Nat.zero_le _, rfl, Lib.hid ?_, Lib.hid (one_new w _), Lib.hid fun j e => by cases e; exact Nat.le_refl _⟩
    exact .inr ⟨w.heap.size, 0, rfl, ⟨Nat.le_refl _, by unfold maxLen; omega, by simp, rfl, fun j hj => by omega, fun j => by simp, fun j u hu => by cases hu⟩⟩
  case round =>
    obtain ⟨k, hk, rfl, hown, hbw, hob⟩ := hrel
    by_cases hlt : k < n
    · have hkl : k < l.length := by omega
      have hBA : BArg wr b p l := by
        rcases ‹BArg w b p l› with h | ⟨o, e, h1, h2⟩
        · exact .inl h
        · exact .inr ⟨o, e, Nat.lt_of_lt_of_le h1 hbw.out.size, fun j c hj => by rw [World.cell?_of_block (w := w) (a := ⟨b, o + j, none⟩) (hbw.out.block b h1)]; exact h2 j c hj⟩
      rcases hBA with h0 | ⟨o, rfl, hblt, hcell⟩
      · rw [h0] at hkl; simp at hkl
      have hck := hcell k _ (List.getElem?_eq_getElem hkl)
      rw [show byt l[k] = .int .u8 ((l[k].toNat : Nat) : Int) from rfl] at hck
      have c1 : decide ((k : Int) < (l.length : Int)) = true := by simp; omega
      have c2 : decide ((k : Int) < 24) = true := by simp; omega
      clear hcell
      have hld : LD (wr.alloc (.cells #[.int .u8 ((l[k].toNat : Int) % 4), .int .u8 ((k : Int) / 8), .int .u8 0, .int .u8 0, .int .u8 0, .int .u8 0, .int .u8 0, .int .u8 0, .int .u8 0, .int .u8 0, .int .u8 0, .int .u8 0, .int .u8 0, .int .u8 0, .int .u8 0, .int .u8 0, .int .u8 0, .int .u8 0, .int .u8 0, .int .u8 0, .int .u8 0, .int .u8 0, .int .u8 0, .int .u8 0, .int .u8 0, .int .u8 0, .int .u8 0, .int .u8 0, .int .u8 0, .int .u8 0, .int .u8 0, .int .u8 0] 26)) (.slice (some ⟨wr.heap.size, 0, none⟩) 1 1) [dofN l k] := by
        rw [← dofN_cells l k (by omega) hkl]
        exact ld_new wr [dofN l k] (by intro x hx; simp at hx; rw [hx]; rfl) (by simp)
      have HLD := Lib.hid hld
      have hown2 := Lib.hid (hown.out.alloc (.cells #[.int .u8 ((l[k].toNat : Int) % 4), .int .u8 ((k : Int) / 8), .int .u8 0, .int .u8 0, .int .u8 0, .int .u8 0, .int .u8 0, .int .u8 0, .int .u8 0, .int .u8 0, .int .u8 0, .int .u8 0, .int .u8 0, .int .u8 0, .int .u8 0, .int .u8 0, .int .u8 0, .int .u8 0, .int .u8 0, .int .u8 0, .int .u8 0, .int .u8 0, .int .u8 0, .int .u8 0, .int .u8 0, .int .u8 0, .int .u8 0, .int .u8 0, .int .u8 0, .int .u8 0, .int .u8 0, .int .u8 0] 26))
      have hsz := World.size_alloc wr (.cells #[.int .u8 ((l[k].toNat : Int) % 4), .int .u8 ((k : Int) / 8), .int .u8 0, .int .u8 0, .int .u8 0, .int .u8 0, .int .u8 0, .int .u8 0, .int .u8 0, .int .u8 0, .int .u8 0, .int .u8 0, .int .u8 0, .int .u8 0, .int .u8 0, .int .u8 0, .int .u8 0, .int .u8 0, .int .u8 0, .int .u8 0, .int .u8 0, .int .u8 0, .int .u8 0, .int .u8 0, .int .u8 0, .int .u8 0, .int .u8 0, .int .u8 0, .int .u8 0, .int .u8 0, .int .u8 0, .int .u8 0] 26)
      have hbw2 := Lib.hid (hbw.out.trans ((one_new wr (.cells #[.int .u8 ((l[k].toNat : Int) % 4), .int .u8 ((k : Int) / 8), .int .u8 0, .int .u8 0, .int .u8 0, .int .u8 0, .int .u8 0, .int .u8 0, .int .u8 0, .int .u8 0, .int .u8 0, .int .u8 0, .int .u8 0, .int .u8 0, .int .u8 0, .int .u8 0, .int .u8 0, .int .u8 0, .int .u8 0, .int .u8 0, .int .u8 0, .int .u8 0, .int .u8 0, .int .u8 0, .int .u8 0, .int .u8 0, .int .u8 0, .int .u8 0, .int .u8 0, .int .u8 0, .int .u8 0, .int .u8 0] 26)).mono hbw.out.size))
      clear hld
      go_wp2_with (refine digs_own rfl (.tmp 16) (.tmp 26) rfl u3 (.slice (some ⟨wr.heap.size, 0, none⟩) 1 1) (dof l k) [dofN l k] rfl hown2.out rfl HLD.out (by intro x hx; simp at hx; rw [hx]; rfl) (by rw [dof_len]; simp; omega) ?_; rintro v' w' ho' hg' hv'; rw [← dof_succ] at ho')
      go_roundw
      case rel =>
        have hb' : Below w.heap.size w w' := grown_below hbw2.out hbw2.out.size hg' hob.out
        refine ⟨k + 1, by omega, by go_num, ho', Lib.hid hb', Lib.hid fun j e => ?_⟩
        rcases hv' with h | ⟨k', h, h'⟩
        · exact hob.out j (by rw [← h]; exact e)
        · rw [h] at e
          cases e
          have := hbw2.out.size
          omega
      case measure => simp [intOf]; omega
    · have hkn : k = n := by omega
      have hown' : Hid (OwnN 32 wr u3 n (fl (dof l n))) := by rw [← hkn]; rw [dof_len] at hown; exact hown
      clear hown
      by_cases h24 : l.length ≤ k
      · have c1 : decide ((k : Int) < (l.length : Int)) = false := by simp; omega
        go_wp2_with fail
        go_ret
        exact ⟨_, rfl, by rw [hn]; exact hown'.out, hbw.out, hob.out⟩
      · have c1 : decide ((k : Int) < (l.length : Int)) = true := by simp; omega
        have c2 : decide ((k : Int) < 24) = false := by simp; omega
        go_wp2_with fail
        go_ret
        exact ⟨_, rfl, by rw [hn]; exact hown'.out, hbw.out, hob.out⟩
end Go.Proofs.YtekboemijafplaaDoor
