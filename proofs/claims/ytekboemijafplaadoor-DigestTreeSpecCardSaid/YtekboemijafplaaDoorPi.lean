/-
  Digest: pathIn, Path.
-/
import Derived.Test.YtekboemijafplaaDoorDof
namespace Go.Proofs.YtekboemijafplaaDoor
open Go Go.RowKit
/-- the path of an element -/
def pat : Nat → List (List UInt8) → Nat → List (List UInt8)
  | 0, _, _ => []
  | f + 1, l, at' => if l.length ≤ 1 then [] else if at' < half l.length then pat f (l.take (half l.length)) at' ++ [T (l.drop (half l.length))] else pat f (l.drop (half l.length)) (at' - half l.length) ++ [T (l.take (half l.length))]
theorem pat_fuel : ∀ (f f' : Nat) (l : List (List UInt8)) (at' : Nat), l.length ≤ f → l.length ≤ f' → pat f l at' = pat f' l at'
  | 0, f', l, at', h, _ => by
    obtain rfl : l = [] := List.eq_nil_of_length_eq_zero (by omega)
    cases f' <;> simp [pat]
  | f + 1, 0, l, at', _, h => by
    obtain rfl : l = [] := List.eq_nil_of_length_eq_zero (by omega)
    simp [pat]
  | f + 1, f' + 1, l, at', h, h' => by
    unfold pat
    by_cases h1 : l.length ≤ 1
    · simp [h1]
    have hp := half_pos l.length
    have hl := half_lt (n := l.length) (by omega)
    rw [if_neg h1, if_neg h1, pat_fuel f f' (l.take (half l.length)) at' (by rw [List.length_take]; omega) (by rw [List.length_take]; omega), pat_fuel f f' (l.drop (half l.length)) (at' - half l.length) (by rw [List.length_drop]; omega) (by rw [List.length_drop]; omega)]
def PA (l : List (List UInt8)) (at' : Nat) : List (List UInt8) := pat l.length l at'
theorem PA_one (l : List (List UInt8)) (at' : Nat) (h : l.length ≤ 1) : PA l at' = [] := by
  unfold PA
  match l, h with
  | [], _ => rfl
  | [d], _ => rfl
theorem PA_two (l : List (List UInt8)) (at' : Nat) (h : 2 ≤ l.length) : PA l at' = if at' < half l.length then PA (l.take (half l.length)) at' ++ [T (l.drop (half l.length))] else PA (l.drop (half l.length)) (at' - half l.length) ++ [T (l.take (half l.length))] := by
  have hp := half_pos l.length
  have hl := half_lt (n := l.length) (by omega)
  unfold PA
  obtain ⟨f, hf⟩ : ∃ f, l.length = f + 1 := ⟨l.length - 1, by omega⟩
  conv => lhs; rw [hf]; unfold pat
  rw [if_neg (by omega), pat_fuel f _ (l.take (half l.length)) at' (by rw [List.length_take]; omega) (Nat.le_refl _), pat_fuel f _ (l.drop (half l.length)) (at' - half l.length) (by rw [List.length_drop]; omega) (Nat.le_refl _)]
theorem PA_32 : ∀ (n : Nat) (l : List (List UInt8)) (at' : Nat), l.length = n → D32 (PA l at') := fun n => Nat.strongRecOn n fun n ih => by
  intro l at' hl
  by_cases h : l.length ≤ 1
  · rw [PA_one l at' h]; intro d hd; cases hd
  have hp := half_pos l.length
  have hh := half_lt (n := l.length) (by omega)
  rw [PA_two l at' (by omega)]
  have one : ∀ x : List (List UInt8), D32 [T x] := fun x d hd => by simp at hd; rw [hd]; exact T_len x
  split
  · exact (ih (half l.length) (by omega) _ at' (by rw [List.length_take]; omega)).append (one _)
  · exact (ih (l.length - half l.length) (by omega) _ _ (by rw [List.length_drop])).append (one _)
theorem PA_len : ∀ (n : Nat) (l : List (List UInt8)) (at' : Nat), l.length = n → 1 ≤ n → (PA l at').length = PL at' n := fun n => Nat.strongRecOn n fun n ih => by
  intro l at' hl h1
  by_cases h : n = 1
  · subst h
    rw [PA_one l at' (by omega), PL_one]
    rfl
  have hp := half_pos n
  have hh := half_lt (n := n) (by omega)
  rw [PA_two l at' (by omega), PL_two at' n (by omega), hl]
  split
  · rw [List.length_append, ih (half n) (by omega) _ at' (by rw [List.length_take]; omega) hp]
    simp; omega
  · rw [List.length_append, ih (n - half n) (by omega) _ _ (by rw [List.length_drop]; omega) (by omega)]
    simp; omega
/-- climbing a path leads to the digest of the list -/
theorem climb_back : ∀ (n : Nat) (l : List (List UInt8)) (at' : Nat) (d : List UInt8), l.length = n → l[at']? = some d → CL d at' n (PA l at') = T l := fun n => Nat.strongRecOn n fun n ih => by
  intro l at' d hl hd
  have hlt := (List.getElem?_eq_some_iff.1 hd).1
  by_cases h : n = 1
  · subst h
    rw [CL_one]
    match l, hl, hd with
    | [x], _, hd =>
      obtain rfl : at' = 0 := by simp at hlt; omega
      simp at hd
      rw [hd, T_one]
  have hp := half_pos n
  have hh := half_lt (n := n) (by omega)
  rw [CL_two _ _ _ _ (by omega), PA_two l at' (by omega), T_node l (by omega), hl]
  by_cases h2 : at' < half n
  · rw [if_pos h2, if_pos h2, List.dropLast_concat, List.getLastD_concat, ih (half n) (by omega) _ at' d (by rw [List.length_take]; omega) (by rw [List.getElem?_take, if_pos h2]; exact hd)]
  · rw [if_neg h2, if_neg h2, List.dropLast_concat, List.getLastD_concat, ih (n - half n) (by omega) _ (at' - half n) d (by rw [List.length_drop]; omega) (by rw [List.getElem?_drop, show half n + (at' - half n) = at' by omega]; exact hd)]
theorem fold_row : ∀ (l : List Value) (k : Nat) (cs : Array Value), k + l.length = cs.size → List.foldl (fun (cs : Array Value) (x : Value × Nat) => cs.setIfInBounds x.snd x.fst) cs (l.zipIdx k) = (cs.toList.take k ++ l).toArray
  | [], k, cs, h => by
    have hk : cs.toList.take k = cs.toList := List.take_of_length_le (by rw [Array.length_toList]; simp at h; omega)
    rw [hk]
    simp
  | a :: r, k, cs, h => by
    rw [List.length_cons] at h
    rw [List.zipIdx_cons, List.foldl_cons, fold_row r (k + 1) _ (by simp; omega)]
    congr 1
    have hk : k < cs.toList.length := by rw [Array.length_toList]; omega
    rw [Array.toList_setIfInBounds, List.take_add_one, List.take_set_of_le (Nat.le_refl k), List.getElem?_set_self hk]
    simp
theorem fold_dg (l : List UInt8) (h : l.length = 32) : List.foldl (fun (cs : Array Value) (x : Value × Nat) => cs.setIfInBounds x.snd x.fst) (#[.int .u8 0, .int .u8 0, .int .u8 0, .int .u8 0, .int .u8 0, .int .u8 0, .int .u8 0, .int .u8 0, .int .u8 0, .int .u8 0, .int .u8 0, .int .u8 0, .int .u8 0, .int .u8 0, .int .u8 0, .int .u8 0, .int .u8 0, .int .u8 0, .int .u8 0, .int .u8 0, .int .u8 0, .int .u8 0, .int .u8 0, .int .u8 0, .int .u8 0, .int .u8 0, .int .u8 0, .int .u8 0, .int .u8 0, .int .u8 0, .int .u8 0, .int .u8 0] : Array Value) (l.map byt).zipIdx = (l.map byt).toArray := by
  have := fold_row (l.map byt) 0 (#[.int .u8 0, .int .u8 0, .int .u8 0, .int .u8 0, .int .u8 0, .int .u8 0, .int .u8 0, .int .u8 0, .int .u8 0, .int .u8 0, .int .u8 0, .int .u8 0, .int .u8 0, .int .u8 0, .int .u8 0, .int .u8 0, .int .u8 0, .int .u8 0, .int .u8 0, .int .u8 0, .int .u8 0, .int .u8 0, .int .u8 0, .int .u8 0, .int .u8 0, .int .u8 0, .int .u8 0, .int .u8 0, .int .u8 0, .int .u8 0, .int .u8 0, .int .u8 0] : Array Value) (by rw [List.length_map, h]; rfl)
  simpa using this
theorem OwnN.later {w w' : World} {v : Value} {n : Nat} {xs : List Value} (h : OwnN 32 w v n xs) (hb : Below w.heap.size w w') : OwnN 32 w' v n xs := h.keep hb.size fun k hk => hb.block k (h.lt hk)
theorem ld_one (w : World) (d : List UInt8) (hd : d.length = 32) : LD (w.alloc (.cells (d.map byt).toArray 26)) (.slice (some ⟨w.heap.size, 0, none⟩) 1 1) [d] := by
  have h := ld_new w [d] (fun x hx => by simp at hx; rw [hx]; exact hd) (by simp)
  rw [fl_one] at h
  exact h
def PiR (p : List (List UInt8)) (w : World) (e : Ending) (w' : World) : Prop := ∃ v, e = .returned v ∧ OwnN 32 w' v p.length (fl p) ∧ Below w.heap.size w w' ∧ ∀ k, v.ownBlock = some k → w.heap.size ≤ k
def PiOk (n : Nat) : Prop := ∀ (l : List (List UInt8)) (at' : Nat) (v : Value) (w : World), l.length = n → 1 ≤ n → n ≤ 64 → at' < n → D32 l → LD w v l → KOK w → Calls Tryd.prog 39 #[v, .int .i64 (at' : Int)] w (PiR (PA l at') w)
set_option maxRecDepth 100000 in
set_option maxHeartbeats 1000000 in
theorem pi_two (n : Nat) (ih : ∀ m, m < n → PiOk m) (hn : 2 ≤ n) : PiOk n := by
  intro l at' v w hl _ h64 hat h32 hv hk
  have hform : ∃ b o cap, v = .slice (some ⟨b, o, none⟩) n cap ∧ n ≤ cap ∧ cap ≤ maxLen := by
    obtain ⟨b, cap, p, rfl, h1, h2, h3, h4⟩ := hv
    rcases h4 with rfl | ⟨o, rfl, _⟩
    · simp at hl; omega
    · exact ⟨b, o, cap, by rw [hl], by omega, h2⟩
  obtain ⟨b, o, cap, rfl, hcap, hmax⟩ := hform
  have hp := half_pos n
  have hh := half_lt hn
  unfold maxLen at hmax
  have hva := hv.pre (half n) (by rw [hl]; omega)
  have hvb := hv.suf h32 (half n) (by rw [hl]; omega)
  have hta : (l.take (half n)).length = half n := by rw [List.length_take, hl]; omega
  have htb : (l.drop (half n)).length = n - half n := by rw [List.length_drop, hl]
  have hPA := PA_two l at' (by omega)
  rw [hl] at hPA
  have HA := Lib.hid hva
  have HB := Lib.hid hvb
  have HK := Lib.hid hk
  have H32 := Lib.hid h32
  have HPA := Lib.hid hPA
  have HTA := Lib.hid hta
  have HTB := Lib.hid htb
  have HIH := Lib.hid ih
  clear hva hvb hk hv h32 hPA hta htb ih
  have hn1 : ((n : Int) == 1) = false := by simp; omega
  have hcn : ¬ (cap = half n) := by omega
  have i1 : ((half n : Nat) : Int) ≤ (cap : Int) := by omega
  have i2 : ((half n : Nat) : Int) ≤ (n : Int) := by omega
  have i3 : (n : Int) ≤ (cap : Int) := by omega
  have g32 : D32 [T (l.drop (half n))] := fun d hd => by simp at hd; rw [hd]; exact T_len _
  have g32' : D32 [T (l.take (half n))] := fun d hd => by simp at hd; rw [hd]; exact T_len _
  have G32 := Lib.hid g32
  have G32' := Lib.hid g32'
  clear g32 g32'
  by_cases hlt : at' < half n
  · go_enter Tryd.func39, Tryd.ntmps39
    go_wp2_with (go_at_call 35; refine (fp_any n hn h64 _).mono ?_; rintro e w1 ⟨rfl, hb1⟩)
    have HB1 := Lib.hid (below_drew hb1)
    have C := Lib.hid (HIH.out (half n) hh (l.take (half n)) at' _ w1.drew HTA.out hp (by omega) hlt (H32.out.take _) (HA.out.below HB1.out) (HK.out.below HB1.out))
    clear hb1
    have hF := fold_dg (T (l.drop (half n))) (T_len _)
    have hFl := T_len (l.drop (half n))
    have hFn : ¬ (32 < (T (l.drop (half n))).length) := by rw [T_len]; omega
    go_region_law (first
      | (have _ := HB3; refine digs_step rfl (.tmp 19) (.tmp 24) rfl v2 (.slice (some ⟨w3.heap.size, 0, none⟩) 1 1) (PA (l.take (half n)) at') [T (l.drop (half n))] (by simp [Act.eval, Act.put]) (HO3.out.alloc _) (by simp [Act.eval, Act.put]) (ld_one w3 _ (T_len _)) G32.out (by have h1 := PA_len _ (l.take (half n)) at' HTA.out hp; have h2 := PL_lt (half n) at' hp; rw [h1]; simp; omega) ?_; intro v4 w4 ho4 hg4 hv4'
         have hbx := Lib.hid (HB3.out.trans ((one_new w3 (.cells ((T (l.drop (half n))).map byt).toArray 26)).mono HB3.out.size))
         have hb4 := Lib.hid (grown_below hbx.out hbx.out.size hg4 hob2')
         have hv4 : ∀ k, v4.ownBlock = some k → w.heap.size ≤ k := fun k e => by
           rcases hv4' with h | ⟨k', h, h'⟩
           · exact hob2' k (by rw [← h]; exact e)
           · rw [h] at e; cases e; exact Nat.le_trans hbx.out.size h'
         clear hg4 hv4' hbx)
      | (have _ := HB2; go_simp; go_at_call 17; refine (tree_any (l.drop (half n)) _ w2 (by rw [HTB.out]; omega) (H32.out.drop _) (HB.out.below HB2.out) (HK.out.below HB2.out)).mono ?_; rintro e w3 ⟨rfl, hb3⟩; have HB3 := Lib.hid (HB2.out.trans (hb3.mono HB2.out.size)); have HO3 := Lib.hid (OwnN.later HO2.out hb3); clear hb3 HB2)
      | (go_simp; go_at_call 39; refine C.out.mono ?_; rintro e w2 ⟨v2, rfl, ho2, hb2, hob2⟩; have HB2 := Lib.hid (HB1.out.trans (hb2.mono HB1.out.size)); have HO2 := Lib.hid ho2; have hob2' : ∀ k, v2.ownBlock = some k → w.heap.size ≤ k := fun k e => Nat.le_trans HB1.out.size (hob2 k e); clear ho2 hob2))
    have hx : PA (l.take (half n)) at' ++ [T (l.drop (half n))] = PA l at' := by rw [HPA.out, if_pos hlt]
    rw [hx] at ho4
    go_wp2_with fail
    go_ret
    exact ⟨_, rfl, ho4.out, hb4.out, hv4⟩
  · have e1 : IntKind.i64.wrap ((at' : Int) - (half n : Int)) = ((at' - half n : Nat) : Int) := by rw [IntWalk.i64_in _ (by omega)]; omega
    go_enter Tryd.func39, Tryd.ntmps39
    go_wp2_with (go_at_call 35; refine (fp_any n hn h64 _).mono ?_; rintro e w1 ⟨rfl, hb1⟩)
    have HB1 := Lib.hid (below_drew hb1)
    have C := Lib.hid (HIH.out (n - half n) (by omega) (l.drop (half n)) (at' - half n) _ w1.drew HTB.out (by omega) (by omega) (by omega) (H32.out.drop _) (HB.out.below HB1.out) (HK.out.below HB1.out))
    clear hb1
    have hF := fold_dg (T (l.take (half n))) (T_len _)
    have hFl := T_len (l.take (half n))
    have hFn : ¬ (32 < (T (l.take (half n))).length) := by rw [T_len]; omega
    go_region_law (first
      | (have _ := HB3; refine digs_step rfl (.tmp 32) (.tmp 37) rfl v2 (.slice (some ⟨w3.heap.size, 0, none⟩) 1 1) (PA (l.drop (half n)) (at' - half n)) [T (l.take (half n))] (by simp [Act.eval, Act.put]) (HO3.out.alloc _) (by simp [Act.eval, Act.put]) (ld_one w3 _ (T_len _)) G32'.out (by have h1 := PA_len _ (l.drop (half n)) (at' - half n) HTB.out (by omega); have h2 := PL_lt (n - half n) (at' - half n) (by omega); rw [h1]; simp; omega) ?_; intro v4 w4 ho4 hg4 hv4'
         have hbx := Lib.hid (HB3.out.trans ((one_new w3 (.cells ((T (l.take (half n))).map byt).toArray 26)).mono HB3.out.size))
         have hb4 := Lib.hid (grown_below hbx.out hbx.out.size hg4 hob2')
         have hv4 : ∀ k, v4.ownBlock = some k → w.heap.size ≤ k := fun k e => by
           rcases hv4' with h | ⟨k', h, h'⟩
           · exact hob2' k (by rw [← h]; exact e)
           · rw [h] at e; cases e; exact Nat.le_trans hbx.out.size h'
         clear hg4 hv4' hbx)
      | (have _ := HB2; go_simp; go_at_call 17; refine (tree_any (l.take (half n)) _ w2 (by rw [HTA.out]; omega) (H32.out.take _) (HA.out.below HB2.out) (HK.out.below HB2.out)).mono ?_; rintro e w3 ⟨rfl, hb3⟩; have HB3 := Lib.hid (HB2.out.trans (hb3.mono HB2.out.size)); have HO3 := Lib.hid (OwnN.later HO2.out hb3); clear hb3 HB2)
      | (go_simp; go_at_call 39; refine C.out.mono ?_; rintro e w2 ⟨v2, rfl, ho2, hb2, hob2⟩; have HB2 := Lib.hid (HB1.out.trans (hb2.mono HB1.out.size)); have HO2 := Lib.hid ho2; have hob2' : ∀ k, v2.ownBlock = some k → w.heap.size ≤ k := fun k e => Nat.le_trans HB1.out.size (hob2 k e); clear ho2 hob2))
    have hx : PA (l.drop (half n)) (at' - half n) ++ [T (l.take (half n))] = PA l at' := by rw [HPA.out, if_neg hlt]
    rw [hx] at ho4
    go_wp2_with fail
    go_ret
    exact ⟨_, rfl, ho4.out, hb4.out, hv4⟩
theorem pi_all : ∀ n, PiOk n := fun n => Nat.strongRecOn n fun n ih => by
  by_cases hn : 2 ≤ n
  · exact pi_two n ih hn
  · intro l at' v w hl h1 h64 hat h32 hv hk
    obtain rfl : n = 1 := by omega
    obtain ⟨b, cap, p, rfl, _⟩ := hv
    rw [PA_one l at' (by omega), hl]
    go_enter Tryd.func39, Tryd.ntmps39
    go_wp2_with fail
    go_ret
    exact ⟨_, rfl, OwnN.nil 32 w, Below.refl _ _, fun k e => by cases e⟩
def PathR (p : List (List UInt8)) (w : World) (e : Ending) (w' : World) : Prop := ∃ v, e = .returned (.tuple #[v, .int .i64 0]) ∧ OwnN 32 w' v p.length (fl p) ∧ Below w.heap.size w w' ∧ ∀ k, v.ownBlock = some k → w.heap.size ≤ k
set_option maxHeartbeats 1000000 in
theorem path_ok (l : List (List UInt8)) (at' : Nat) (v : Value) (w : World) (h64 : l.length ≤ 64) (hat : at' < l.length) (h32 : D32 l) (hv : LD w v l) (hk : KOK w) : Calls Tryd.prog 19 #[v, .int .i64 (at' : Int)] w (PathR (PA l at') w) := by
  have C := Lib.hid (pi_all l.length l at' v w rfl (by omega) h64 hat h32 hv hk)
  obtain ⟨b, cap, p, rfl, _⟩ := hv
  have c1 : decide ((at' : Int) < 0) = false := by simp
  have c2 : decide ((l.length : Int) ≤ (at' : Int)) = false := by simp; omega
  have c3 : ¬ (l.length ≤ at') := by omega
  clear hk h32
  go_enter Tryd.func19, Tryd.ntmps19
  go_wp2_with (go_at_call 39; refine C.out.mono ?_; rintro e w2 ⟨v2, rfl, ho2, hb2, hob2⟩; have HO2 := Lib.hid ho2; clear ho2)
  go_ret2
  exact ⟨_, rfl, HO2.out, hb2, hob2⟩
end Go.Proofs.YtekboemijafplaaDoor
