/-
  Merkle: the law MerkleLength.
-/
import Derived.Test.YteeabenmfmeooaaDoorSn
namespace Go.Proofs.YteeabenmfmeooaaDoor
open Go Go.RowKit
theorem alone_iff {a s : Nat} (h : a < s) : aloneB a s = decide (s % 2 = 1 ∧ a = s - 1) := by
  unfold aloneB oth
  rw [decide_eq_decide]
  split <;> omega
theorem dg_loadg {ops : Array Oper} {rest : List Oper} {o : Oper} {a : Act} {w : World} {Q : Exit → Act → World → Prop} (hw : Region.wanted o (yielded ops a.tmps) = true) (x : Operand) (ho : o.op = .load 30 x) (g : Nat) (l : List UInt8) (hl : Dg w g l) (hx : l.length = 32)
    (hp : a.eval x = .pointer (some ⟨g, 0, none⟩)) (h : wpList Tryd.prog ops Q rest (a.put o.dst (dgv l)) w) : wpList Tryd.prog ops Q (o :: rest) a w :=
  wpList_step fun K hK => by
    simp only [hw, if_true]
    exact wp_load_row 30 x ho g hp 30 _ (0, 0) _ hl Tryd.underlying30 rfl (dg_size hx) (hK _ _ h)
set_option maxRecDepth 100000 in
set_option maxHeartbeats 4000000 in
theorem length_any (n i : Int) (v u : Value) (leaf : List UInt8) (path : List (List UInt8)) (w : World) (hv' : BV w v leaf) (hu : LD w u path) (h32 : D32 path) (hk : KOK w) (hn1 : -9223372036854775808 ≤ n) (hn2 : n ≤ 9223372036854775807) (hi1 : -9223372036854775808 ≤ i) (hi2 : i ≤ 9223372036854775807) :
    Calls Tryd.prog 9 #[.int .i64 n, .int .i64 i, v, u] w (Ret (.bool true) w) := by
  have HV := Lib.hid hv'
  have HU := Lib.hid hu
  have HK := Lib.hid hk
  have H32 := Lib.hid h32
  have SN := Lib.hid (sane_any w hk)
  obtain ⟨p1, c1, rfl⟩ : ∃ p c, v = .slice p leaf.length c := by
    obtain ⟨_, c, p, e, _⟩ := hv'
    exact ⟨p, c, e⟩
  obtain ⟨p2, c2, rfl⟩ : ∃ p c, u = .slice p path.length c := by
    obtain ⟨_, c, p, e, _⟩ := hu
    exact ⟨p, c, e⟩
  clear hv' hu h32 hk
  by_cases b1 : 200 < leaf.length
  · have b1I : (200 : Int) < (leaf.length : Int) := by omega
    go_enter Tryd.func9, Tryd.ntmps9
    go_wp2_with (go_at_call 10; refine SN.out.mono ?_; rintro e w1 ⟨rfl, hb1⟩)
    go_ret
    exact ⟨rfl, hb1⟩
  by_cases b2 : 40 < path.length
  · have b1I : ¬ (200 : Int) < (leaf.length : Int) := by omega
    have b2I : (40 : Int) < (path.length : Int) := by omega
    go_enter Tryd.func9, Tryd.ntmps9
    go_wp2_with (go_at_call 10; refine SN.out.mono ?_; rintro e w1 ⟨rfl, hb1⟩)
    go_ret
    exact ⟨rfl, hb1⟩
  have b1I : ¬ (200 : Int) < (leaf.length : Int) := by omega
  have b2I : ¬ (40 : Int) < (path.length : Int) := by omega
  have CM := Lib.hid fun (U : World) (hb : Below w.heap.size w U) => Climb_any n i _ _ leaf path U (HV.out.below hb) (by omega) (HU.out.below hb) H32.out (HK.out.below hb)
  have hDl := climbD_len n i leaf path
  have hz32 : zeros.length = 32 := by simp
  have hez : ∀ w, (Op.equalIn 10000 30 (dgv zeros) (dgv zeros)).run Tryd.prog w = .ok true w := fun w => by rw [dg_equal _ _ hz32 hz32, beq_self_eq_true]
  have hez2 : ∀ w, (Op.equalIn 10000 30 (dgv zeros) (.agg #[.int .u8 0, .int .u8 0, .int .u8 0, .int .u8 0, .int .u8 0, .int .u8 0, .int .u8 0, .int .u8 0, .int .u8 0, .int .u8 0, .int .u8 0, .int .u8 0, .int .u8 0, .int .u8 0, .int .u8 0, .int .u8 0, .int .u8 0, .int .u8 0, .int .u8 0, .int .u8 0, .int .u8 0, .int .u8 0, .int .u8 0, .int .u8 0, .int .u8 0, .int .u8 0, .int .u8 0, .int .u8 0, .int .u8 0, .int .u8 0, .int .u8 0, .int .u8 0])).run Tryd.prog w = .ok true w := hez
  by_cases hp : placeB n i = true
  · obtain ⟨a, s, rfl, rfl, has, hs⟩ := place_nat hp
    have hc : chkP (s : Int) (a : Int) path.length = if path.length = plen a s then 0 else 70 := by unfold chkP; rw [if_pos hp, Int.toNat_natCast, Int.toNat_natCast]
    have q1 : ¬ (s : Int) < 1 := by omega
    have q2 : ¬ (65536 : Int) < (s : Int) := by omega
    have q3 : ¬ (a : Int) < 0 := by omega
    have q4 : ¬ (s : Int) ≤ (a : Int) := by omega
    have hDD : climbD (s : Int) (a : Int) leaf path = climbD (s : Int) (a : Int) leaf path ∧ (path.length ≠ plen a s → climbD (s : Int) (a : Int) leaf path = zeros) := ⟨rfl, fun h => by unfold climbD; rw [hc, if_neg h, if_neg (by decide)]⟩
    have HDD := Lib.hid hDD.2
    rw [hc] at CM
    obtain ⟨ec, hec⟩ : ∃ ec : Int, (if path.length = plen a s then (0 : Int) else 70) = ec := ⟨_, rfl⟩
    rw [hec] at CM
    have HEC := Lib.hid hec
    have hlt1 : ¬ ec = 1 := by rw [← hec]; split <;> decide
    clear hc hec hDD hp HV HU H32 hez
    generalize climbD (s : Int) (a : Int) leaf path = DD at *
    generalize zeros = Z at HDD hz32 hez2
    go_enter Tryd.func9, Tryd.ntmps9
    go_wp2_with (first
      | (go_at_call 10; refine SN.out.mono ?_; rintro e w1 ⟨rfl, hb1⟩; have HB1 := Lib.hid hb1; clear SN)
      | (go_at_call 17; refine (CM.out _ HB1.out).mono ?_; rintro e w2 ⟨rfl, hb2⟩; have HB2 := Lib.hid (HB1.out.trans (hb2.mono HB1.out.size)); clear CM)
      | (refine dg_store rfl (.tmp 9) (.tmp 30) rfl w2.heap.size _ _ (zeros32 w2) (by simp) hDl rfl rfl ?_; rintro w3 hd3 hc3; have HB3 := Lib.hid (HB2.out.trans ((chg_alloc_below hc3 rfl).mono HB2.out.size)); clear hc3))
    go_loopw [11, 12, 13] (fun x y z wr => ∃ j m k : Nat, x = .int .i64 ((cntL ((stepsL a s).take j) : Nat) : Int) ∧ y = .int .i64 (m : Int) ∧ z = .int .i64 (k : Int) ∧ m ≤ 65536 ∧ k < m ∧ (stepsL a s).drop j = stepsL k m ∧ j ≤ (stepsL a s).length ∧ wr = w3) (fun _ y _ _ => (intOf y).toNat)
    case atStart => exact ⟨0, s, a, rfl, rfl, rfl, hs, has, rfl, Nat.zero_le _, rfl⟩
    case round =>
      obtain ⟨j, m, k, rfl, rfl, rfl, hm, hkm, hd, hj, rfl⟩ := hrel
      have hcl := cnt_le (stepsL a s) j
      have hsl := steps_len s a
      by_cases h1 : 1 < m
      · have h1I : (1 : Int) < (m : Int) := by omega
        have hk2 : (stepsL a s)[j]? = some (k, m) := by
          have := List.getElem?_drop (xs := stepsL a s) (i := j) (j := 0)
          rw [hd, stepsL_cons h1] at this
          simpa using this.symm
        have hlt := (List.getElem?_eq_some_iff.1 hk2).1
        have hd2 : (stepsL a s).drop (j + 1) = stepsL (k / 2) ((m + 1) / 2) := by
          have := congrArg (List.drop 1) hd
          rw [List.drop_drop, stepsL_cons h1] at this
          simpa [Nat.add_comm] using this
        have hcnt := cnt_next hk2
        rw [show (k, m).1 = k from rfl, show (k, m).2 = m from rfl, alone_iff hkm] at hcnt
        obtain ⟨c, hc⟩ : ∃ c, cntL ((stepsL a s).take j) = c := ⟨_, rfl⟩
        rw [hc] at hcnt hcl ⊢
        have f1 : ((k : Nat) : Int).tdiv 2 = ((k / 2 : Nat) : Int) := rfl
        have f2 : IntKind.i64.wrap ((m : Int) + 1) = ((m + 1 : Nat) : Int) := by rw [IntKind.wrap_i64]; omega
        have f3 : ((m + 1 : Nat) : Int).tdiv 2 = (((m + 1) / 2 : Nat) : Int) := rfl
        have f4 : IntKind.i64.wrap ((k / 2 : Nat) : Int) = ((k / 2 : Nat) : Int) := by rw [IntKind.wrap_i64]; omega
        have f5 : IntKind.i64.wrap (((m + 1) / 2 : Nat) : Int) = (((m + 1) / 2 : Nat) : Int) := by rw [IntKind.wrap_i64]; omega
        have f6 : IntKind.i64.wrap ((c : Int) + 1) = ((c + 1 : Nat) : Int) := by rw [IntKind.wrap_i64]; omega
        have f7 : IntKind.i64.wrap ((m : Int) - 1) = ((m - 1 : Nat) : Int) := by rw [IntKind.wrap_i64]; omega
        have H1 := Lib.hid (⟨h1, hm, hkm, hd2, hlt⟩ : 1 < m ∧ m ≤ 65536 ∧ k < m ∧ (stepsL a s).drop (j + 1) = stepsL (k / 2) ((m + 1) / 2) ∧ j < (stepsL a s).length)
        have HCN := Lib.hid hcnt
        clear hd hd2 hcnt hc hk2 hcl hsl
        by_cases ev : m % 2 = 0
        · have e1 : ((m : Nat) : Int).tmod 2 = 0 := by rw [show ((m : Nat) : Int).tmod 2 = ((m % 2 : Nat) : Int) from rfl]; omega
          have hcn : cntL ((stepsL a s).take (j + 1)) = c + 1 := by rw [HCN.out, decide_eq_false (by omega)]; rfl
          have HCN := Lib.hid hcn
          clear hcn ev
          go_wp2_with fail
          go_roundw
          case rel => exact ⟨j + 1, (m + 1) / 2, k / 2, by rw [HCN.out]; go_num, by go_num, by go_num, by have := H1.out; omega, by have := H1.out; omega, H1.out.2.2.2.1, H1.out.2.2.2.2, trivial⟩
          case measure => have := H1.out; simp [intOf]; omega
        · have e1 : ((m : Nat) : Int).tmod 2 = 1 := by rw [show ((m : Nat) : Int).tmod 2 = ((m % 2 : Nat) : Int) from rfl]; omega
          by_cases ek : k = m - 1
          · have e2 : (k : Int) = ((m - 1 : Nat) : Int) := by omega
            have hcn : cntL ((stepsL a s).take (j + 1)) = c := by rw [HCN.out, decide_eq_true (by omega)]; rfl
            have HCN := Lib.hid hcn
            clear hcn ev ek
            go_wp2_with fail
            go_roundw
            case rel => exact ⟨j + 1, (m + 1) / 2, k / 2, by rw [HCN.out], by go_num, by go_num, by have := H1.out; omega, by have := H1.out; omega, H1.out.2.2.2.1, H1.out.2.2.2.2, trivial⟩
            case measure => have := H1.out; simp [intOf]; omega
          · have e2 : ¬ (k : Int) = ((m - 1 : Nat) : Int) := by omega
            have hcn : cntL ((stepsL a s).take (j + 1)) = c + 1 := by rw [HCN.out, decide_eq_false (by omega)]; rfl
            have HCN := Lib.hid hcn
            clear hcn ev ek
            go_wp2_with fail
            go_roundw
            case rel => exact ⟨j + 1, (m + 1) / 2, k / 2, by rw [HCN.out]; go_num, by go_num, by go_num, by have := H1.out; omega, by have := H1.out; omega, H1.out.2.2.2.1, H1.out.2.2.2.2, trivial⟩
            case measure => have := H1.out; simp [intOf]; omega
      · have h1I : ¬ (1 : Int) < (m : Int) := by omega
        have hcp : cntL ((stepsL a s).take j) = plen a s := by
          rw [stepsL_nil (i := k) (n := m) (by omega)] at hd
          unfold plen
          rw [List.take_of_length_le]
          have := congrArg List.length hd
          rw [List.length_drop] at this
          simp at this
          omega
        rw [hcp]
        clear hcp hd hcl hsl
        by_cases hpl : path.length = plen a s
        · have hplI : (path.length : Int) = ((plen a s : Nat) : Int) := by omega
          have he0 : ec = 0 := by rw [← HEC.out, if_pos hpl]
          subst he0
          rw [← hpl]
          clear hplI hpl
          go_wp2_with fail
          all_goals (go_ret; exact ⟨rfl, HB3.out⟩)
        · have hplI : ¬ (path.length : Int) = ((plen a s : Nat) : Int) := by omega
          have he0 : ec = 70 := by rw [← HEC.out, if_neg hpl]
          subst he0
          have hDz := HDD.out hpl
          subst hDz
          generalize plen a s = pl at *
          clear hpl
          go_wp2_with (refine dg_loadg rfl (.tmp 9) rfl w2.heap.size DD hd3.out hz32 rfl ?_)
          all_goals (go_ret; exact ⟨rfl, HB3.out⟩)
  · have hc : chkP n i path.length = 1 := by unfold chkP; rw [if_neg hp]
    have hD : climbD n i leaf path = zeros := by unfold climbD; rw [hc]; rfl
    have hq : n < 1 ∨ 65536 < n ∨ i < 0 ∨ n ≤ i := by
      unfold placeB at hp
      simp at hp
      omega
    rw [hc, hD] at CM
    clear hc hD hDl hp b1 b2 HV HU H32 hez
    generalize zeros = Z at CM hz32 hez2
    rcases hq with hq | hq | hq | hq
    all_goals
      go_enter Tryd.func9, Tryd.ntmps9
      go_wp2_with (first
        | (go_at_call 10; refine SN.out.mono ?_; rintro e w1 ⟨rfl, hb1⟩; have HB1 := Lib.hid hb1; clear SN)
        | (go_at_call 17; refine (CM.out _ HB1.out).mono ?_; rintro e w2 ⟨rfl, hb2⟩; have HB2 := Lib.hid (HB1.out.trans (hb2.mono HB1.out.size)); clear CM)
        | (refine dg_store rfl (.tmp 9) (.tmp 30) rfl w2.heap.size _ _ (zeros32 w2) (by simp) hz32 rfl rfl ?_; rintro w3 hd3 hc3)
        | (refine dg_loadg rfl (.tmp 9) rfl w2.heap.size Z hd3.out hz32 rfl ?_))
      all_goals (go_ret; exact ⟨rfl, HB2.out.trans ((chg_alloc_below hc3 rfl).mono HB2.out.size)⟩)
theorem length_law (n i : Int) (v : Value) (leaf : List UInt8) (u : Value) (path : List (List UInt8)) (w : World) (hn : -9223372036854775808 ≤ n ∧ n ≤ 9223372036854775807) (hi : -9223372036854775808 ≤ i ∧ i ≤ 9223372036854775807) (hv' : BV w v leaf) (hu : LD w u path) (h32 : D32 path) (hk : KOK w) : Calls Tryd.prog 9 #[.int .i64 n, .int .i64 i, v, u] w (Ret (.bool true) w) :=
  length_any n i v u leaf path w hv' hu h32 hk hn.1 hn.2 hi.1 hi.2
end Go.Proofs.YteeabenmfmeooaaDoor
