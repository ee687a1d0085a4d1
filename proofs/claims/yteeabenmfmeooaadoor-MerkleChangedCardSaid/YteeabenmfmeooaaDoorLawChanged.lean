/-
  Merkle: the law MerkleChanged.
-/
import Derived.Test.YteeabenmfmeooaaDoorLawBound
import Derived.Test.YteeabenmfmeooaaDoorLawProve
namespace Go.Proofs.YteeabenmfmeooaaDoor
open Go Go.RowKit
theorem info34 : (Tryd.prog.info? 34).map (fun i => (i.size, i.bytes, i.zero)) = some (1, 24, some (.slice none 0 0)) := by kernel_rfl
theorem lb_vals {w : World} {v : Value} {l : List (List UInt8)} (h : LB w v l) : ∃ us : List Value, us.length = l.length ∧ (∀ w', Below w.heap.size w w' → Src Tryd.prog 1 22 v l.length us w') ∧ ∀ (k : Nat) (x : List UInt8), l[k]? = some x → ∃ u, us[k]? = some u ∧ BV w u x := by
  obtain ⟨b, cap, p, rfl, h1, h2, h3, h4⟩ := h
  rcases h4 with rfl | ⟨o, rfl, hlt, hc⟩
  · refine ⟨[], rfl, fun w' _ => ?_, fun k x hk => by simp at hk⟩
    cases p with
    | none => exact Src.ofNil w' Tryd.underlying22 _
    | some a => exact Src.ofSlice w' Tryd.underlying22 a 0 cap [] rfl (fun j u hj => by simp at hj) (fun u hu => by cases hu)
  · have key : ∀ i, i < l.length → ∃ u, w.cell? ⟨b, o + i, none⟩ = some u ∧ ∀ x, l[0 + i]? = some x → BV w u x := fun i hi => by
      obtain ⟨u, hu, hx⟩ := hc i l[i] (List.getElem?_eq_getElem hi)
      refine ⟨u, hu, fun x hx2 => ?_⟩
      rw [Nat.zero_add, List.getElem?_eq_getElem hi] at hx2
      cases hx2
      exact hx
    have mk : ∀ n, n ≤ l.length → ∃ us : List Value, us.length = n ∧ ∀ (i : Nat) (u : Value), us[i]? = some u → w.cell? ⟨b, o + i, none⟩ = some u ∧ ∀ x, l[i]? = some x → BV w u x := by
      intro n
      induction n with
      | zero => exact fun _ => ⟨[], rfl, fun i u hi => by simp at hi⟩
      | succ n ih =>
        intro hn
        obtain ⟨us, hl, hu⟩ := ih (by omega)
        obtain ⟨u, h5, h6⟩ := key n (by omega)
        refine ⟨us ++ [u], by simp [hl], fun i u' hi => ?_⟩
        by_cases hin : i < n
        · rw [List.getElem?_append_left (by omega)] at hi
          exact hu i u' hi
        · rw [List.getElem?_append_right (by omega)] at hi
          obtain rfl : i = n := by
            have := (List.getElem?_eq_some_iff.1 hi).1
            simp at this
            omega
          rw [hl, Nat.sub_self] at hi
          cases hi
          rw [Nat.zero_add] at h6
          exact ⟨h5, h6⟩
    obtain ⟨us, hl, hu⟩ := mk l.length (Nat.le_refl _)
    refine ⟨us, hl, fun w' hb => Src.ofSlice w' Tryd.underlying22 _ l.length cap us (by rw [hl]; omega) (fun j u hj => ?_) (fun u hm => ?_), fun k x hk => ?_⟩
    · rw [Addr.add_lit]
      exact (hb.cell (p := ⟨b, o + j, none⟩) hlt).trans (hu j u hj).1
    · obtain ⟨j, hj⟩ := List.mem_iff_getElem?.1 hm
      have hjl := (List.getElem?_eq_some_iff.1 hj).1
      obtain ⟨_, c', p', e, _⟩ := (hu j u hj).2 l[j] (List.getElem?_eq_getElem (by omega))
      rw [e]
      rfl
    · have hkl := (List.getElem?_eq_some_iff.1 hk).1
      obtain ⟨u, h5⟩ : ∃ u, us[k]? = some u := ⟨_, List.getElem?_eq_getElem (by omega)⟩
      exact ⟨u, h5, (hu k u h5).2 x hk⟩
theorem lists_own {ops : Array Oper} {rest : List Oper} {o : Oper} {a : Act} {w : World} {Q : Exit → Act → World → Prop} (hgd : o.guard = none) (s x : Operand) (ho : o.op = .call { callee := .builtin .append, args := #[s, x], argTypes := #[22, 22] })
    (v xv : Value) (us : List Value) (m : Nat) (hs : a.eval s = v) (hown : Own w v []) (hx : a.eval x = xv) (hb : Src Tryd.prog 1 22 xv m us w) (hm : us.length = m) (hl : m ≤ 1000000)
    (h : ∀ v' w', Hid (Own w' v' us) → w.grownBy w' v.ownBlock → (v'.ownBlock = v.ownBlock ∨ ∃ k, v'.ownBlock = some k ∧ w.heap.size ≤ k) → wpList Tryd.prog ops Q rest (a.put o.dst v') w') : wpList Tryd.prog ops Q (o :: rest) a w := by
  have h5 := info34
  cases hi : Tryd.prog.info? 34 with
  | none => rw [hi] at h5; cases h5
  | some i =>
    rw [hi] at h5
    simp only [Option.map_some, Option.some.injEq, Prod.mk.injEq] at h5
    obtain ⟨s1, s2, s3⟩ := h5
    refine wpList_own hgd s x 22 22 ho 34 i _ 24 Tryd.underlying22 hi s3 s1 s2 rfl v xv [] hs hown m us hx hb (by simp; unfold maxLen; omega) (by simp; omega) ?_
    intro v' w' h1 h2 h3
    exact h v' w' (Lib.hid (by simpa using h1)) h2 h3
theorem own_some {w : World} {v : Value} {xs : List Value} {m : Nat} (h : Own w v xs) (hl : xs.length = m) (hm : 0 < m) : ∃ g cap, v = .slice (some ⟨g, 0, none⟩) m cap ∧ OwnAt w g cap xs := by
  rcases h with ⟨_, h0⟩ | ⟨g, cap, e, ho⟩
  · rw [h0] at hl; simp at hl; omega
  · exact ⟨g, cap, by rw [← hl]; exact e, ho⟩
theorem own_empty34 (w : World) : Own (w.alloc (.cells #[] 34)) (.slice (some ⟨w.heap.size, 0, none⟩) 0 0) [] := Own.made w #[] 34 0 (by simp) (by simp)
theorem own_new34 {W : World} {g m cap Z : Nat} (hvm : (Value.slice (some ⟨g, 0, none⟩) m cap).ownBlock = (Value.slice (some ⟨W.heap.size, 0, none⟩) 0 0).ownBlock ∨ ∃ k, (Value.slice (some ⟨g, 0, none⟩) m cap).ownBlock = some k ∧ Z ≤ k) (hZ : W.heap.size ≤ Z) : W.heap.size ≤ g := by
  rcases hvm with h | ⟨k', h, h'⟩
  · have : g = W.heap.size := by simpa [Value.ownBlock] using h
    omega
  · have : g = k' := by simpa [Value.ownBlock] using h
    omega
theorem lb_set {w U : World} {l : List (List UInt8)} {us : List Value} {g cap a : Nat} {v : Value} {y : List UInt8} (hus : ∀ (k : Nat) (x : List UInt8), l[k]? = some x → ∃ u, us[k]? = some u ∧ BV w u x) (hl : us.length = l.length) (ho : OwnAt U g cap us) (hB : Below w.heap.size w U) (hg : w.heap.size ≤ g) (hb : BV w v y) (ha : a < l.length) :
    LB (U.setCell ⟨g, a, none⟩ v) (.slice (some ⟨g, 0, none⟩) l.length cap) (l.set a y) ∧ Below w.heap.size w (U.setCell ⟨g, a, none⟩ v) := by
  have hB2 : Below w.heap.size w (U.setCell ⟨g, a, none⟩ v) := below_set hB hg v
  have hle := ho.le
  have hmx := ho.mx
  refine ⟨⟨g, cap, _, by rw [List.length_set], by rw [List.length_set]; omega, hmx, (fun e => by cases e), .inr ⟨0, rfl, by rw [World.size_setCell]; exact ho.lt, fun k x hk => ?_⟩⟩, hB2⟩
  rw [Nat.zero_add]
  by_cases hka : k = a
  · subst hka
    rw [List.getElem?_set_self ha] at hk
    cases hk
    exact ⟨v, World.cell?_setCell_same' _ _ _ (ho.there k (by omega)), hb.below hB2⟩
  · rw [List.getElem?_set_ne (fun e => hka e.symm)] at hk
    obtain ⟨u, hu, hx⟩ := hus k x hk
    refine ⟨u, ?_, hx.below hB2⟩
    have hc := ho.cells k u hu
    rw [World.cell?_setCell_other U _ _ v (by intro e; cases e; exact hka rfl)]
    exact hc
end Go.Proofs.YteeabenmfmeooaaDoor
namespace Go.Proofs.YteeabenmfmeooaaDoor
open Go Go.RowKit
theorem Later.calls2 {P : Program} {f : FuncId} {args : Array Value} {w : World} {x : Later w} {v : Value} (h : Calls P f args x.v (fun e w' => e = .returned v ∧ w' = x.v)) :
    Calls P f args x.v (fun e w' => e = .returned v ∧ ∃ y : Later w, w' = y.v) := h.mono fun e w' ⟨h1, h2⟩ => ⟨h1, x, h2⟩
theorem changed_clash {l : List (List UInt8)} {a : Nat} {x y : List UInt8} (hx : l[a]? = some x) (hs : l.length ≤ 65536) (hne : ¬ x = y) (hr : rootD l = rootD (l.set a y)) :
    collB (l.length : Int) (a : Int) x y (pathL a l) (pathL a (l.set a y)) = true := by
  have ha := (List.getElem?_eq_some_iff.1 hx).1
  have h1 := climbD_yes hx hs
  have h2 := climbD_yes (l := l.set a y) (a := a) (x := y) (List.getElem?_set_self ha) (by rw [List.length_set]; exact hs)
  rw [List.length_set] at h2
  unfold collB
  rw [decide_eq_true h1.2, decide_eq_true h2.2, h1.1, h2.1, hr, beq_self_eq_true, beq_false_of_ne hne]
  rfl
set_option maxRecDepth 100000 in
set_option maxHeartbeats 8000000 in
theorem changed_law (v : Value) (l : List (List UInt8)) (i : Int) (u : Value) (y : List UInt8) (w : World) (hv' : LB w v l) (_hi : -9223372036854775808 ≤ i ∧ i ≤ 9223372036854775807) (hu : BV w u y) (hk : KOK w) : Calls Tryd.prog 7 #[v, .int .i64 i, u] w (Ret (.bool true) w) := by
  have HV := Lib.hid hv'
  have HO := Lib.hid hu
  have HK := Lib.hid hk
  have SN := Lib.hid (sane_any w hk)
  have FW := Lib.hid fun (U : World) (hb : Below w.heap.size w U) => few_any v l U (hv'.below hb)
  obtain ⟨p, c, hvf⟩ : ∃ p c, v = .slice p l.length c := by
    obtain ⟨_, c, p, e, _⟩ := hv'
    exact ⟨p, c, e⟩
  obtain ⟨p2, c2, rfl⟩ := bv_form hu
  clear hv' hk hu
  cases hf : fewB l
  · rw [hf] at FW
    subst hvf
    go_enter Tryd.func7, Tryd.ntmps7
    go_wp2_with (go_at_call 10; refine SN.out.mono ?_; rintro e w1 ⟨rfl, hb1⟩; have HB1 := Lib.hid hb1; clear SN)
    have FL := Lib.hid fun x : Later w1 => FW.out x.v (HB1.out.trans (x.b.mono HB1.out.size))
    refine wp_region_later (by kernel_rfl) (by kernel_rfl) ?_
    repeat (go_big_quiet_step ((go_at_call 11; exact Later.calls2 (FL.out _))))
    refine wpQuiet_nil ?_
    intro _ hw'
    obtain ⟨z, hz⟩ := hw'
    subst hz
    go_wp2_with fail
    go_ret
    exact ⟨rfl, HB1.out.trans (z.b.mono HB1.out.size)⟩
  have hfy := few_yes hf
  rw [hf] at FW
  by_cases k1 : 200 < y.length
  · have k1I : decide ((200 : Int) < (y.length : Int)) = true := by simp; omega
    subst hvf
    clear hfy
    go_enter Tryd.func7, Tryd.ntmps7
    go_wp2_with (go_at_call 10; refine SN.out.mono ?_; rintro e w1 ⟨rfl, hb1⟩; have HB1 := Lib.hid hb1; clear SN)
    have FL := Lib.hid fun x : Later w1 => FW.out x.v (HB1.out.trans (x.b.mono HB1.out.size))
    refine wp_region_later (by kernel_rfl) (by kernel_rfl) ?_
    repeat (go_big_quiet_step ((go_at_call 11; exact Later.calls2 (FL.out _))))
    refine wpQuiet_nil ?_
    intro _ hw'
    obtain ⟨z, hz⟩ := hw'
    subst hz
    go_wp2_with fail
    go_ret
    exact ⟨rfl, HB1.out.trans (z.b.mono HB1.out.size)⟩
  have k1I : decide ((200 : Int) < (y.length : Int)) = false := by simp; omega
  by_cases k2 : i < 0
  · subst hvf
    have k2I : decide (i < 0) = true := by simp; omega
    clear hfy
    go_enter Tryd.func7, Tryd.ntmps7
    go_wp2_with (go_at_call 10; refine SN.out.mono ?_; rintro e w1 ⟨rfl, hb1⟩; have HB1 := Lib.hid hb1; clear SN)
    have FL := Lib.hid fun x : Later w1 => FW.out x.v (HB1.out.trans (x.b.mono HB1.out.size))
    refine wp_region_later (by kernel_rfl) (by kernel_rfl) ?_
    repeat (go_big_quiet_step ((go_at_call 11; exact Later.calls2 (FL.out _))))
    refine wpQuiet_nil ?_
    intro _ hw'
    obtain ⟨z, hz⟩ := hw'
    subst hz
    go_wp2_with fail
    go_ret
    exact ⟨rfl, HB1.out.trans (z.b.mono HB1.out.size)⟩
  have k2I : decide (i < 0) = false := by simp; omega
  by_cases k3 : (l.length : Int) ≤ i
  · subst hvf
    have k3I : decide ((l.length : Int) ≤ i) = true := by simp; omega
    clear hfy
    go_enter Tryd.func7, Tryd.ntmps7
    go_wp2_with (go_at_call 10; refine SN.out.mono ?_; rintro e w1 ⟨rfl, hb1⟩; have HB1 := Lib.hid hb1; clear SN)
    have FL := Lib.hid fun x : Later w1 => FW.out x.v (HB1.out.trans (x.b.mono HB1.out.size))
    refine wp_region_later (by kernel_rfl) (by kernel_rfl) ?_
    repeat (go_big_quiet_step ((go_at_call 11; exact Later.calls2 (FL.out _))))
    refine wpQuiet_nil ?_
    intro _ hw'
    obtain ⟨z, hz⟩ := hw'
    subst hz
    go_wp2_with fail
    go_ret
    exact ⟨rfl, HB1.out.trans (z.b.mono HB1.out.size)⟩
  have k3I : decide ((l.length : Int) ≤ i) = false := by simp; omega
  obtain ⟨a, rfl⟩ : ∃ a : Nat, i = (a : Int) := ⟨i.toNat, by omega⟩
  have ha : a < l.length := by omega
  have haL : (a : Int) < (l.length : Int) := by omega
  have k3N : decide (l.length ≤ a) = false := by simp; omega
  obtain ⟨x, hx⟩ : ∃ x, l[a]? = some x := ⟨_, List.getElem?_eq_getElem ha⟩
  have hxl := hfy.2 x (List.mem_of_getElem? hx)
  obtain ⟨b, cap, p', hve, hc1, hc2, _, hc4⟩ := HV.out
  rcases hc4 with hnil | ⟨o, hp', hblt, hcc⟩
  · rw [hnil] at ha; simp at ha
  rw [hve] at hvf
  cases hvf
  subst hp'
  subst hve
  obtain ⟨vx, hvx, hbx⟩ := hcc a x hx
  have HBX := Lib.hid hbx
  obtain ⟨p0, c0, rfl⟩ := bv_form hbx
  have HFY := Lib.hid hfy
  have HX := Lib.hid hx
  clear hcc hbx hfy hf hx hxl
  by_cases k4 : x = y
  · subst k4
    clear HV HX HFY
    go_enter Tryd.func7, Tryd.ntmps7
    go_wp2_with (go_at_call 10; refine SN.out.mono ?_; rintro e w1 ⟨rfl, hb1⟩; have HB1 := Lib.hid hb1; clear SN)
    have FL := Lib.hid fun x : Later w1 => FW.out x.v (HB1.out.trans (x.b.mono HB1.out.size))
    have t1 := fun x : Later w1 => (x.b.cell (p := ⟨b, o + a, none⟩) (Nat.lt_of_lt_of_le hblt HB1.out.size)).trans ((HB1.out.cell (p := ⟨b, o + a, none⟩) hblt).trans hvx)
    have S1 := fun x : Later w1 => bv_string (HBX.out.below (HB1.out.trans (x.b.mono HB1.out.size)))
    have S2 := fun x : Later w1 => bv_string (HO.out.below (HB1.out.trans (x.b.mono HB1.out.size)))
    refine wp_region_later (by kernel_rfl) (by kernel_rfl) ?_
    repeat (go_big_quiet_step ((go_at_call 11; exact Later.calls2 (FL.out _))))
    refine wpQuiet_nil ?_
    intro _ hw'
    obtain ⟨z, hz⟩ := hw'
    subst hz
    go_wp2_with fail
    go_ret
    exact ⟨rfl, HB1.out.trans (z.b.mono HB1.out.size)⟩
  have hxy : (x == y) = false := by simpa using k4
  have hN := HFY.out.1
  have hs : l.length ≤ 65536 := by omega
  have ones1 : ∀ z ∈ l, z.length ≤ 1000000 := fun z hz => by have := HFY.out.2 z hz; omega
  have hyl : y.length ≤ 200 := by omega
  have ones2 : ∀ z ∈ l.set a y, z.length ≤ 1000000 := fun z hz => by
    rcases List.mem_or_eq_of_mem_set hz with h | h
    · exact ones1 z h
    · subst h; omega
  have hml : (l.set a y).length = l.length := List.length_set ..
  have hma : (l.set a y)[a]? = some y := List.getElem?_set_self ha
  have hxl := ones1 x (List.mem_of_getElem? HX.out)
  have HR1 := Lib.hid fun (U : World) (hb : Below w.heap.size w U) => Root_any _ l U (HV.out.below hb) (by omega) ones1 (HK.out.below hb)
  have HR2 := Lib.hid fun (U : World) (vm : Value) (hb : Below w.heap.size w U) (hm : LB U vm (l.set a y)) => Root_any vm (l.set a y) U hm (by omega) ones2 (HK.out.below hb)
  have hd1 := proveD_yes (l := l) (a := a) ha hs
  have hd2 := proveD_yes (l := l.set a y) (a := a) (by omega) (by omega)
  have HP1 := Lib.hid fun (U : World) (hb : Below w.heap.size w U) => Prove_any _ l (a : Int) U (HV.out.below hb) ones1 (HK.out.below hb)
  have HP2 := Lib.hid fun (U : World) (vm : Value) (hb : Below w.heap.size w U) (hm : LB U vm (l.set a y)) => Prove_any vm (l.set a y) (a : Int) U hm ones2 (HK.out.below hb)
  rw [hd1.1, hd1.2] at HP1
  rw [hd2.1, hd2.2] at HP2
  have hq1 := d32_path l a ha
  have hq2 := d32_path (l.set a y) a (by omega)
  have hlA := rootD_len l
  have hlB := rootD_len (l.set a y)
  have hEQ := fun (U : World) => dg_equal _ _ hlA hlB U
  have HCX := Lib.hid fun (U : World) (hb : Below w.heap.size w U) => (hb.cell (p := ⟨b, o + a, none⟩) hblt).trans hvx
  have HA := Lib.hid ha
  have HCL := Lib.hid (changed_clash HX.out hs k4)
  have hpl1 := (climb_root l a x HX.out).2
  have hpl2 := (climb_root (l.set a y) a y hma).2
  rw [hml] at hpl2
  clear hd1 hd2 ones1 ones2 hma HX HFY k4 ha hml
  by_cases hr : rootD l = rootD (l.set a y)
  · have CO := Lib.hid fun (U : World) (v1 v2 v3 v4 : Value) (hb : Below w.heap.size w U) (h1 : BV U v1 x) (h2 : BV U v2 y) (h3 : LD U v3 (pathL a l)) (h4 : LD U v4 (pathL a (l.set a y))) => Collide_yes l.length a v1 v2 v3 v4 x y _ _ U h1 h2 (by omega) (by omega) h3 h4 hq1 hq2 (HK.out.below hb) (HCL.out hr)
    obtain ⟨j, s, hj, hs', hjs, _, e1, e2, _, _, _, hcl⟩ := collB_yes (HCL.out hr)
    obtain rfl : a = j := by omega
    obtain rfl : l.length = s := by omega
    have hclash := co_clash hq1 hq2 e1 e2 (by simpa using hxy) hcl
    obtain ⟨hlX, hlY⟩ := co_lens (a := x) (b := y) hq1 hq2 e1 e2 (by omega) (by omega)
    have hXY : (coX a l.length x y (pathL a l) (pathL a (l.set a y)) == coY a l.length x y (pathL a l) (pathL a (l.set a y))) = false := by simpa using hclash.1
    have hSS := hclash.2
    have SX := Lib.hid fun (U : World) (vx : Value) (hb : Below w.heap.size w U) (h : BV U vx (coX a l.length x y (pathL a l) (pathL a (l.set a y)))) => sum_any vx _ U h (by omega) (HK.out.below hb)
    have SY := Lib.hid fun (U : World) (vx : Value) (hb : Below w.heap.size w U) (h : BV U vx (coY a l.length x y (pathL a l) (pathL a (l.set a y)))) => sum_any vx _ U h (by omega) (HK.out.below hb)
    unfold ShaR at SX SY
    rw [hSS] at SX
    have hlS := sha_len (coY a l.length x y (pathL a l) (pathL a (l.set a y)))
    have hES : ∀ w, (Op.equalIn 10000 30 (dgv (sha (coY a l.length x y (pathL a l) (pathL a (l.set a y))))) (dgv (sha (coY a l.length x y (pathL a l) (pathL a (l.set a y)))))).run Tryd.prog w = .ok true w := fun w => by rw [dg_equal _ _ hlS hlS, beq_self_eq_true]
    rw [hr, beq_self_eq_true] at hEQ
    rw [hr] at HR1
    clear hr hcl hclash hSS hlX hlY hlS e1 e2 hlA hlB hjs hj hs' HCL hpl1 hpl2 hq1 hq2
    generalize coX a l.length x y (pathL a l) (pathL a (l.set a y)) = X at *
    generalize coY a l.length x y (pathL a l) (pathL a (l.set a y)) = Y at *
    generalize sha Y = DS at *
    generalize rootD (l.set a y) = R2 at *
    generalize pathL a l = P at *
    generalize pathL a (l.set a y) = Q at *
    go_enter Tryd.func7, Tryd.ntmps7
    go_wp2_with (go_at_call 10; refine SN.out.mono ?_; rintro e w1 ⟨rfl, hb1⟩; have HB1 := Lib.hid hb1; clear SN)
    have FL := Lib.hid fun x : Later w1 => FW.out x.v (HB1.out.trans (x.b.mono HB1.out.size))
    have t1 := fun x : Later w1 => (x.b.cell (p := ⟨b, o + a, none⟩) (Nat.lt_of_lt_of_le hblt HB1.out.size)).trans ((HB1.out.cell (p := ⟨b, o + a, none⟩) hblt).trans hvx)
    have S1 := fun x : Later w1 => bv_string (HBX.out.below (HB1.out.trans (x.b.mono HB1.out.size)))
    have S2 := fun x : Later w1 => bv_string (HO.out.below (HB1.out.trans (x.b.mono HB1.out.size)))
    refine wp_region_later (by kernel_rfl) (by kernel_rfl) ?_
    repeat (go_big_quiet_step ((go_at_call 11; exact Later.calls2 (FL.out _))))
    refine wpQuiet_nil ?_
    intro _ hw'
    obtain ⟨z, hz⟩ := hw'
    subst hz
    have HBZ := Lib.hid (HB1.out.trans (z.b.mono HB1.out.size))
    obtain ⟨us, hus, hsrc, hval⟩ := lb_vals (HV.out.below HBZ.out)
    have HVAL := Lib.hid hval
    have HUS := Lib.hid hus
    have HSRC := Lib.hid (hsrc _ (one_new z.v (.cells #[] 34)))
    clear hval hsrc t1 S1 S2 FL hus
    generalize z.v = W at *
    go_upto_region 7 with (refine lists_own rfl (.tmp 45) (.tmp 46) rfl _ _ us l.length rfl (own_empty34 W) rfl HSRC.out HUS.out (by omega) ?_; rintro vm w4 hom hgm hvm; obtain ⟨g, cap, rfl, hOA⟩ := own_some hom.out HUS.out (Nat.lt_of_le_of_lt (Nat.zero_le a) HA.out); obtain ⟨u0, ct⟩ := Option.isSome_iff_exists.1 (hOA.there a (Nat.lt_of_lt_of_le HA.out (by rw [← HUS.out]; exact hOA.le))); have cf := hOA.free a; have HOA := Lib.hid hOA; have HGM := Lib.hid (grown_below (one_new W (.cells #[] 34)) (one_new W (.cells #[] 34)).size hgm (fun k e => by cases e; exact Nat.le_refl _)); have hgg := own_new34 hvm (one_new W (.cells #[] 34)).size; clear hom hgm hvm hOA)
    obtain ⟨hlm, hB5⟩ := lb_set (v := .slice p2 y.length c2) HVAL.out HUS.out HOA.out HGM.out hgg (HO.out.below HBZ.out) HA.out
    have LM := Lib.hid hlm
    have HB5 := Lib.hid (HBZ.out.trans (hB5.mono HBZ.out.size))
    clear hlm hB5 ct cf HOA HGM HVAL HSRC
    generalize w4.setCell ⟨g, a, none⟩ (.slice p2 y.length c2) = W5 at *
    go_wp2_with (first
      | (go_at_call 14; refine (HR1.out _ HB5.out).mono ?_; rintro e w6 ⟨rfl, hb6⟩; have HB6 := Lib.hid (HB5.out.trans (hb6.mono HB5.out.size)); have LM6 := Lib.hid (LM.out.below hb6); clear HR1)
      | (go_at_call 14; refine (HR2.out _ _ HB6.out LM6.out).mono ?_; rintro e w7 ⟨rfl, hb7⟩; have HB7 := Lib.hid (HB6.out.trans (hb7.mono HB6.out.size)); have LM7 := Lib.hid (LM6.out.below hb7); clear HR2)
      | (go_at_call 12; refine (HP1.out _ HB7.out).mono ?_; rintro e w8 ⟨v8, rfl, hR8⟩; obtain ⟨p8, c8, rfl⟩ := own_form hR8.out.own; have HB8 := Lib.hid (HB7.out.trans (hR8.out.below.mono HB7.out.size)); have LM8 := Lib.hid (LM7.out.below hR8.out.below); have LP8 := Lib.hid (own_ld hR8.out.own); clear HP1 hR8)
      | (go_at_call 12; refine (HP2.out _ _ HB8.out LM8.out).mono ?_; rintro e w9 ⟨v9, rfl, hR9⟩; obtain ⟨p9, c9, rfl⟩ := own_form hR9.out.own; have HB9 := Lib.hid (HB8.out.trans (hR9.out.below.mono HB8.out.size)); have LP9 := Lib.hid (LP8.out.below hR9.out.below); have LQ9 := Lib.hid (own_ld hR9.out.own); have hcx := HCX.out _ HB9.out; clear HP2 hR9)
      | (go_at_call 19; refine (CO.out _ _ _ _ _ HB9.out (HBX.out.below HB9.out) (HO.out.below HB9.out) LP9.out LQ9.out).mono ?_; rintro e w10 ⟨rx, ry, rfl, hx7, hy7, hb10⟩; have HB10 := Lib.hid (HB9.out.trans (hb10.mono HB9.out.size)); have HX7 := hx7; have HY7 := hy7; obtain ⟨rpx, rcx, rfl⟩ := bv_form hx7.out; obtain ⟨rpy, rcy, rfl⟩ := bv_form hy7.out; have S3 := bv_string hx7.out; have S4 := bv_string hy7.out; clear CO hx7 hy7)
      | (go_at_call 21; refine (SX.out _ _ HB10.out HX7.out).mono ?_; rintro e w11 ⟨rfl, hb11⟩; have HB11 := Lib.hid (HB10.out.trans (hb11.mono HB10.out.size)); have HY8 := Lib.hid (HY7.out.below hb11); clear SX)
      | (go_at_call 21; refine (SY.out _ _ HB11.out HY8.out).mono ?_; rintro e w12 ⟨rfl, hb12⟩; have HB12 := Lib.hid (HB11.out.trans (hb12.mono HB11.out.size))))
    go_ret
    exact ⟨rfl, HB12.out⟩
  · have hbq : (rootD l == rootD (l.set a y)) = false := by simpa using hr
    rw [hbq] at hEQ
    clear hr hbq HCL hpl1 hpl2 hq1 hq2 HP1 HP2
    generalize rootD (l.set a y) = R2 at *
    generalize rootD l = R1 at *
    go_enter Tryd.func7, Tryd.ntmps7
    go_wp2_with (go_at_call 10; refine SN.out.mono ?_; rintro e w1 ⟨rfl, hb1⟩; have HB1 := Lib.hid hb1; clear SN)
    have FL := Lib.hid fun x : Later w1 => FW.out x.v (HB1.out.trans (x.b.mono HB1.out.size))
    have t1 := fun x : Later w1 => (x.b.cell (p := ⟨b, o + a, none⟩) (Nat.lt_of_lt_of_le hblt HB1.out.size)).trans ((HB1.out.cell (p := ⟨b, o + a, none⟩) hblt).trans hvx)
    have S1 := fun x : Later w1 => bv_string (HBX.out.below (HB1.out.trans (x.b.mono HB1.out.size)))
    have S2 := fun x : Later w1 => bv_string (HO.out.below (HB1.out.trans (x.b.mono HB1.out.size)))
    refine wp_region_later (by kernel_rfl) (by kernel_rfl) ?_
    repeat (go_big_quiet_step ((go_at_call 11; exact Later.calls2 (FL.out _))))
    refine wpQuiet_nil ?_
    intro _ hw'
    obtain ⟨z, hz⟩ := hw'
    subst hz
    have HBZ := Lib.hid (HB1.out.trans (z.b.mono HB1.out.size))
    obtain ⟨us, hus, hsrc, hval⟩ := lb_vals (HV.out.below HBZ.out)
    have HVAL := Lib.hid hval
    have HUS := Lib.hid hus
    have HSRC := Lib.hid (hsrc _ (one_new z.v (.cells #[] 34)))
    clear hval hsrc t1 S1 S2 FL hus
    generalize z.v = W at *
    go_upto_region 7 with (refine lists_own rfl (.tmp 45) (.tmp 46) rfl _ _ us l.length rfl (own_empty34 W) rfl HSRC.out HUS.out (by omega) ?_; rintro vm w4 hom hgm hvm; obtain ⟨g, cap, rfl, hOA⟩ := own_some hom.out HUS.out (Nat.lt_of_le_of_lt (Nat.zero_le a) HA.out); obtain ⟨u0, ct⟩ := Option.isSome_iff_exists.1 (hOA.there a (Nat.lt_of_lt_of_le HA.out (by rw [← HUS.out]; exact hOA.le))); have cf := hOA.free a; have HOA := Lib.hid hOA; have HGM := Lib.hid (grown_below (one_new W (.cells #[] 34)) (one_new W (.cells #[] 34)).size hgm (fun k e => by cases e; exact Nat.le_refl _)); have hgg := own_new34 hvm (one_new W (.cells #[] 34)).size; clear hom hgm hvm hOA)
    obtain ⟨hlm, hB5⟩ := lb_set (v := .slice p2 y.length c2) HVAL.out HUS.out HOA.out HGM.out hgg (HO.out.below HBZ.out) HA.out
    have LM := Lib.hid hlm
    have HB5 := Lib.hid (HBZ.out.trans (hB5.mono HBZ.out.size))
    clear hlm hB5 ct cf HOA HGM HVAL HSRC
    generalize w4.setCell ⟨g, a, none⟩ (.slice p2 y.length c2) = W5 at *
    go_wp2_with (first
      | (go_at_call 14; refine (HR1.out _ HB5.out).mono ?_; rintro e w6 ⟨rfl, hb6⟩; have HB6 := Lib.hid (HB5.out.trans (hb6.mono HB5.out.size)); have LM6 := Lib.hid (LM.out.below hb6); clear HR1)
      | (go_at_call 14; refine (HR2.out _ _ HB6.out LM6.out).mono ?_; rintro e w7 ⟨rfl, hb7⟩; have HB7 := Lib.hid (HB6.out.trans (hb7.mono HB6.out.size))))
    go_ret
    exact ⟨rfl, HB7.out⟩
end Go.Proofs.YteeabenmfmeooaaDoor
