/-
  Digest: Climb.
-/
import Derived.Test.YtekboemijafplaaDoorCl
import Derived.Laws.ResultCell
namespace Go.Proofs.YtekboemijafplaaDoor
open Go Go.RowKit
theorem res2 {fn : Func} {p u : Tmp} (h : fn.results = #[.cell p 26, .tmp u]) (tmps : Array Value) (w : World) (g : Nat) (l : List UInt8) (hp : tmps.getD p undef = .pointer (some ⟨g, 0, none⟩)) (hg : Dg w g l) (hl : l.length = 32) :
    (results fn tmps).run Tryd.prog w = .ok (.tuple #[dgv l, tmps.getD u undef]) w := by
  have h1 := run_loadVar_row (P := Tryd.prog) w g 26 26 (l.map byt).toArray (0, 0) _ hg Tryd.underlying26 rfl (dg_size hl)
  rw [results_cell_tmp h, hp]
  simp [asAddr, h1, Result.andThen]
def ClimbR (r : List UInt8) (e' : Int) (w : World) (e : Ending) (w' : World) : Prop := e = .returned (.tuple #[dgv r, .int .i64 e']) ∧ Below w.heap.size w w'
def zeros : List UInt8 := List.replicate 32 0
set_option maxRecDepth 100000 in
set_option maxHeartbeats 1000000 in
theorem climb_ok (d : List UInt8) (at' n : Nat) (p : List (List UInt8)) (v : Value) (w : World) (h1 : 1 ≤ n) (h64 : n ≤ 64) (hat : at' < n) (hd : d.length = 32) (h32 : D32 p) (hp : p.length = PL at' n) (hv : LD w v p) (hk : KOK w) :
    Calls Tryd.prog 22 #[dgv d, .int .i64 (at' : Int), .int .i64 (n : Int), v] w (ClimbR (CL d at' n p) 0 w) := by
  have hform : ∃ q cap, v = .slice q p.length cap := by
    obtain ⟨b, cap, q, rfl, _⟩ := hv
    exact ⟨q, cap, rfl⟩
  obtain ⟨q, cap, rfl⟩ := hform
  have C := Lib.hid (fun (U : World) (hb : Below w.heap.size w U) => cl_all n d at' p _ U h1 h64 hat hd h32 hp (hv.below hb) (hk.below hb))
  have HD := Lib.hid hd
  have HP := Lib.hid (pl_all n h1 h64 at')
  rw [hp] at C ⊢
  have hlt := PL_lt n at' h1
  have c1 : decide ((n : Int) < 1) = false := by simp; omega
  have c2 : decide ((1099511627776 : Int) < (n : Int)) = false := by simp; omega
  have c3 : decide ((at' : Int) < 0) = false := by simp
  have c4 : decide ((n : Int) ≤ (at' : Int)) = false := by simp; omega
  have c5 : ¬ (n ≤ at') := by omega
  clear hv hk hd h32 hp
  go_enter Tryd.func22, Tryd.ntmps22
  have H2 := Lib.hid (two w d)
  go_wp2_with (first
    | (go_at_call 41; refine (HP.out _ hat).mono ?_; rintro e w1 ⟨rfl, hb1⟩; have H3 : Hid (Below w.heap.size w w1 ∧ Dg w1 w.heap.size d ∧ Dg w1 (w.heap.size + 1) (List.replicate 32 0)) := Lib.hid ⟨H2.out.below.trans (hb1.mono (Nat.le_trans (Nat.le_add_right _ 2) (Nat.le_of_eq H2.out.size.symm))), H2.out.a.below hb1, H2.out.z.below hb1⟩; clear hb1)
    | (refine dg_load rfl (.tmp 4) rfl w.heap.size d H3.out.2.1 HD.out rfl ?_)
    | (go_at_call 42; refine (C.out _ H3.out.1).mono ?_; rintro e w2 ⟨rfl, hb2⟩; have hd2 : Dg w2 (w.heap.size + 1) (List.replicate 32 0) := H3.out.2.2.below hb2; have hst := store_dg hd2 (by simp) (CL_len d at' n p h1); have hsz := CL_len d at' n p h1))
  exact bodyPost_ret (res2 rfl _ _ (w.heap.size + 1) _ rfl (setRow_heap _ _ _ _ _ _ hd2) (CL_len d at' n p h1)) rfl ⟨rfl, Chg.below (H3.out.1.trans (hb2.mono H3.out.1.size)) (by have := H3.out.1.size; have := hb2.size; omega) (by omega) (chg_row _ _ _)⟩
set_option maxRecDepth 100000 in
set_option maxHeartbeats 1000000 in
theorem climb_len (d : List UInt8) (at' n : Nat) (q : Option Addr) (m cap : Nat) (w : World) (h1 : 1 ≤ n) (h64 : n ≤ 64) (hat : at' < n) (hm : m ≠ PL at' n) :
    Calls Tryd.prog 22 #[dgv d, .int .i64 (at' : Int), .int .i64 (n : Int), .slice q m cap] w (ClimbR zeros 1 w) := by
  have HP := Lib.hid (pl_all n h1 h64 at')
  have c1 : decide ((n : Int) < 1) = false := by simp; omega
  have c2 : decide ((1099511627776 : Int) < (n : Int)) = false := by simp; omega
  have c3 : decide ((at' : Int) < 0) = false := by simp
  have c4 : decide ((n : Int) ≤ (at' : Int)) = false := by simp; omega
  have c5 : ¬ (n ≤ at') := by omega
  have c6 : ((m : Int) == (PL at' n : Int)) = false := by simp; omega
  go_enter Tryd.func22, Tryd.ntmps22
  have H2 := Lib.hid (two w d)
  go_wp2_with (first
    | (go_at_call 41; refine (HP.out _ hat).mono ?_; rintro e w1 ⟨rfl, hb1⟩; have H3 : Hid (Below w.heap.size w w1 ∧ Dg w1 (w.heap.size + 1) (List.replicate 32 0)) := Lib.hid ⟨H2.out.below.trans (hb1.mono (Nat.le_trans (Nat.le_add_right _ 2) (Nat.le_of_eq H2.out.size.symm))), H2.out.z.below hb1⟩; have hs1 := Nat.le_trans (Nat.le_of_eq H2.out.size.symm) hb1.size; clear hb1)
    | (refine dg_store rfl (.tmp 8) (.tmp 33) rfl (w.heap.size + 1) _ zeros H3.out.2 (by simp) (by simp [zeros]) rfl rfl ?_; rintro w2 hd2 hc2))
  exact bodyPost_ret (res2 rfl _ _ (w.heap.size + 1) zeros rfl hd2.out (by simp [zeros])) rfl ⟨rfl, Chg.below H3.out.1 (by omega) (by omega) hc2⟩
end Go.Proofs.YtekboemijafplaaDoor
