/-
  Decode of the codec, where what it reads is a number's encoding.
-/
import Derived.Test.YtaahmfmelmjahaaRdv
import Derived.Defers
import Derived.Recover
import Derived.Laws.Pointers
namespace Go.Proofs.Ytaahmfmelmjahaa
open Go Go.RowKit
theorem catch_idle (p q : Addr) (w : World) :
    CallsD Try.prog 34 #[.pointer (some p), .pointer (some q)] .returning w fun e u' w' => e = .returned (.tuple #[]) ∧ u' = .returning ∧ w' = w := by
  refine callsD_of_wpS Try.func34 rfl fun c₀ cs hu => ?_
  apply wpS_seq
  apply wpS_region
  simp [wpOpsS, go_sem, recoverD, hu, Try.ntmps34, Exit.thenS]
  refine wpS_cond (t := false) (by simp [Act.eval, Array.replicate]) ?_
  simp only [Bool.false_eq_true, if_false]
  refine wpS_of_wp (wp_skip ?_)
  cases c₀
  simp_all [bodyPostS, results, Try.results34]
theorem rd_start {w : World} {b cap N : Nat} {l : List UInt8} {A B : Obj} (h : OwnAt w b cap (l.map byt)) (hN : l.length = N) :
    Rd (((w.alloc A).alloc B).alloc (.cells #[.slice (some ⟨b, 0, none⟩) N N] 56)) (w.heap.size + 1 + 1) b l := by
  have hlt := h.lt
  subst hN
  refine ⟨some ⟨b, 0, none⟩, ?_, .inr ⟨0, rfl, by omega, by simp <;> omega, fun j c hj => ?_⟩⟩
  · have := heap_alloc_new ((w.alloc A).alloc B) (.cells #[.slice (some ⟨b, 0, none⟩) l.length l.length] 56)
    simpa using this
  · rw [Nat.zero_add, World.cell?_alloc_lt _ _ _ (by simp; omega), World.cell?_alloc_lt _ _ _ (by simp; omega), World.cell?_alloc_lt _ _ _ hlt]
    exact h.cells j _ (by rw [List.getElem?_map, hj]; rfl)
theorem chg_cells {w w' : World} {a b c d x : Value} {T T' : TypeId} {C : Obj} (hc : Chg (w.heap.size + 1 + 1) (((w.alloc (.cells #[a, b, c, d] T)).alloc (.cells #[x] T')).alloc C) w') :
    (w'.cell? ⟨w.heap.size, 0, none⟩ = some a ∧ w'.cell? ⟨w.heap.size, 1, none⟩ = some b ∧ w'.cell? ⟨w.heap.size, 2, none⟩ = some c ∧ w'.cell? ⟨w.heap.size, 3, none⟩ = some d ∧ w'.cell? ⟨w.heap.size + 1, 0, none⟩ = some x) ∧
    (w'.frozen? ⟨w.heap.size, 0, none⟩ = false ∧ w'.frozen? ⟨w.heap.size, 1, none⟩ = false ∧ w'.frozen? ⟨w.heap.size, 2, none⟩ = false ∧ w'.frozen? ⟨w.heap.size, 3, none⟩ = false ∧ w'.frozen? ⟨w.heap.size + 1, 0, none⟩ = false) ∧
    (w'.heap[w.heap.size]? = some (.cells #[a, b, c, d] T) ∧ w'.heap[w.heap.size + 1]? = some (.cells #[x] T')) ∧ Below w.heap.size w w' := by
  have h0 := hc.block w.heap.size (by simp; omega) (by omega)
  have h1 := hc.block (w.heap.size + 1) (by simp) (by omega)
  rw [heap_alloc_old _ _ (by simp; omega)] at h0
  rw [heap_alloc_old _ _ (by simp)] at h0
  rw [heap_alloc_old _ _ (by simp)] at h1
  have k1 : ∀ j, w'.cell? ⟨w.heap.size, j, none⟩ = (w.alloc (.cells #[a, b, c, d] T)).cell? ⟨w.heap.size, j, none⟩ := fun j => World.cell?_of_block (a := ⟨w.heap.size, j, none⟩) h0
  have k2 : ∀ j, w'.frozen? ⟨w.heap.size, j, none⟩ = (w.alloc (.cells #[a, b, c, d] T)).frozen? ⟨w.heap.size, j, none⟩ := fun j => World.frozen?_of_block (a := ⟨w.heap.size, j, none⟩) h0
  have k3 : ∀ j, w'.cell? ⟨w.heap.size + 1, j, none⟩ = ((w.alloc (.cells #[a, b, c, d] T)).alloc (.cells #[x] T')).cell? ⟨w.heap.size + 1, j, none⟩ := fun j => World.cell?_of_block (a := ⟨w.heap.size + 1, j, none⟩) h1
  have k4 : ∀ j, w'.frozen? ⟨w.heap.size + 1, j, none⟩ = ((w.alloc (.cells #[a, b, c, d] T)).alloc (.cells #[x] T')).frozen? ⟨w.heap.size + 1, j, none⟩ := fun j => World.frozen?_of_block (a := ⟨w.heap.size + 1, j, none⟩) h1
  refine ⟨⟨?_, ?_, ?_, ?_, ?_⟩, ⟨?_, ?_, ?_, ?_, ?_⟩, ⟨by rw [h0, heap_alloc_new], by rw [h1]; simpa using heap_alloc_new (w.alloc (.cells #[a, b, c, d] T)) (.cells #[x] T')⟩, ?_⟩
  · rw [k1]; go_simp
  · rw [k1]; go_simp
  · rw [k1]; go_simp
  · rw [k1]; go_simp
  · rw [k3]; go_simp
  · rw [k2]; go_simp
  · rw [k2]; go_simp
  · rw [k2]; go_simp
  · rw [k2]; go_simp
  · rw [k4]; go_simp
  · exact ⟨hc.os, hc.tape, hc.output, by have := hc.size; simp at this; omega, fun k hk => by
      rw [hc.block k (by simp; omega) (by omega), heap_alloc_old _ _ (by simp; omega), heap_alloc_old _ _ (by simp; omega), heap_alloc_old _ _ hk]⟩
theorem below_set {m k o : Nat} {w w' : World} (h : Below m w w') (hk : m ≤ k) (v : Value) : Below m w (w'.setCell ⟨k, o, none⟩ v) :=
  ⟨h.os, h.tape, h.output, by simpa [World.setCell] using h.size, fun j hj => by
    rw [Below.heap_setCell _ _ _ _ (by simp only; omega)]
    exact h.block j hj⟩
def DecR (v : Value) (x : Int) (w : World) (e : Ending) (w' : World) : Prop := e = .returned (.tuple #[v, .int .i64 x]) ∧ Below w.heap.size w w'
set_option maxHeartbeats 1000000 in
theorem dec_int (b cap : Nat) (n : Int) (w : World) (hn : W64 n) (h : OwnAt w b cap ((1 :: num (uns n)).map byt)) :
    Calls Try.prog 18 #[.slice (some ⟨b, 0, none⟩) ((1 :: num (uns n)).map byt).length cap] w (DecR (val 1 n ByteArray.empty (.slice none 0 0)) 0 w) := by
  have hmf : ∀ (fn : Fn) (first cap : Array Value) (w : World), (Instr.makeFunc fn first cap).run Try.prog w = .ok (.func fn first cap) w := fun _ _ _ _ => rfl
  have HR := Lib.hid (fun (c : Bool) (h : c = true) (w : World) => require_of h w)
  have hnl : (num (uns n)).length ≤ 10 := numF_length 10 _
  have hle := h.le
  have hmx := h.mx
  have hv := fun (g : Nat) (w1 : World) (hr : Rd w1 g b (1 :: num (uns n))) (hb : b < w1.heap.size) => value_int g b 16 n [] w1 hn (by rw [List.append_nil]; exact hr) hb (by simp)
  rw [List.length_map] at hle ⊢
  have HV := Lib.hid hv
  have HO := Lib.hid h
  have hlen : (1 :: num (uns n)).length ≤ 11 := by simp; omega
  have hN : ∃ N, (1 :: num (uns n)).length = N := ⟨_, rfl⟩
  obtain ⟨N, hN⟩ := hN
  have HN := Lib.hid hN
  rw [hN] at hle hlen ⊢
  unfold maxLen at hmx
  clear hv h hnl hn hN
  go_enter_defers Try.func18, Try.ntmps18
  go_wp2_with fail
  refine (HV.out _ _ (rd_start HO.out HN.out) (by have := HO.out.lt; simp; omega)).mono ?_
  rintro e w1 ⟨rfl, hr, hc⟩
  obtain ⟨p, hp, _⟩ := hr
  have r0 : w1.cell? ⟨w.heap.size + 1 + 1, 0, none⟩ = some (.slice p 0 0) := by simp [World.cell?, hp]
  obtain ⟨⟨a0, a1, a2, a3, c0⟩, ⟨f0, f1, f2, f3, g0⟩, ⟨x0, x1⟩, hb⟩ := chg_cells hc
  clear hc hp
  go_wp2_with (go_at_call 36; refine (HR.out _ (by first | rfl | (simp; done)) _).mono ?_; rintro e w' ⟨rfl, rfl⟩)
  have hfin : Below w.heap.size w (((((((((w1.setCell ⟨w.heap.size, 0, none⟩ (.int .i64 1)).setCell ⟨w.heap.size, 1, none⟩ (.int .i64 n)).setCell ⟨w.heap.size, 2, none⟩ (.string ByteArray.empty)).setCell ⟨w.heap.size, 3, none⟩ (.slice none 0 0)).setCell ⟨w.heap.size, 0, none⟩ (.int .i64 1)).setCell ⟨w.heap.size, 1, none⟩ (.int .i64 n)).setCell ⟨w.heap.size, 2, none⟩ (.string ByteArray.empty)).setCell ⟨w.heap.size, 3, none⟩ (.slice none 0 0)).setCell ⟨w.heap.size + 1, 0, none⟩ (.int .i64 0)) := (below_set (below_set (below_set (below_set (below_set (below_set (below_set (below_set (below_set hb (Nat.le_refl _) _) (Nat.le_refl _) _) (Nat.le_refl _) _) (Nat.le_refl _) _) (Nat.le_refl _) _) (Nat.le_refl _) _) (Nat.le_refl _) _) (Nat.le_refl _) _) (Nat.le_succ _) _)
  have y0 : (((((((((w1.setCell ⟨w.heap.size, 0, none⟩ (.int .i64 1)).setCell ⟨w.heap.size, 1, none⟩ (.int .i64 n)).setCell ⟨w.heap.size, 2, none⟩ (.string ByteArray.empty)).setCell ⟨w.heap.size, 3, none⟩ (.slice none 0 0)).setCell ⟨w.heap.size, 0, none⟩ (.int .i64 1)).setCell ⟨w.heap.size, 1, none⟩ (.int .i64 n)).setCell ⟨w.heap.size, 2, none⟩ (.string ByteArray.empty)).setCell ⟨w.heap.size, 3, none⟩ (.slice none 0 0)).setCell ⟨w.heap.size + 1, 0, none⟩ (.int .i64 0)).heap[w.heap.size]? = some (.cells #[.int .i64 1, .int .i64 n, .string ByteArray.empty, .slice none 0 0] 24 (0, 0)) := by
    rw [Below.heap_setCell _ _ _ _ (by simp)]
    exact set_four (set_four x0)
  have y1 : (((((((((w1.setCell ⟨w.heap.size, 0, none⟩ (.int .i64 1)).setCell ⟨w.heap.size, 1, none⟩ (.int .i64 n)).setCell ⟨w.heap.size, 2, none⟩ (.string ByteArray.empty)).setCell ⟨w.heap.size, 3, none⟩ (.slice none 0 0)).setCell ⟨w.heap.size, 0, none⟩ (.int .i64 1)).setCell ⟨w.heap.size, 1, none⟩ (.int .i64 n)).setCell ⟨w.heap.size, 2, none⟩ (.string ByteArray.empty)).setCell ⟨w.heap.size, 3, none⟩ (.slice none 0 0)).setCell ⟨w.heap.size + 1, 0, none⟩ (.int .i64 0)).heap[w.heap.size + 1]? = some (.cells #[.int .i64 0] 28 (0, 0)) := by
    simp [World.setCell, Array.getElem?_modify, x1]
  clear a0 a1 a2 a3 c0 f0 f1 f2 f3 g0 x0 x1 r0 hb
  generalize (((((((((w1.setCell ⟨w.heap.size, 0, none⟩ (.int .i64 1)).setCell ⟨w.heap.size, 1, none⟩ (.int .i64 n)).setCell ⟨w.heap.size, 2, none⟩ (.string ByteArray.empty)).setCell ⟨w.heap.size, 3, none⟩ (.slice none 0 0)).setCell ⟨w.heap.size, 0, none⟩ (.int .i64 1)).setCell ⟨w.heap.size, 1, none⟩ (.int .i64 n)).setCell ⟨w.heap.size, 2, none⟩ (.string ByteArray.empty)).setCell ⟨w.heap.size, 3, none⟩ (.slice none 0 0)).setCell ⟨w.heap.size + 1, 0, none⟩ (.int .i64 0)) = W at *
  have z0 : W.cell? ⟨w.heap.size, 0, none⟩ = some (.int .i64 1) := by simp [World.cell?, y0]
  have z1 : W.cell? ⟨w.heap.size, 1, none⟩ = some (.int .i64 n) := by simp [World.cell?, y0]
  have z2 : W.cell? ⟨w.heap.size, 2, none⟩ = some (.string ByteArray.empty) := by simp [World.cell?, y0]
  have z3 : W.cell? ⟨w.heap.size, 3, none⟩ = some (.slice none 0 0) := by simp [World.cell?, y0]
  have z4 : W.cell? ⟨w.heap.size + 1, 0, none⟩ = some (.int .i64 0) := by simp [World.cell?, y1]
  clear y0 y1
  have HF := Lib.hid hfin
  clear hfin
  refine leaves_cons (f := 34) (args := #[.pointer (some ⟨w.heap.size, 0, none⟩), .pointer (some ⟨w.heap.size + 1, 0, none⟩)]) (by simp) (by simp [go_sem]) ?_
  refine (catch_idle ⟨w.heap.size, 0, none⟩ ⟨w.heap.size + 1, 0, none⟩ _).mono ?_
  rintro e u' w'' ⟨rfl, rfl, rfl⟩
  simp [Leaves, settle, results, Try.results18, go_sem, z0, z1, z2, z3, z4]
  exact ⟨rfl, HF.out⟩
end Go.Proofs.Ytaahmfmelmjahaa
