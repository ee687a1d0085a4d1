/-
  Cutting in both directions, twice, and mending, as pure functions.
-/
import Derived.Test.YtpempgajejbdoaaTee
namespace Go.Proofs.Ytpempgajejbdoaa
open Go Go.RowKit
theorem ends_swap (a b : Int) : endsB b a = endsB a b := by
  unfold endsB
  by_cases h : a = b
  · subst h; rfl
  · have h' : ¬ b = a := fun e => h e.symm
    simp [h, h']
    exact Bool.and_comm _ _
theorem mkL_swap (a b : Int) : mkL b a = mkL a b := by unfold mkL; congr 1 <;> omega
theorem mkL_lkB {a b : Int} (h : endsB a b = true) : lkB (mkL a b) = true := by
  unfold endsB siteB at h
  unfold lkB siteB mkL
  simp only [Bool.and_eq_true, decide_eq_true_eq, ne_eq] at h ⊢
  omega
theorem mkL_eq {a b c d : Int} (h : mkL c d = mkL a b) : (c = a ∧ d = b) ∨ (c = b ∧ d = a) := by
  unfold mkL at h
  simp only [Prod.mk.injEq] at h
  omega
theorem cutL_len (s : List Lk) (l : Lk) : (cutL s l true).length = (cutL s l false).length + 1 := by
  unfold cutL
  simp [srt_len]
theorem cutL_cutL {s : List Lk} {l : Lk} (x y : Bool) (h : okA s = true) (hl : lkB l = true) : cutL (cutL s l x) l y = cutL s l y := by
  refine lt_unique (cutL_pair l y (cutL_ok x h hl)) (cutL_pair l y h) fun z => ?_
  rw [mem_cutL, mem_cutL]
  unfold flag
  split
  · rfl
  · rename_i hz
    rw [decide_eq_true_eq, decide_eq_true_eq, mem_cutL]
    unfold flag
    rw [if_neg hz, decide_eq_true_eq]
theorem okN_split {n : Nt} : okN n = true ↔ okQ n.q = true ∧ okA n.a = true := by unfold okN; exact Bool.and_eq_true_iff
/-- what becomes of the links -/
structure Cts (n : Nt) (a b : Int) (X K : Nt) : Prop where
  c1 : cutN n a b true = X
  e1 : cutE n a b = 0
  c2 : cutN n b a true = X
  e2 : cutE n b a = 0
  c3 : cutN X a b true = X
  e3 : cutE X a b = 0
  c4 : cutN X b a false = K
  e4 : cutE X b a = 0
  c5 : cutN n a b false = K
  len : X.a.length = K.a.length + 1
  len2 : K.a.length ≤ 576
theorem cts {n : Nt} {a b : Int} (hok : okN n = true) (hen : endsB a b = true) : ∃ X K, Cts n a b X K ∧ X = ⟨n.q, cutL n.a (mkL a b) true⟩ ∧ K = ⟨n.q, cutL n.a (mkL a b) false⟩ ∧ okN X = true ∧ okN K = true := by
  have hl := mkL_lkB hen
  have hq := (okN_split.1 hok).1
  have hA := okN_a hok
  have hne : endsB b a = true := by rw [ends_swap]; exact hen
  have hX : okN ⟨n.q, cutL n.a (mkL a b) true⟩ = true := okN_split.2 ⟨hq, cutL_ok true hA hl⟩
  have hK : okN ⟨n.q, cutL n.a (mkL a b) false⟩ = true := okN_split.2 ⟨hq, cutL_ok false hA hl⟩
  refine ⟨_, _, ⟨?_, ?_, ?_, ?_, ?_, ?_, ?_, ?_, ?_, cutL_len _ _, okA_len (cutL_ok false hA hl)⟩, rfl, rfl, hX, hK⟩
  · unfold cutN; rw [if_pos ⟨hok, hen⟩]
  · unfold cutE; rw [if_pos hok, if_pos hen]
  · unfold cutN; rw [if_pos ⟨hok, hne⟩, mkL_swap]
  · unfold cutE; rw [if_pos hok, if_pos hne]
  · unfold cutN; rw [if_pos ⟨hX, hen⟩]; simp only [cutL_cutL true true hA hl]
  · unfold cutE; rw [if_pos hX, if_pos hen]
  · unfold cutN; rw [if_pos ⟨hX, hne⟩, mkL_swap a b]; simp only [cutL_cutL true false hA hl]
  · unfold cutE; rw [if_pos hX, if_pos hne]
  · unfold cutN; rw [if_pos ⟨hok, hen⟩]
theorem delP_cut {n : Nt} {s : List Lk} {k : Nat} {x : Pk} (hok : okN ⟨n.q, s⟩ = true) (hx : n.q[k]? = some x) : delP ⟨n.q, s⟩ (k : Int) = if mkL x.1 x.2.1 ∈ s then pk0 else x := by
  have hk := (List.getElem?_eq_some_iff.1 hx).1
  have h1 : askE ⟨n.q, s⟩ (k : Int) = 0 := askE_in hok hk
  have h2 : pkAt ⟨n.q, s⟩ (k : Int) = x := by unfold pkAt; rw [Int.toNat_natCast, hx]; rfl
  unfold delP cutB
  rw [if_pos h1, h2]
  simp
/-- the two packets that are delivered: between the parties, or not -/
theorem two_del {n : Nt} {a b : Int} {k : Nat} {x : Pk} (hok : okN n = true) (hen : endsB a b = true) (hx : n.q[k]? = some x) :
    ∃ p q : Pk, delP ⟨n.q, cutL n.a (mkL a b) true⟩ (k : Int) = p ∧ delP ⟨n.q, cutL n.a (mkL a b) false⟩ (k : Int) = q ∧ askE ⟨n.q, cutL n.a (mkL a b) true⟩ (k : Int) = 0 ∧ askE ⟨n.q, cutL n.a (mkL a b) false⟩ (k : Int) = 0 ∧
      ((p = pk0 ∧ ((q.1 = a ∧ q.2.1 = b) ∨ (q.1 ≠ a ∧ q.1 = b ∧ q.2.1 = a))) ∨ (p = q ∧ ((q.1 = a ∧ q.2.1 ≠ b ∧ q.1 ≠ b) ∨ (q.1 ≠ a ∧ q.1 = b ∧ q.2.1 ≠ a) ∨ (q.1 ≠ a ∧ q.1 ≠ b)))) := by
  have hl := mkL_lkB hen
  have hq := (okN_split.1 hok).1
  have hA := okN_a hok
  have hX : okN ⟨n.q, cutL n.a (mkL a b) true⟩ = true := okN_split.2 ⟨hq, cutL_ok true hA hl⟩
  have hK : okN ⟨n.q, cutL n.a (mkL a b) false⟩ = true := okN_split.2 ⟨hq, cutL_ok false hA hl⟩
  have hk := (List.getElem?_eq_some_iff.1 hx).1
  have hab : a ≠ b := by unfold endsB at hen; simp only [Bool.and_eq_true, decide_eq_true_eq] at hen; exact hen.1.1
  refine ⟨_, _, delP_cut hX hx, delP_cut hK hx, askE_in hX hk, askE_in hK hk, ?_⟩
  by_cases hm : mkL x.1 x.2.1 = mkL a b
  · left
    rw [if_pos (by rw [hm, mem_cutL]; unfold flag; rw [if_pos rfl]), if_neg (by rw [hm, mem_cutL]; unfold flag; rw [if_pos rfl]; simp)]
    refine ⟨rfl, ?_⟩
    rcases mkL_eq hm with h | h
    · exact .inl h
    · exact .inr ⟨by rw [h.1]; exact fun e => hab e.symm, h.1, h.2⟩
  · right
    have h1 : (mkL x.1 x.2.1 ∈ cutL n.a (mkL a b) true) ↔ mkL x.1 x.2.1 ∈ n.a := by rw [mem_cutL]; unfold flag; rw [if_neg hm, decide_eq_true_eq]
    have h2 : (mkL x.1 x.2.1 ∈ cutL n.a (mkL a b) false) ↔ mkL x.1 x.2.1 ∈ n.a := by rw [mem_cutL]; unfold flag; rw [if_neg hm, decide_eq_true_eq]
    by_cases hin : mkL x.1 x.2.1 ∈ n.a
    · rw [if_pos (h1.2 hin), if_pos (h2.2 hin)]
      refine ⟨rfl, ?_⟩
      unfold pk0
      simp only
      omega
    · rw [if_neg (fun h => hin (h1.1 h)), if_neg (fun h => hin (h2.1 h))]
      refine ⟨rfl, ?_⟩
      have h3 : ¬ (x.1 = a ∧ x.2.1 = b) := fun h => hm (by rw [h.1, h.2])
      have h4 : ¬ (x.1 = b ∧ x.2.1 = a) := fun h => hm (by rw [h.1, h.2, mkL_swap])
      omega
theorem endsB_swapE {n : Nt} {a b : Int} (hok : okN n = true) (hen : endsB a b = false) : cutN n a b true = zero ∧ cutE n a b = 1 := by
  constructor
  · unfold cutN; rw [if_neg (by simp [hen])]
  · unfold cutE; rw [if_pos hok, if_neg (by simp [hen])]
end Go.Proofs.Ytpempgajejbdoaa
