/-
  A canonical run serves every run: joined texts (S to Z).
-/
import Derived.Test.YtaahmfmelmjahaaSim2
/-
  A canonical run serves every run. Part S: when two canonical values, rows, memories are the same.
-/
namespace Go.Proofs.Simul
open Go Go.RowKit

def allEq (f : Value → Value → Bool) : List Value → List Value → Bool
  | [], [] => true
  | a :: l, b :: m => f a b && allEq f l m
  | _, _ => false
theorem allEq_eq {f : Value → Value → Bool} (hf : ∀ a b, f a b = true → a = b) : ∀ {l m : List Value}, allEq f l m = true → l = m
  | [], [], _ => rfl
  | a :: l, b :: m, h => by
    simp only [allEq, Bool.and_eq_true] at h
    rw [hf a b h.1, allEq_eq hf h.2]
  | [], _ :: _, h => by simp [allEq] at h
  | _ :: _, [], h => by simp [allEq] at h
def addrEq : Option Addr → Option Addr → Bool
  | none, none => true
  | some a, some b => a.block == b.block && a.off == b.off && (match a.spot, b.spot with | none, none => true | _, _ => false)
  | _, _ => false
theorem addrEq_eq : ∀ {a b : Option Addr}, addrEq a b = true → a = b
  | none, none, _ => rfl
  | some ⟨a1, a2, none⟩, some ⟨b1, b2, none⟩, h => by simp [addrEq] at h; obtain ⟨rfl, rfl⟩ := h; rfl
  | some ⟨a1, a2, some _⟩, some ⟨b1, b2, none⟩, h => by simp [addrEq] at h
  | some ⟨a1, a2, none⟩, some ⟨b1, b2, some _⟩, h => by simp [addrEq] at h
  | some ⟨a1, a2, some _⟩, some ⟨b1, b2, some _⟩, h => by simp [addrEq] at h
  | none, some _, h => by simp [addrEq] at h
  | some _, none, h => by simp [addrEq] at h
def fnEq : Fn → Fn → Bool
  | .func f, .func g => f == g
  | .yield l, .yield m => l == m
  | _, _ => false
theorem fnEq_eq {f g : Fn} (h : fnEq f g = true) : f = g := by
  cases f <;> cases g <;> simp_all [fnEq]
def veq : Nat → Value → Value → Bool
  | 0, _, _ => false
  | n + 1, a, b => match a, b with
    | .bool x, .bool y => x == y
    | .int j x, .int k y => decide (j = k) && decide (x = y)
    | .string s, .string t => decide (s.data.toList = t.data.toList)
    | .pointer x, .pointer y => addrEq x y
    | .slice x n c, .slice y m d => addrEq x y && n == m && c == d
    | .map x, .map y => decide (x = y)
    | .func f fs cs, .func g gs ds => fnEq f g && allEq (veq n) fs.toList gs.toList && allEq (veq n) cs.toList ds.toList
    | .nilFunc, .nilFunc => true
    | .iface s x, .iface t y => s == t && veq n x y
    | .nilIface, .nilIface => true
    | .agg xs, .agg ys => allEq (veq n) xs.toList ys.toList
    | .tuple xs, .tuple ys => allEq (veq n) xs.toList ys.toList
    | _, _ => false
theorem arr_ext {xs ys : Array Value} (h : xs.toList = ys.toList) : xs = ys := by cases xs; cases ys; simp_all
theorem veq_eq : ∀ (n : Nat) (a b : Value), veq n a b = true → a = b
  | 0, _, _, h => by simp [veq] at h
  | n + 1, a, b, h => by
    have ih := veq_eq n
    cases a <;> cases b <;> simp only [veq, Bool.and_eq_true, beq_iff_eq, decide_eq_true_eq, Bool.false_eq_true] at h
    case bool.bool => rw [h]
    case int.int => rw [h.1, h.2]
    case string.string => congr 1; rename_i s t; cases s; cases t; congr 1; rename_i x y; cases x; cases y; simp_all
    case pointer.pointer => rw [addrEq_eq h]
    case slice.slice => rw [addrEq_eq h.1.1, h.1.2, h.2]
    case map.map => rw [h]
    case func.func => rw [fnEq_eq h.1.1, arr_ext (allEq_eq ih h.1.2), arr_ext (allEq_eq ih h.2)]
    case nilFunc.nilFunc => rfl
    case iface.iface => rw [h.1, ih _ _ h.2]
    case nilIface.nilIface => rfl
    case agg.agg => rw [arr_ext (allEq_eq ih h)]
    case tuple.tuple => rw [arr_ext (allEq_eq ih h)]
def entEq : List MapEntry → List MapEntry → Bool
  | [], [] => true
  | a :: l, b :: m => veq 9 a.key b.key && veq 9 a.val b.val && a.born == b.born && entEq l m
  | _, _ => false
theorem entEq_eq : ∀ {l m : List MapEntry}, entEq l m = true → l = m
  | [], [], _ => rfl
  | ⟨a1, a2, a3⟩ :: l, ⟨b1, b2, b3⟩ :: m, h => by
    simp only [entEq, Bool.and_eq_true, beq_iff_eq] at h
    rw [veq_eq _ _ _ h.1.1.1, veq_eq _ _ _ h.1.1.2, h.1.2, entEq_eq h.2]
  | [], _ :: _, h => by simp [entEq] at h
  | _ :: _, [], h => by simp [entEq] at h
def oeq : Obj → Obj → Bool
  | .cells c e f, .cells d g k => allEq (veq 9) c.toList d.toList && e == g && decide (f = k)
  | .map es c, .map fs d => entEq es.toList fs.toList && c == d
  | .pending c e, .pending d f => c.size == 0 && d.size == 0 && e == f
  | .stringIter s p, .stringIter t q => decide (s.data.toList = t.data.toList) && p == q
  | .mapIter m a b c, .mapIter n d e f => decide (m = n) && a == d && decide (b.toList = e.toList) && c == f
  | _, _ => false
theorem oeq_eq {o p : Obj} (h : oeq o p = true) : o = p := by
  cases o <;> cases p <;> simp only [oeq, Bool.and_eq_true, beq_iff_eq, decide_eq_true_eq, Bool.false_eq_true] at h
  case cells.cells => rw [arr_ext (allEq_eq (veq_eq 9) h.1.1), h.1.2, h.2]
  case pending.pending =>
    rename_i c e d f
    have h1 : c = #[] := by cases c; simp_all
    have h2 : d = #[] := by cases d; simp_all
    rw [h1, h2, h.2]
  case map.map => rename_i es c fs d; cases es; cases fs; simp only at h; rw [entEq_eq h.1, h.2]
  case stringIter.stringIter => rename_i s p t q; rw [h.2]; congr 1; cases s; cases t; rename_i x y; cases x; cases y; simp_all
  case mapIter.mapIter => rename_i m a b c n d e f; rw [h.1.1.1, h.1.1.2, h.2]; congr 1; cases b; cases e; simp_all
def allO : List Obj → List Obj → Bool
  | [], [] => true
  | a :: l, b :: m => oeq a b && allO l m
  | _, _ => false
theorem allO_eq : ∀ {l m : List Obj}, allO l m = true → l = m
  | [], [], _ => rfl
  | a :: l, b :: m, h => by
    simp only [allO, Bool.and_eq_true] at h
    rw [oeq_eq h.1, allO_eq h.2]
  | [], _ :: _, h => by simp [allO] at h
  | _ :: _, [], h => by simp [allO] at h
/-- a state within a region whose order is open -/
structure DS where
  tmps : Array Value
  listed : List Nat
  h : World
def dsEq (a b : DS) : Bool := decide (a.listed = b.listed) && allEq (veq 9) a.tmps.toList b.tmps.toList && allO a.h.heap.toList b.h.heap.toList
theorem dsEq_eq {a b : DS} (h : dsEq a b = true) : a.listed = b.listed ∧ a.tmps = b.tmps ∧ a.h.heap = b.h.heap := by
  simp only [dsEq, Bool.and_eq_true, decide_eq_true_eq] at h
  refine ⟨h.1.1, arr_ext (allEq_eq (veq_eq 9) h.1.2), ?_⟩
  have := allO_eq h.2
  revert this
  cases a.h.heap; cases b.h.heap; simp
def dedupe : List DS → List DS
  | [] => []
  | a :: l => let r := dedupe l; if r.any (dsEq a) then r else a :: r
theorem dedupe_mem : ∀ {l : List DS} {a : DS}, a ∈ l → ∃ b ∈ dedupe l, b.listed = a.listed ∧ b.tmps = a.tmps ∧ b.h.heap = a.h.heap
  | x :: l, a, h => by
    unfold dedupe
    simp only
    rcases List.mem_cons.1 h with rfl | h
    · split
      · rename_i hany
        obtain ⟨b, hb, he⟩ := List.any_eq_true.1 hany
        obtain ⟨h1, h2, h3⟩ := dsEq_eq he
        exact ⟨b, hb, h1.symm, h2.symm, h3.symm⟩
      · exact ⟨a, .head _, rfl, rfl, rfl⟩
    · obtain ⟨b, hb, he⟩ := dedupe_mem h
      split
      · exact ⟨b, hb, he⟩
      · exact ⟨b, .tail _ hb, he⟩
end Go.Proofs.Simul
/-
  A canonical run serves every run. Part T: the run, and what it proves.
-/
namespace Go.Proofs.Simul
open Go Go.RowKit

def putT (dst : Option Tmp) (v : Value) (ts : Array Value) : Array Value :=
  match dst with
  | some d => ts.setIfInBounds d v
  | none => ts
def evalT (ts : Array Value) : Operand → Value := Frame.eval { fn := 0, tmps := ts, todo := [], defers := [], mode := .run, kind := .normal }
def collect {α β : Type} (f : α → Option (List β)) : List α → Option (List β)
  | [] => some []
  | a :: l => match f a with
    | none => none
    | some x => match collect f l with
      | none => none
      | some y => some (x ++ y)
theorem collect_mem {α β : Type} {f : α → Option (List β)} : ∀ {l : List α} {out : List β}, collect f l = some out → ∀ a ∈ l, ∃ x, f a = some x ∧ ∀ b ∈ x, b ∈ out
  | c :: l, out, h, a, ha => by
    unfold collect at h
    cases hf : f c with
    | none => rw [hf] at h; cases h
    | some x =>
      rw [hf] at h
      cases hc : collect f l with
      | none => rw [hc] at h; cases h
      | some y =>
        rw [hc] at h
        cases h
        rcases List.mem_cons.1 ha with rfl | ha
        · exact ⟨x, hf, fun b hb => List.mem_append.2 (.inl hb)⟩
        · obtain ⟨z, hz, hzz⟩ := collect_mem hc a ha
          exact ⟨z, hz, fun b hb => List.mem_append.2 (.inr (hzz b hb))⟩
def bigop (P : Program) (call : FuncId → Array Value → World → Option (List (Value × World))) (e : Operand → Value) (o : Oper) (h : World) : Option (List (Value × World)) :=
  match cop P e o h with
  | some (.ok (.value v), h1) => some [(v, h1)]
  | some (.ok .skip, h1) => some [(undef, h1)]
  | some (.ok (.enter f args), h1) => call f args h1
  | _ => none
def expand1 (P : Program) (call : FuncId → Array Value → World → Option (List (Value × World))) (ops : Array Oper) (d : DS) (i : Nat) : Option (List DS) :=
  match ops[i]? with
  | none => none
  | some o =>
    if Region.wanted o (yielded ops d.tmps) then
      match bigop P call (evalT d.tmps) o d.h with
      | none => none
      | some outs => some (outs.map fun x => ⟨putT o.dst x.1 d.tmps, ins i d.listed, x.2⟩)
    else some [⟨putT o.dst undef d.tmps, ins i d.listed, d.h⟩]
def expand (P : Program) (call : FuncId → Array Value → World → Option (List (Value × World))) (ops : Array Oper) (d : DS) : Option (List DS) :=
  match readyL ops d.listed with
  | [] => none
  | rs => collect (expand1 P call ops d) rs
def dp (P : Program) (call : FuncId → Array Value → World → Option (List (Value × World))) (ops : Array Oper) : Nat → List DS → Option (List DS)
  | 0, _ => none
  | n + 1, ds =>
    if ds.all (fun d => (readyL ops d.listed).isEmpty) then some ds else
    match collect (expand P call ops) ds with
    | none => none
    | some nx => dp P call ops n (dedupe nx)
def noDefer (o : Oper) : Bool :=
  match o.op with
  | .defer _ => false
  | _ => true
def drawn? (s : CS) : Option (Array Oper × List Item) :=
  match s.fr.mode, s.fr.todo with
  | .run, .code (.region _ ops true) :: k => some (ops, k)
  | _, _ => none
def isFinal (s : CS) : Bool :=
  s.cs.isEmpty && s.fr.defers.isEmpty && (match s.fr.mode with | .run => false | _ => true) && s.fr.roundOf.isNone && decide (s.fr.kind = .normal)
def resultOf (P : Program) (f : FuncId) (s : CS) : Option (List (Value × World)) :=
  if s.fr.fn = f then
    match s.fr.mode, P.funcs[f]? with
    | .returning, some fn => (match crun P (resultsL fn s.fr.tmps) s.h with
      | some (.ok v, h) => some [(v, h)]
      | _ => none)
    | _, _ => none
  else none
def callBy (P : Program) (g : List CS → Option (List CS)) (f : FuncId) (args : Array Value) (h : World) : Option (List (Value × World)) :=
  match g [⟨enterC P f args .normal, [], h⟩] with
  | none => none
  | some fs => collect (resultOf P f) fs
section
variable {P : Program} {N : Nat → Prop} {u : Ren} {base : List Frame}
def CallOK (P : Program) (call : FuncId → Array Value → World → Option (List (Value × World))) : Prop :=
  ∀ f args h outs, call f args h = some outs → ∀ (N : Nat → Prop) (u : Ren) (args' : Array Value) (w : World), VRs u args args' → HR P N u h w → ∀ cs, ∃ x ∈ outs, ∃ u' w' v' fr,
    Ext u u' ∧ HR P N u' x.2 w' ∧ Keeps N w w' ∧ VR u' x.1 v' ∧ Steps P (lone (Frame.enter P f args' .normal) cs w) (lone fr cs w') ∧ fr.fn = f ∧ fr.leaving P w' (.returned v')
def GoOK (P : Program) (g : List CS → Option (List CS)) : Prop :=
  ∀ sts outs, g sts = some outs → ∀ s ∈ sts, ∀ (N : Nat → Prop) (u : Ren) (base : List Frame) (fr : Frame) (cs : List Frame) (w : World), StR P N u base s fr cs w →
    ∃ s' ∈ outs, isFinal s' = true ∧ ∃ u' fr' cs' w', Ext u u' ∧ Steps P (lone fr cs w) (lone fr' cs' w') ∧ StR P N u' base s' fr' cs' w' ∧ Keeps N w w'
theorem step_sound (hz : Fine P) (hm : P.follows .mixedOrders = true) {s : CS} {fr : Frame} {cs : List Frame} {w : World} (st : StR P N u base s fr cs w) {outs : List CS} (ho : cstep P s = some outs) : Goes P N u base (lone fr cs w) w outs := by
  have hmd := st.fr.mode
  generalize hfm : s.fr.mode = fm at hmd
  generalize hgm : fr.mode = gm at hmd
  cases hmd with
  | run => exact run_sound hz hm st hfm ho
  | returning =>
    refine cunwind_sound hz st (.inl hgm) ?_
    obtain ⟨⟨_, _, _, _, m, _, _⟩, _, _⟩ := s
    simp only at hfm
    subst hfm
    exact ho
  | panicking hp =>
    refine cunwind_sound hz st (.inr ⟨_, hgm⟩) ?_
    obtain ⟨⟨_, _, _, _, m, _, _⟩, _, _⟩ := s
    simp only at hfm
    subst hfm
    exact ho
/-- runs that leave the world alone -/
def Reads0 {α : Type} (P : Program) (s : Sem α) : Prop := ∀ w a w', s.run P w = .ok a w' → w' = w
theorem reads_bind {α β : Type} {s : Sem α} {f : α → Sem β} (hs : Reads0 P s) (hf : ∀ a, Reads0 P (f a)) : Reads0 P (s >>= f) := fun w a w' h => by
  rw [Sem.run_bind] at h
  cases hr : s.run P w with
  | halt x y => rw [hr] at h; cases h
  | ok b w1 =>
    rw [hr] at h
    have := hs w b w1 hr
    subst this
    exact hf b _ _ _ h
theorem reads_pure {α : Type} (a : α) : Reads0 P (pure a) := fun w b w' h => by cases h; rfl
theorem reads_stuck {α : Type} (x : String) : Reads0 P (stuck (α := α) x) := fun w b w' h => by cases h
theorem reads_load (a : Addr) : Reads0 P (load a) := fun w b w' h => by
  simp only [load, Sem.run] at h
  split at h
  · cases h; rfl
  · split at h
    · cases h; rfl
    · cases h
theorem reads_program : Reads0 P program := fun w b w' h => by cases h; rfl
theorem reads_typeInfo (t : TypeId) : Reads0 P (typeInfo t) := by
  unfold typeInfo
  exact reads_bind reads_program fun p => by split <;> first | exact reads_pure _ | exact reads_stuck _
theorem reads_underlying (t : TypeId) : Reads0 P (underlying t) := by
  unfold underlying
  exact reads_bind reads_program fun p => by split <;> first | exact reads_pure _ | exact reads_stuck _
theorem reads_loadVar (t : TypeId) (a : Addr) : Reads0 P (loadVar t a) := by
  unfold loadVar
  refine reads_bind ?_ fun b => ?_
  · unfold isAgg
    exact reads_bind (reads_underlying t) fun d => by split <;> exact reads_pure _
  · split
    · refine reads_bind (reads_bind (reads_typeInfo t) fun _ => reads_pure _) fun n => reads_bind ?_ fun _ => reads_pure _
      unfold loadCells
      have : ∀ (n i : Nat) (acc : Array Value), Reads0 P (loadCellsFrom a i n acc) := by
        intro n
        induction n with
        | zero => intro i acc; exact reads_pure _
        | succ n ih => intro i acc; unfold loadCellsFrom; exact reads_bind (reads_load _) fun v => ih _ _
      exact this _ _ _
    · exact reads_load a
theorem reads_results (fn : Func) (ts : Array Value) : Reads0 P (results fn ts) := by
  unfold results
  refine reads_bind ?_ fun _ => reads_pure _
  rw [Array.mapM_eq_mapM_toList, map_eq_pure_bind]
  refine reads_bind ?_ fun _ => reads_pure _
  generalize fn.results.toList = l
  induction l with
  | nil => simp only [List.mapM_nil]; exact reads_pure _
  | cons x l ih =>
    simp only [List.mapM_cons]
    refine reads_bind ?_ fun _ => reads_bind ih fun _ => reads_pure _
    cases x with
    | tmp t => exact reads_pure _
    | cell a t =>
      refine reads_bind ?_ fun _ => reads_loadVar _ _
      unfold asAddr
      split
      · exact reads_pure _
      · intro w b w' h; cases h
      · exact reads_stuck _
theorem callBy_ok {g : List CS → Option (List CS)} (hg : GoOK P g) : CallOK P (callBy P g) := by
  intro f args h outs hc N u args' w ha hh cs
  unfold callBy at hc
  split at hc
  · cases hc
  rename_i fs hfs
  obtain ⟨s', hs', hfin, u', fr', cs', w', e, hst, hr, hb⟩ := hg _ _ hfs _ (.head _) N u cs (Frame.enter P f args' .normal) cs w ⟨FR.enterC f ha .normal, .nil, hh⟩
  obtain ⟨x, hx, hxo⟩ := collect_mem hc s' hs'
  simp only [isFinal, Bool.and_eq_true, decide_eq_true_eq] at hfin
  obtain ⟨⟨⟨⟨f1, f2⟩, f3⟩, f4⟩, f5⟩ := hfin
  have hcs : cs' = cs := by
    have := hr.cs
    have hnil : s'.cs = [] := by simpa using f1
    rw [hnil] at this
    cases this; rfl
  subst hcs
  unfold resultOf at hx
  split at hx
  case isFalse => cases hx
  rename_i hfn
  split at hx
  case h_2 => cases hx
  rename_i fn hmode hfun
  split at hx
  case h_2 => cases hx
  rename_i v h1 hcr
  cases hx
  obtain ⟨u2, w2, e2, H2, b2, v', hv', hV⟩ := sim_results fn hr.fr.tmps s'.h w' hr.h _ _ (by rw [resultsL_eq]; exact hcr)
  have hw := reads_results fn fr'.tmps w' v' w2 hv'
  subst hw
  refine ⟨_, hxo _ (.head _), u2, w2, v', fr', e.trans e2, H2, hb.trans b2, hV, hst, by rw [hr.fr.fn, hfn], ?_, ?_, by rw [hr.fr.kind, f5], fn, by rw [hr.fr.fn, hfn, hfun], hv'⟩
  · have := hr.fr.mode
    rw [hmode] at this
    generalize fr'.mode = m at this
    cases this; rfl
  · have := hr.fr.defers
    have hnil : s'.fr.defers = [] := by simpa using f2
    rw [hnil] at this
    generalize fr'.defers = m at this
    cases this; rfl
theorem evalT_eq (f : Frame) : f.eval = evalT f.tmps := by funext x; cases x <;> rfl
/-- one operation within a region whose order is open, the other side -/
theorem bigop_sound (hz : Fine P) {call : FuncId → Array Value → World → Option (List (Value × World))} (hcall : CallOK P call) {fn : FuncId} {us : Array Value} {ops : Array Oper} {i : Nat} {rest : List Nat} {k' : List Item}
    {es : List Deferred} {kd : CallKind} {ro' : Option Nat} {cs : List Frame} {d : DS} {w : World} (hts : VRs u d.tmps us) (hh : HR P N u d.h w) {outs : List DS} (ho : expand1 P call ops d i = some outs)
    (hdf : ∀ (o : Oper) (c : Call), ops[i]? = some o → o.op = .defer c → False) :
    ∃ d' ∈ outs, d'.listed = ins i d.listed ∧ ∃ u' us' w', Ext u u' ∧ VRs u' d'.tmps us' ∧ HR P N u' d'.h w' ∧ Keeps N w w' ∧
      Steps P (lone ⟨fn, us, .inRegion ops (i :: rest) :: k', es, .run, kd, ro'⟩ cs w) (lone ⟨fn, us', .inRegion ops rest :: k', es, .run, kd, ro'⟩ cs w') := by
  unfold expand1 at ho
  split at ho
  · cases ho
  rename_i o hoo
  have hy := yielded_eq hts ops
  have fin : ∀ v : Value, Frame.finish ⟨fn, us, .inRegion ops (i :: rest) :: k', es, .run, kd, ro'⟩ v = ⟨fn, putT o.dst v us, .inRegion ops rest :: k', es, .run, kd, ro'⟩ := fun v => by
    simp only [Frame.finish, hoo, Option.bind_some, putT]
    cases o.dst <;> rfl
  have putR : ∀ {u1 : Ren} {v v' : Value}, Ext u u1 → VR u1 v v' → VRs u1 (putT o.dst v d.tmps) (putT o.dst v' us) := fun {u1 v v'} e1 hv => by
    unfold putT
    cases o.dst with
    | none => exact hts.ext e1
    | some x => exact (hts.ext e1).set hv x
  split at ho
  · rename_i hw
    rw [← hy] at hw
    have hst := exec_op (P := P) (fn := fn) (R := rest) (k' := k') (es := es) (kd := kd) (ro' := ro') (cs := cs) (w := w) hoo hw
    have hst : (stepG P true { frame := ⟨fn, us, .inRegion ops (i :: rest) :: k', es, .run, kd, ro'⟩, callers := cs, status := .running, dying := none } w).bare =
        (stepG.apply P true ⟨fn, us, .inRegion ops (i :: rest) :: k', es, .run, kd, ro'⟩ cs none (execOp (Frame.eval ⟨fn, us, .inRegion ops (i :: rest) :: k', es, .run, kd, ro'⟩) o) w).bare := by
      rw [hst]
      cases ro' with
      | none => rfl
      | some l =>
        cases hop : o.op <;> first | rfl | exact (hdf o _ hoo hop).elim
    have he : ER u (evalT d.tmps) (Frame.eval ⟨fn, us, .inRegion ops (i :: rest) :: k', es, .run, kd, ro'⟩) := by
      rw [evalT_eq]
      have hf : FR u { fn := 0, tmps := d.tmps, todo := [], defers := [], mode := .run, kind := .normal } { fn := 0, tmps := us, todo := [], defers := [], mode := .run, kind := .normal } :=
        ⟨rfl, hts, .nil, .nil, .run, rfl, .none⟩
      exact hf.eval
    split at ho
    · cases ho
    rename_i bouts hbig
    cases ho
    unfold bigop at hbig
    split at hbig
    · rename_i v h1 hcop
      cases hbig
      obtain ⟨u1, w1, e1, H1, b1, n', hn', hN⟩ := sim_cop hz he o d.h w hh _ _ hcop
      cases hN with
      | @value _ v' hv =>
        refine ⟨_, .head _, rfl, u1, _, w1, e1, putR e1 hv, H1, b1, ?_⟩
        have := stp (hst.trans (apply_next (cs := cs) rfl hn'))
        rw [fin] at this
        exact this
    · rename_i h1 hcop
      cases hbig
      obtain ⟨u1, w1, e1, H1, b1, n', hn', hN⟩ := sim_cop hz he o d.h w hh _ _ hcop
      cases hN with
      | skip =>
        refine ⟨_, .head _, rfl, u1, _, w1, e1, putR e1 (VR.undef _), H1, b1, ?_⟩
        have := stp (hst.trans (apply_next (cs := cs) rfl hn'))
        rw [fin] at this
        exact this
    · rename_i f args h1 hcop
      obtain ⟨u1, w1, e1, H1, b1, n', hn', hN⟩ := sim_cop hz he o d.h w hh _ _ hcop
      cases hN with
      | @enter _ _ args' ha =>
        obtain ⟨x, hx, u2, w2, v', fr, e2, H2, b2, hV, hsteps, hfn, hleave⟩ := hcall f args h1 bouts hbig N u1 args' w1 ha H1 (⟨fn, us, .inRegion ops (i :: rest) :: k', es, .run, kd, ro'⟩ :: cs)
        refine ⟨_, List.mem_map.2 ⟨x, hx, rfl⟩, rfl, u2, _, w2, e1.trans e2, putR (e1.trans e2) hV, H2, b1.trans b2, ?_⟩
        have h0 := stp (hst.trans (apply_next (cs := cs) rfl hn'))
        have h1 := Steps.one (step_leave_returned (c := ⟨fn, us, .inRegion ops (i :: rest) :: k', es, .run, kd, ro'⟩) (cs := cs) hleave)
        rw [fin] at h1
        exact h0.trans (hsteps.trans h1)
    · cases hbig
  · rename_i hw
    cases ho
    have hw' : Region.wanted o (yielded ops us) = false := by rw [hy]; simpa using hw
    refine ⟨_, .head _, rfl, u, _, w, Ext.refl u, putR (Ext.refl u) (VR.undef u), hh, Keeps.refl _ _, ?_⟩
    have := stp (exec_skip (P := P) (fn := fn) (R := rest) (k' := k') (es := es) (kd := kd) (ro' := ro') (cs := cs) (w := w) hoo hw')
    rw [fin] at this
    exact this
theorem dp_sound (hz : Fine P) {call : FuncId → Array Value → World → Option (List (Value × World))} (hcall : CallOK P call) {ops : Array Oper} (hdf : ∀ (i : Nat) (o : Oper) (c : Call), ops[i]? = some o → o.op = .defer c → False) {fn : FuncId} {k' : List Item}
    {es : List Deferred} {kd : CallKind} {ro' : Option Nat} {cs : List Frame} : ∀ (n : Nat) (ds outs : List DS), dp P call ops n ds = some outs → ∀ d ∈ ds, ∀ (u : Ren) (us : Array Value) (w : World) (rest : List Nat), VRs u d.tmps us → HR P N u d.h w → Sched ops d.listed rest →
    ∃ d' ∈ outs, ∃ u' us' w', Ext u u' ∧ VRs u' d'.tmps us' ∧ HR P N u' d'.h w' ∧ Keeps N w w' ∧
      Steps P (lone ⟨fn, us, .inRegion ops rest :: k', es, .run, kd, ro'⟩ cs w) (lone ⟨fn, us', k', es, .run, kd, ro'⟩ cs w')
  | 0, ds, outs, h, d, hd, u, us, w, rest, hts, hh, hs => by cases h
  | n + 1, ds, outs, h, d, hd, u, us, w, rest, hts, hh, hs => by
    unfold dp at h
    split at h
    · rename_i hall
      cases h
      have hemp : readyL ops d.listed = [] := by
        have := List.all_eq_true.1 hall d hd
        simpa using this
      cases hs with
      | done _ => exact ⟨d, hd, u, us, w, Ext.refl u, hts, hh, Keeps.refl _ _, stp rfl⟩
      | next h _ => rw [hemp] at h; cases h
    · split at h
      · cases h
      rename_i nx hnx
      obtain ⟨x, hx, hxn⟩ := collect_mem hnx d hd
      unfold expand at hx
      split at hx
      · cases hx
      rename_i hne
      cases hs with
      | done h => exact (hne h).elim
      | @next _ rest' i hi hs' =>
        obtain ⟨y, hy, hyx⟩ := collect_mem hx i hi
        obtain ⟨d', hd', hl', u1, us1, w1, e1, hts1, H1, b1, st1⟩ := bigop_sound (fn := fn) (rest := rest') (k' := k') (es := es) (kd := kd) (ro' := ro') (cs := cs) hz hcall hts hh hy (hdf i)
        obtain ⟨d2, hd2, g1, g2, g3⟩ := dedupe_mem (hxn d' (hyx d' hd'))
        obtain ⟨d3, hd3, u2, us2, w2, e2, hts2, H2, b2, st2⟩ := dp_sound hz hcall hdf n (dedupe nx) outs h d2 hd2 u1 us1 w1 rest' (by rw [g2]; exact hts1) (H1.heap g3 rfl) (by rw [g1, hl']; exact hs')
        exact ⟨d3, hd3, u2, us2, w2, e1.trans e2, hts2, H2, b1.trans b2, st1.trans st2⟩
end
end Go.Proofs.Simul
/-
  A canonical run serves every run. Part U: an operation's result hangs on its operands alone; what only reads leaves memory as it is.
-/
namespace Go.Proofs.Simul
open Go Go.RowKit

section
variable {P : Program}
theorem cop_congr {e e' : Operand → Value} (o : Oper) (h : ∀ x ∈ o.op.operands.toList, e x = e' x) (w : World) : cop P e o w = cop P e' o w := by
  have hq : cquiet P e o w = cquiet P e' o w := by
    unfold cquiet
    cases hs : noSelect o.op with
    | false => rfl
    | true =>
      have h1 : execOp e o = execOp e' o := execOp_congr o (fun cs b hc => by rw [hc] at hs; cases hs) fun x hx => h x (by simpa using hx)
      have h2 : (o.op.operands.toList.all fun x => closed 6 (e x)) = (o.op.operands.toList.all fun x => closed 6 (e' x)) := by
        rw [Bool.eq_iff_iff, List.all_eq_true, List.all_eq_true]
        exact ⟨fun hx x hm => by rw [← h x hm]; exact hx x hm, fun hx x hm => by rw [h x hm]; exact hx x hm⟩
      rw [h1, h2]
  have hres : ∀ (c : Call) (t : TypeId), (∀ x ∈ c.operands.toList, e x = e' x) → resolveC e c t = resolveC e' c t := fun c t hc => by
    obtain ⟨callee, args, ats⟩ := c
    have ha : args.toList.map e = args.toList.map e' := List.map_congr_left fun x hx => hc x (by simp [Call.operands]; exact .inr (by simpa using hx))
    unfold resolveC
    cases callee with
    | value f => simp only [ha, hc f (by simp [Call.operands])]
    | builtin b => simp only [ha]
    | invoke r m => simp only [ha, hc r (by simp [Call.operands])]
  obtain ⟨dst, op, type, pos, after, guard⟩ := o
  unfold cop
  congr 1
  simp only at h
  cases op with
  | call c => simp only [hres c type h]
  | defer c => simp only [hres c type h]
  | build t ps =>
    have : mapC (α := Unit) e ps = mapC (α := Unit) e' ps := by
      unfold mapC; congr 1
      exact List.map_congr_left fun x hx => by
        obtain ⟨i, y⟩ := x
        simp only; rw [h y (by simp [Op.operands]; exact ⟨i, by simpa using hx⟩)]
    simp only [this]
  | buildSlice t len ps =>
    have : mapC (α := Unit) e ps = mapC (α := Unit) e' ps := by
      unfold mapC; congr 1
      exact List.map_congr_left fun x hx => by
        obtain ⟨i, y⟩ := x
        simp only; rw [h y (by simp [Op.operands]; exact ⟨i, by simpa using hx⟩)]
    simp only [this]
  | makeFunc f a b =>
    have ha : a.toList.map e = a.toList.map e' := List.map_congr_left fun x hx => h x (by simp [Op.operands]; exact .inl (by simpa using hx))
    have hb : b.toList.map e = b.toList.map e' := List.map_congr_left fun x hx => h x (by simp [Op.operands]; exact .inr (by simpa using hx))
    simp only [ha, hb]
  | makeMap t r =>
    have : r.map e = r.map e' := by cases r with | none => rfl | some x => simp [h x (by simp [Op.operands])]
    simp only [this]
  | slice t x lo hi mx =>
    have ho : ∀ y : Option Operand, (∀ z, y = some z → e z = e' z) → y.map e = y.map e' := fun y hy => by cases y with | none => rfl | some z => simp [hy z rfl]
    simp only [h x (by simp [Op.operands]), ho lo fun z hz => h z (by subst hz; simp [Op.operands]), ho hi fun z hz => h z (by subst hz; simp [Op.operands]), ho mx fun z hz => h z (by subst hz; simp [Op.operands])]
  | move x => simp only [h x (by simp [Op.operands])]
  | assign x => simp only [h x (by simp [Op.operands])]
  | pick c a b => simp only [h c (by simp [Op.operands]), h a (by simp [Op.operands]), h b (by simp [Op.operands])]
  | alloc t => rfl
  | box t x => simp only [h x (by simp [Op.operands])]
  | load t a => simp only [h a (by simp [Op.operands])]
  | store t a x => simp only [h a (by simp [Op.operands]), h x (by simp [Op.operands])]
  | nilCheck x => simp only [h x (by simp [Op.operands])]
  | makeSlice t a x => simp only [h a (by simp [Op.operands]), h x (by simp [Op.operands])]
  | fieldAddr s x f => simp only [h x (by simp [Op.operands])]
  | field s x f => simp only [h x (by simp [Op.operands])]
  | indexAddr s a x => simp only [h a (by simp [Op.operands]), h x (by simp [Op.operands])]
  | index s a x => simp only [h a (by simp [Op.operands]), h x (by simp [Op.operands])]
  | extract x i => simp only [h x (by simp [Op.operands])]
  | makeInterface t x => simp only [h x (by simp [Op.operands])]
  | panic x => simp only [h x (by simp [Op.operands])]
  | convert s d x => simp only [hq, h x (by simp [Op.operands])]
  | binOp op t a x y => simp only [hq, h a (by simp [Op.operands]), h x (by simp [Op.operands])]
  | _ => exact hq
/-- canonical runs that leave memory alone -/
def CR0 {α : Type} (P : Program) (s : Sem α) : Prop := ∀ h r h', crun P s h = some (r, h') → h' = h
theorem cr_bind {α β : Type} {s : Sem α} {f : α → Sem β} (hs : CR0 P s) (hf : ∀ a, CR0 P (f a)) : CR0 P (s >>= f) := fun h r h' hc => by
  rw [crun_bind] at hc
  cases hx : crun P s h with
  | none => rw [hx] at hc; cases hc
  | some x =>
    obtain ⟨a, h1⟩ := x
    rw [hx] at hc
    have := hs h a h1 hx
    subst this
    cases a with
    | ok a => exact hf a _ _ _ hc
    | error v => cases hc; rfl
theorem cr_pure {α : Type} (a : α) : CR0 P (pure a) := fun h r h' hc => by cases hc; rfl
theorem cr_stuck {α : Type} (x : String) : CR0 P (stuck (α := α) x) := fun h r h' hc => by cases hc
theorem cr_unsupported {α : Type} (x : Unsupported) : CR0 P (unsupported (α := α) x) := fun h r h' hc => by cases hc
theorem cr_panic {α : Type} (x : Value) : CR0 P (goPanic (α := α) x) := fun h r h' hc => by cases hc; rfl
theorem cr_load (a : Addr) (m : Mode) : CR0 P (load a m) := fun h r h' hc => by
  simp only [load, crun] at hc
  split at hc
  · cases hc; rfl
  · cases hc
theorem cr_program : CR0 P program := fun h r h' hc => by cases hc; rfl
theorem cr_typeInfo (t : TypeId) : CR0 P (typeInfo t) := by
  unfold typeInfo
  exact cr_bind cr_program fun p => by split <;> first | exact cr_pure _ | exact cr_stuck _
theorem cr_underlying (t : TypeId) : CR0 P (underlying t) := by
  unfold underlying
  exact cr_bind cr_program fun p => by split <;> first | exact cr_pure _ | exact cr_stuck _
theorem cr_sizeOf (t : TypeId) : CR0 P (sizeOf t) := by unfold sizeOf; exact cr_bind (cr_typeInfo t) fun _ => cr_pure _
theorem cr_isAgg (t : TypeId) : CR0 P (isAgg t) := by unfold isAgg; exact cr_bind (cr_underlying t) fun d => by split <;> exact cr_pure _
theorem cr_loadCells (a : Addr) (n : Nat) : CR0 P (loadCells a n) := by
  unfold loadCells
  have : ∀ (n i : Nat) (acc : Array Value), CR0 P (loadCellsFrom a i n acc) := by
    intro n
    induction n with
    | zero => intro i acc; exact cr_pure _
    | succ n ih => intro i acc; unfold loadCellsFrom; exact cr_bind (cr_load _ _) fun v => ih _ _
  exact this _ _ _
theorem cr_loadVar (t : TypeId) (a : Addr) : CR0 P (loadVar t a) := by
  unfold loadVar
  refine cr_bind (cr_isAgg t) fun b => ?_
  split
  · exact cr_bind (cr_sizeOf t) fun n => cr_bind (cr_loadCells a n) fun _ => cr_pure _
  · exact cr_load a _
theorem cr_part (t : TypeId) (cs : Array Value) (n : Nat) : CR0 P (part t cs n) := by
  unfold part
  refine cr_bind (cr_isAgg t) fun b => ?_
  split
  · exact cr_bind (cr_sizeOf t) fun n => cr_pure _
  · split <;> first | exact cr_pure _ | exact cr_stuck _
theorem cr_sureAddr (v : Value) : CR0 P (Instr.sureAddr v) := by unfold Instr.sureAddr; split <;> first | exact cr_pure _ | exact cr_stuck _
theorem cr_asIntOf (v : Value) : CR0 P (asIntOf v) := by unfold asIntOf; split <;> first | exact cr_pure _ | exact cr_stuck _ | exact cr_unsupported _
theorem cr_asAgg (v : Value) : CR0 P (asAgg v) := by unfold asAgg; split <;> first | exact cr_pure _ | exact cr_stuck _
theorem cr_bounds {α : Type} (k : IntKind) (x y : Int) (c : BoundsCode) : CR0 P (boundsPanic (α := α) k x y c) := by
  unfold boundsPanic
  have hb : ∀ s, CR0 P (runtimePanic (α := α) (.bounds (IntKind.i64.wrap x) y s c)) := fun s => by unfold runtimePanic; exact cr_bind cr_program fun _ => cr_panic _
  split
  · exact cr_bind (fun h r h' hc => by cases hc) fun _ => hb _
  · exact hb _
theorem cr_loadAt (t : TypeId) (v : Value) : CR0 P (Instr.loadAt t v) := by unfold Instr.loadAt; exact cr_bind (cr_sureAddr v) fun a => cr_loadVar t a
theorem cr_fieldAt (t : TypeId) (v : Value) (i : Nat) : CR0 P (Instr.fieldAt t v i) := by
  unfold Instr.fieldAt
  refine cr_bind (cr_underlying t) fun d => ?_
  split
  · split
    · refine cr_bind (cr_sureAddr v) fun a => cr_bind ?_ fun _ => cr_pure _
      unfold fieldPlace
      refine cr_bind (cr_sizeOf _) fun n => ?_
      split
      · intro h r h' hc; rw [crun_partAt] at hc; cases hc
      · exact cr_pure _
    · exact cr_stuck _
  · exact cr_stuck _
theorem cr_field (t : TypeId) (v : Value) (i : Nat) : CR0 P (Instr.field t v i) := by
  unfold Instr.field
  refine cr_bind (cr_underlying t) fun d => ?_
  split
  · split
    · exact cr_bind (cr_asAgg v) fun a => cr_part _ _ _
    · exact cr_stuck _
  · exact cr_stuck _
theorem cr_index (t : TypeId) (v x : Value) : CR0 P (Instr.index t v x) := by
  unfold Instr.index
  refine cr_bind (cr_asIntOf x) fun k => cr_bind (cr_underlying t) fun d => ?_
  repeat' split
  all_goals first | exact cr_stuck _ | exact cr_pure _ | exact cr_bounds _ _ _ _ | exact cr_bind (cr_sizeOf _) fun n => cr_part _ _ _
theorem cr_indexAt (t : TypeId) (v x : Value) : CR0 P (Instr.indexAt t v x) := by
  unfold Instr.indexAt
  refine cr_bind (cr_asIntOf x) fun k => cr_bind (cr_underlying t) fun d => ?_
  extract_lets j1
  have hj : ∀ y, CR0 P (j1 y) := fun y => by
    obtain ⟨p, len, elem⟩ := y
    refine cr_bind (cr_underlying t) fun d => ?_
    cases p with
    | none => exact cr_bounds _ _ _ _
    | some a =>
      simp only
      repeat' split
      all_goals first | exact cr_unsupported _ | exact cr_bounds _ _ _ _ | exact cr_bind (cr_sizeOf _) fun n => cr_pure _
  split
  · exact cr_bind (cr_sureAddr _) fun a => cr_bind (cr_pure _) fun _ => hj _
  · exact cr_bind (cr_pure _) fun _ => hj _
  · exact cr_bind (cr_stuck _) fun a => hj _
theorem cr_extract (v : Value) (i : Nat) : CR0 P (Instr.extract v i) := by
  unfold Instr.extract
  repeat' split
  all_goals first | exact cr_pure _ | exact cr_stuck _
theorem cr_makeInterface (t : TypeId) (v : Value) : CR0 P (Instr.makeInterface t v) := by
  unfold Instr.makeInterface
  refine cr_bind (cr_underlying t) fun d => ?_
  split <;> first | exact cr_pure _ | exact cr_stuck _
theorem cr_getObj (r : Nat) : CR0 P (getObj r) := fun h x h' hc => by
  simp only [getObj, crun] at hc
  split at hc
  · cases hc
  · cases hc
  · cases hc
  · cases hc; rfl
theorem cr_len (ts : Array TypeId) (t : TypeId) (as : Array Value) : CR0 P (Builtin.len_ ts t as) := by
  unfold Builtin.len_
  split
  · refine cr_bind (cr_underlying _) fun d => ?_
    split
    · exact cr_pure _
    · exact cr_pure _
    · refine cr_bind (cr_underlying _) fun d => ?_
      split <;> first | exact cr_pure _ | exact cr_stuck _
    · exact cr_pure _
    · exact cr_pure _
    · exact cr_pure _
    · refine cr_bind (cr_getObj _) fun d => ?_
      split <;> first | exact cr_pure _ | exact cr_stuck _
    · refine cr_bind (cr_getObj _) fun d => ?_
      split <;> first | exact cr_pure _ | exact cr_stuck _
    · exact cr_stuck _
  · exact cr_stuck _
theorem cr_sliceBound (v : Value) (y : Nat) (c : BoundsCode) : CR0 P (Instr.sliceBound v y c) := by
  unfold Instr.sliceBound
  refine cr_bind (cr_asIntOf v) fun k => ?_
  split
  split <;> first | exact cr_pure _ | exact cr_bounds _ _ _ _
theorem cr_sliceBounds (b : Bool) (l c : Nat) (lo hi mx : Option Value) : CR0 P (Instr.sliceBounds b l c lo hi mx) := by
  unfold Instr.sliceBounds
  extract_lets j1
  have hj : ∀ m, CR0 P (j1 m) := fun m => by
    simp only [j1]
    repeat' split
    all_goals first
      | exact cr_bind (cr_sliceBound _ _ _) fun _ => cr_bind (cr_sliceBound _ _ _) fun _ => cr_pure _
      | exact cr_bind (cr_sliceBound _ _ _) fun _ => cr_bind (cr_pure _) fun _ => cr_pure _
      | exact cr_bind (cr_pure _) fun _ => cr_bind (cr_sliceBound _ _ _) fun _ => cr_pure _
      | exact cr_bind (cr_pure _) fun _ => cr_bind (cr_pure _) fun _ => cr_pure _
      | exact cr_bind (cr_stuck _) fun _ => cr_bind (cr_sliceBound _ _ _) fun _ => cr_pure _
      | exact cr_bind (cr_stuck _) fun _ => cr_bind (cr_pure _) fun _ => cr_pure _
  split
  · exact cr_bind (cr_sliceBound _ _ _) fun _ => hj _
  · exact cr_bind (cr_pure _) fun _ => hj _
theorem cr_asAddr (v : Value) : CR0 P (asAddr v) := by
  unfold asAddr
  split
  · exact cr_pure _
  · unfold runtimePanic; exact cr_bind cr_program fun _ => cr_panic _
  · exact cr_stuck _
theorem cr_sliceAt (t : TypeId) (v : Value) (lo hi mx : Option Value) : CR0 P (Instr.sliceAt t v lo hi mx) := by
  unfold Instr.sliceAt
  refine cr_bind (cr_underlying t) fun d => ?_
  split
  · exact cr_bind (cr_sureAddr _) fun a => cr_bind (cr_sliceBounds _ _ _ _ _ _) fun x => cr_bind (cr_sizeOf _) fun n => cr_pure _
  · unfold Instr.slice
    refine cr_bind (cr_underlying t) fun d => ?_
    split
    · split
      · exact cr_bind (cr_stuck _) fun _ => cr_bind (cr_sliceBounds _ _ _ _ _ _) fun x => cr_pure _
      · exact cr_bind (cr_sliceBounds _ _ _ _ _ _) fun x => cr_pure _
    · exact cr_bind (cr_sliceBounds _ _ _ _ _ _) fun x => cr_bind (cr_sizeOf _) fun n => cr_pure _
    · refine cr_bind (cr_asAddr _) fun a => cr_bind (cr_underlying _) fun d => ?_
      split
      · exact cr_bind (cr_sliceBounds _ _ _ _ _ _) fun x => cr_bind (cr_sizeOf _) fun n => cr_pure _
      · exact cr_stuck _
    · exact cr_stuck _
theorem cr_bytes (v : Value) : CR0 P (Conv.bytesToString v) := by
  unfold Conv.bytesToString
  split
  · exact cr_pure _
  · refine cr_bind (cr_loadCells _ _) fun cs => cr_bind ?_ fun s => cr_pure _
    rw [← Array.forIn_toList]
    generalize ByteArray.empty = s0
    generalize cs.toList = l
    induction l generalizing s0 with
    | nil => exact cr_pure _
    | cons a l ih =>
      rw [List.forIn_cons]
      refine cr_bind ?_ fun x => ?_
      · split
        · exact cr_pure _
        · exact cr_bind (cr_stuck _) fun _ => cr_pure _
      · cases x with
        | done s => exact cr_pure _
        | yield s => exact ih s
  · exact cr_stuck _
/-- does an operation more than look? -/
def isEff (P : Program) : Op → Bool
  | .move _ | .assign _ | .pick .. | .build .. | .load .. | .nilCheck _ | .fieldAddr .. | .field .. | .indexAddr .. | .index .. | .extract .. | .makeInterface .. | .makeFunc .. | .binOp .. | .unOp .. | .slice .. => false
  | .convert _ dst _ => (match P.underlying dst with | some (.slice _) => true | _ => false)
  | .call c => (match c.callee with | .builtin .len => false | _ => true)
  | _ => true
theorem cr_zeroValue (t : TypeId) : CR0 P (zeroValue t) := by
  unfold zeroValue
  exact cr_bind (cr_typeInfo t) fun i => by split <;> first | exact cr_pure _ | exact cr_unsupported _
theorem cr_buildL (t : TypeId) (ps : Array (Nat × Value)) : CR0 P (buildL t ps) := by
  unfold buildL
  refine cr_bind (cr_zeroValue t) fun z => cr_bind (cr_underlying t) fun d => ?_
  split
  · rename_i fields
    refine cr_bind ?_ fun pl => ?_
    · generalize fields.toList = l
      induction l with
      | nil => simp only [List.mapM_nil]; exact cr_pure _
      | cons a l ih => simp only [List.mapM_cons]; exact cr_bind (cr_bind (cr_sizeOf _) fun n => cr_pure _) fun _ => cr_bind ih fun _ => cr_pure _
    · split <;> first | exact cr_pure _ | exact cr_stuck _
  · refine cr_bind (cr_sizeOf _) fun n => ?_
    split <;> first | exact cr_pure _ | exact cr_stuck _
  · exact cr_stuck _
theorem val_heap {s : Sem Value} (hs : CR0 P s) {h h' : World} {r : Except Value Next} (hc : val (crun P s h) = some (r, h')) : h' = h := by
  cases hx : crun P s h with
  | none => rw [hx] at hc; cases hc
  | some x =>
    obtain ⟨a, h1⟩ := x
    rw [hx] at hc
    have := hs h a h1 hx
    subst this
    cases a <;> (cases hc; rfl)
theorem cquiet_heap {e : Operand → Value} {o : Oper} {h h' : World} {r : Except Value Next} (hc : cquiet P e o h = some (r, h')) : h' = h := by
  unfold cquiet at hc
  repeat' split at hc
  all_goals first | (cases hc; rfl) | (cases hc; done)
theorem cop_looks {e : Operand → Value} {o : Oper} (ho : isEff P o.op = false) {h h' : World} {v : Value} (hc : cop P e o h = some (.ok (.value v), h')) : h' = h := by
  obtain ⟨dst, op, type, pos, after, guard⟩ := o
  simp only at ho
  unfold cop at hc
  split at hc
  case isFalse => cases hc
  simp only at hc
  cases op with
  | move x => cases hc; rfl
  | assign x => cases hc; rfl
  | pick c a b => dsimp only at hc; split at hc <;> first | (cases hc; rfl) | (cases hc; done)
  | load t a => exact val_heap (cr_loadAt _ _) hc
  | build t ps =>
    dsimp only at hc
    split at hc
    · exact val_heap (cr_buildL _ _) hc
    · cases hc
  | nilCheck x =>
    dsimp only at hc
    have hp : ∀ r, crun P (runtimePanic (α := Next) .nilDeref) h = some (r, h') → h' = h := fun r hr => by
      unfold runtimePanic at hr
      exact cr_bind cr_program (fun _ => cr_panic _) h _ _ hr
    split at hc
    all_goals first | exact hp _ hc | (cases hc; done) | (cases hc; rfl)
  | fieldAddr s x f => exact val_heap (cr_fieldAt _ _ _) hc
  | field s x f => exact val_heap (cr_field _ _ _) hc
  | indexAddr t x i => exact val_heap (cr_indexAt _ _ _) hc
  | index t x i => exact val_heap (cr_index _ _ _) hc
  | extract x i => exact val_heap (cr_extract _ _) hc
  | makeInterface t x => exact val_heap (cr_makeInterface _ _) hc
  | makeFunc f a b => dsimp only at hc; split at hc <;> first | (cases hc; rfl) | (cases hc; done)
  | unOp a b c => exact cquiet_heap hc
  | binOp a b c d f => dsimp only at hc; split at hc <;> first | (cases hc; rfl) | exact cquiet_heap hc
  | slice t x lo hi mx =>
    dsimp only at hc
    unfold cslice at hc
    have hG : ∀ {a n c lo hi mx}, val (csliceG P t a n c lo hi mx h) = some (Except.ok (Next.value v), h') → h' = h := fun {a n c lo hi mx} hx => by
      cases hy : csliceG P t a n c lo hi mx h with
      | none => rw [hy] at hx; cases hx
      | some z =>
        obtain ⟨r, h1⟩ := z
        have : h1 = h := by
          unfold csliceG at hy
          repeat' split at hy
          all_goals first | (cases hy; rfl) | (cases hy; done)
        rw [hy] at hx
        subst this
        cases r <;> first | (cases hx; rfl) | (cases hx; done)
    repeat' split at hc
    all_goals first | exact val_heap (cr_sliceAt _ _ _ _ _) hc | exact hG hc | (cases hc; done)
  | convert s d x =>
    dsimp only at hc
    split at hc
    · rename_i h2 h3 h4
      simp only [isEff, h3] at ho
      cases ho
    · split at hc
      · exact val_heap (cr_bytes _) hc
      · cases hc
    · exact cquiet_heap hc
  | call c =>
    obtain ⟨callee, args, ats⟩ := c
    cases callee with
    | builtin b =>
      cases b with
      | len => exact val_heap (cr_len _ _ _) hc
      | _ => simp [isEff] at ho
    | _ => simp [isEff] at ho
  | _ => simp [isEff] at ho
end
end Go.Proofs.Simul
/-
  A canonical run serves every run. Part V: an allocation that needs no memory; an operation by its own operands alone; canonical blocks that are hidden and shown.
-/
namespace Go.Proofs.Simul
open Go Go.RowKit

def isFl : Op → Bool
  | .alloc _ | .makeSlice .. | .buildSlice .. | .makeMap .. | .box .. => true
  | _ => false
inductive Shape where
  | ptr
  | row (n c : Nat)
  | map
def Shape.at : Shape → Nat → Value
  | .ptr, r => .pointer (some ⟨r, 0, none⟩)
  | .row n c, r => .slice (some ⟨r, 0, none⟩) n c
  | .map, r => .map (some r)
def renum (b : Nat) : Value → Value
  | .pointer (some _) => .pointer (some ⟨b, 0, none⟩)
  | .slice (some _) n c => .slice (some ⟨b, 0, none⟩) n c
  | .map (some _) => .map (some b)
  | v => v
theorem renum_at (b : Nat) (sh : Shape) (r : Nat) : renum b (sh.at r) = sh.at b := by cases sh <;> rfl
def flOK (v : Value) (O : Obj) : Bool :=
  (match O with | .cells c _ fz => decide (fz = (0, 0)) && c.toList.all (closed 6) | .map es _ => es.size == 0 | _ => false) && (match v with | .slice _ _ c => decide (c < BIG) | _ => true)
def floatOf (P : Program) (e : Operand → Value) (o : Oper) : Option (Value × Obj) :=
  if isFl o.op && o.op.operands.toList.all (fun x => closed 6 (e x)) then
    match cop P e o { heap := #[], tape := fun _ _ => 0, drawn := 0, os := default, output := #[] } with
    | some (.ok (.value v), h') => (match h'.heap.toList with
      | [O] => if flOK v O then some (v, O) else none
      | _ => none)
    | _ => none
  else none
section
variable {P : Program} {N : Nat → Prop} {u : Ren}
def Still {α : Type} (P : Program) (s : Sem α) : Prop := ∀ h x h', crun P s h = some (.ok x, h') → h' = h ∧ ∀ w, s.run P w = .ok x w
theorem still_pure {α : Type} (a : α) : Still P (pure a) := fun h x h' hc => by cases hc; exact ⟨rfl, fun w => rfl⟩
theorem still_never {α : Type} {s : Sem α} (hn : ∀ h x h', crun P s h ≠ some (.ok x, h')) : Still P s := fun h x h' hc => (hn h x h' hc).elim
theorem still_stuck {α : Type} (x : String) : Still P (stuck (α := α) x) := still_never fun h x h' hc => by cases hc
theorem still_unsupported {α : Type} (x : Unsupported) : Still P (unsupported (α := α) x) := still_never fun h x h' hc => by cases hc
theorem still_bind {α β : Type} {s : Sem α} {f : α → Sem β} (hs : Still P s) (hf : ∀ a, Still P (f a)) : Still P (s >>= f) := fun h x h' hc => by
  rw [crun_bind] at hc
  cases hx : crun P s h with
  | none => rw [hx] at hc; cases hc
  | some y =>
    obtain ⟨a, h1⟩ := y
    rw [hx] at hc
    cases a with
    | error v => cases hc
    | ok a =>
      obtain ⟨rfl, h2⟩ := hs h a h1 hx
      obtain ⟨h3, h4⟩ := hf a _ _ _ hc
      exact ⟨h3, fun w => by rw [Sem.run_bind, h2 w]; exact h4 w⟩
theorem still_program : Still P program := fun h x h' hc => by cases hc; exact ⟨rfl, fun w => rfl⟩
theorem still_typeInfo (t : TypeId) : Still P (typeInfo t) := by
  unfold typeInfo
  exact still_bind still_program fun p => by split <;> first | exact still_pure _ | exact still_stuck _
theorem still_underlying (t : TypeId) : Still P (underlying t) := by
  unfold underlying
  exact still_bind still_program fun p => by split <;> first | exact still_pure _ | exact still_stuck _
theorem still_sizeOf (t : TypeId) : Still P (sizeOf t) := by unfold sizeOf; exact still_bind (still_typeInfo t) fun _ => still_pure _
theorem still_zeroValue (t : TypeId) : Still P (zeroValue t) := by
  unfold zeroValue
  exact still_bind (still_typeInfo t) fun i => by split <;> first | exact still_pure _ | exact still_unsupported _
theorem still_asInt (v : Value) : Still P (asInt v) := by
  unfold asInt asIntOf
  refine still_bind ?_ fun _ => still_pure _
  split <;> first | exact still_pure _ | exact still_stuck _ | exact still_unsupported _
theorem still_askRoom (n : Nat) : Still P (askRoom n) := by
  unfold askRoom
  split
  · intro h x h' hc; cases hc; exact ⟨rfl, fun w => rfl⟩
  · exact still_pure _
def Born (P : Program) (s : Sem Value) : Prop := ∀ h v h', crun P s h = some (.ok v, h') → ∃ (sh : Shape) (O : Obj), v = sh.at h.heap.size ∧ h' = h.alloc O ∧ ∀ w, s.run P w = .ok (sh.at w.heap.size) (w.alloc O)
theorem born_never {s : Sem Value} (hn : ∀ h x h', crun P s h ≠ some (.ok x, h')) : Born P s := fun h x h' hc => (hn h x h' hc).elim
theorem born_stuck (x : String) : Born P (stuck x) := born_never fun h x h' hc => by cases hc
theorem born_bind {α : Type} {s : Sem α} {f : α → Sem Value} (hs : Still P s) (hf : ∀ a, Born P (f a)) : Born P (s >>= f) := fun h x h' hc => by
  rw [crun_bind] at hc
  cases hx : crun P s h with
  | none => rw [hx] at hc; cases hc
  | some y =>
    obtain ⟨a, h1⟩ := y
    rw [hx] at hc
    cases a with
    | error v => cases hc
    | ok a =>
      obtain ⟨rfl, h2⟩ := hs h a h1 hx
      obtain ⟨sh, O, k1, k2, k3⟩ := hf a _ _ _ hc
      exact ⟨sh, O, k1, k2, fun w => by rw [Sem.run_bind, h2 w]; exact k3 w⟩
theorem born_ptr (t : TypeId) (v : Value) : Born P (do pure (.pointer (some (← newVar t v)))) := fun h x h' hc => by
  have hc' : some (Except.ok (Value.pointer (some ⟨h.heap.size, 0, none⟩)), h.alloc (.cells v.cells t)) = some (.ok x, h') := hc
  cases hc'
  exact ⟨.ptr, _, rfl, rfl, fun w => rfl⟩
theorem born_row (t : TypeId) (cs : Array Value) (n c : Nat) : Born P (do pure (.slice (some (← newRow t cs)) n c)) := fun h x h' hc => by
  have hc' : some (Except.ok (Value.slice (some ⟨h.heap.size, 0, none⟩) n c), h.alloc (.cells cs t)) = some (.ok x, h') := hc
  cases hc'
  exact ⟨.row n c, _, rfl, rfl, fun w => rfl⟩
theorem born_map : Born P (do pure (Value.map (some (← newObj (.map #[] 0))))) := fun h x h' hc => by
  have hc' : some (Except.ok (Value.map (some h.heap.size)), h.alloc (.map #[] 0)) = some (.ok x, h') := hc
  cases hc'
  exact ⟨.map, _, rfl, rfl, fun w => rfl⟩
theorem born_alloc (t : TypeId) : Born P (Instr.alloc t true (.tuple #[])) := by
  unfold Instr.alloc
  exact born_bind (still_zeroValue t) fun z => born_ptr t z
theorem born_box (t : TypeId) (v : Value) : Born P (Instr.box t v) := born_ptr t v
theorem still_error {α : Type} (m : String) : Still P (runtimePanic (α := α) (.error m)) := still_never fun h x h' hc => by
  unfold runtimePanic at hc
  rw [crun_bind] at hc
  cases hc
theorem born_makeMap (t : TypeId) (r : Option Value) : Born P (Instr.makeMap t r) := by
  unfold Instr.makeMap
  cases r with
  | none => exact born_map
  | some x =>
    simp only
    refine born_bind (still_underlying t) fun d => ?_
    split
    · exact born_bind (still_asInt x) fun _ => born_map
    · exact born_bind (still_stuck _) fun _ => born_map
theorem born_makeSlice (t : TypeId) (a b : Value) : Born P (Instr.makeSlice t a b) := by
  unfold Instr.makeSlice
  refine born_bind (still_underlying t) fun d => ?_
  cases d with
  | slice elem =>
    refine born_bind (still_asInt a) fun l => born_bind (still_asInt b) fun c => born_bind (still_typeInfo elem) fun i => ?_
    extract_lets bytes tooLarge l0 c0 j1
    have hj : ∀ y, Born P (j1 y) := fun y => by
      refine born_bind (still_askRoom _) fun _ => born_bind (still_sizeOf elem) fun n => ?_
      extract_lets n0 j2
      have hj2 : ∀ cs, Born P (j2 cs) := fun cs => born_row _ _ _ _
      split
      · exact hj2 _
      · exact born_bind (still_zeroValue _) fun z => hj2 _
    split
    · split
      · exact born_bind (still_error _) fun y => hj y
      · split
        · exact born_bind (still_error _) fun y => hj y
        · refine born_never fun h x h' hc => ?_
          rw [crun_bind] at hc; cases hc
    · exact hj ()
  | _ => exact born_stuck _
theorem born_buildSlice (t : TypeId) (len : Nat) (ps : Array (Nat × Value)) : Born P (Instr.buildSlice t len ps) := by
  unfold Instr.buildSlice
  refine born_bind (still_underlying t) fun d => ?_
  cases d with
  | slice elem =>
    refine born_bind (still_sizeOf elem) fun size => ?_
    extract_lets j1 j2
    have hj1 : ∀ cs, Born P (j1 cs) := fun cs => by
      simp only [j1]
      split
      · exact born_row _ _ _ _
      · exact born_stuck _
    have hj2 : ∀ y, Born P (j2 y) := fun y => by
      simp only [j2]
      split
      · exact hj1 _
      · exact born_bind (still_zeroValue _) fun z => hj1 _
    split
    · exact born_bind (still_unsupported _) fun y => hj2 y
    · exact hj2 ()
  | _ => exact born_stuck _
theorem val_ok {x : Option (Except Value Value × World)} {v : Value} {h' : World} (h : val x = some (.ok (.value v), h')) : x = some (.ok v, h') := by
  cases x with
  | none => cases h
  | some y => obtain ⟨r, h1⟩ := y; cases r <;> cases h; rfl
/-- an allocation with operands that hold no address: what it makes, whatever the memory -/
theorem floatOf_run {e e' : Operand → Value} {o : Oper} {v : Value} {O : Obj} (hf : floatOf P e o = some (v, O)) (he : ∀ x ∈ o.op.operands.toList, opOK x = true → VR u (e x) (e' x)) :
    ∃ sh : Shape, v = sh.at 0 ∧ (∀ w, (execOp e' o).run P w = .ok (.value (sh.at w.heap.size)) (w.alloc O)) ∧ OR [] O O ∧ (∀ u r s, RR u r s → VR u (sh.at r) (sh.at s)) ∧ O ≠ dead ∧
      ∃ n z, ∀ (c : Array Value) (t : TypeId) (fz : Nat × Nat), O = .cells c t fz → z = P.cellsOf t ∧ ∃ (c' : Array Value) (fz' : Nat × Nat), O = .cells c' t fz' ∧ n ≤ c'.size := by
  unfold floatOf at hf
  split at hf
  case isFalse => cases hf
  rename_i hcond
  rw [Bool.and_eq_true] at hcond
  obtain ⟨hfl, hcl⟩ := hcond
  split at hf
  case h_2 => cases hf
  rename_i v1 h' hcop
  split at hf
  case h_2 => cases hf
  rename_i O1 hheap
  split at hf
  case isFalse => cases hf
  rename_i hok
  cases hf
  have hopok : ∀ x ∈ o.op.operands.toList, opOK x = true := by
    unfold cop at hcop
    split at hcop
    · rename_i hall; exact fun x hx => List.all_eq_true.1 hall x hx
    · cases hcop
  have hee : ∀ x ∈ o.op.operands.toList, e' x = e x := fun x hx => (he x hx (hopok x hx)).eq_of_closed (List.all_eq_true.1 hcl x hx)
  have hexec : execOp e' o = execOp e o := execOp_congr o (fun cs b hs => by rw [hs] at hfl; simp [isFl] at hfl) fun x hx => hee x (by simpa using hx)
  have key : ∀ s : Sem Value, Born P s → crun P s { heap := #[], tape := fun _ _ => 0, drawn := 0, os := default, output := #[] } = some (.ok v, h') → execOp e o = (do pure (Next.value (← s))) →
      ∃ sh : Shape, v = sh.at 0 ∧ ∀ w, (execOp e' o).run P w = .ok (.value (sh.at w.heap.size)) (w.alloc O) := fun s hs hc hx => by
    obtain ⟨sh, O2, k1, k2, k3⟩ := hs _ _ _ hc
    have : O2 = O := by
      rw [k2] at hheap
      have h3 : [O2] = [O] := hheap
      injection h3
    subst this
    exact ⟨sh, k1, fun w => by rw [hexec, hx, Sem.run_bind, k3 w]; rfl⟩
  have hrun : ∃ sh : Shape, v = sh.at 0 ∧ ∀ w, (execOp e' o).run P w = .ok (.value (sh.at w.heap.size)) (w.alloc O) := by
    obtain ⟨dst, op, type, pos, after, guard⟩ := o
    unfold cop at hcop
    split at hcop
    case isFalse => cases hcop
    simp only at hcop hfl
    cases op with
    | alloc t =>
      dsimp only at hcop
      split at hcop
      · exact key _ (born_alloc t) (val_ok hcop) rfl
      · cases hcop
    | box t x => exact key _ (born_box t _) (val_ok hcop) rfl
    | buildSlice t len ps =>
      dsimp only at hcop
      split at hcop
      · exact key _ (born_buildSlice t len _) (val_ok hcop) (by rw [mapC_eq]; rfl)
      · cases hcop
    | makeMap t r => exact key _ (born_makeMap t _) (val_ok hcop) rfl
    | makeSlice t l c =>
      dsimp only at hcop
      split at hcop
      · exact key _ (born_makeSlice t _ _) (val_ok hcop) rfl
      · cases hcop
    | _ => simp [isFl] at hfl
  obtain ⟨sh, hv, hr⟩ := hrun
  unfold flOK at hok
  rw [Bool.and_eq_true] at hok
  refine ⟨sh, hv, hr, ?_, ?_, ?_, ?_⟩
  · cases O with
    | cells c t fz =>
      have h1 := hok.1
      simp only [Bool.and_eq_true, decide_eq_true_eq] at h1
      rw [h1.1]
      refine .cells (Nat.le_refl _) (fun i a b ha hb => ?_) (.inl (Nat.le_refl _))
      rw [ha] at hb; cases hb
      exact VR.of_closed (closed_all h1.2 ha)
    | map es c =>
      have h1 : es = #[] := by simpa using hok.1
      subst h1
      exact .map ⟨rfl, fun i x y hx => by simp at hx⟩
    | _ => simp at hok
  · intro u r s hrs
    cases sh with
    | ptr => exact .ptr ⟨hrs, rfl, rfl⟩
    | row n c =>
      refine .slice n c ⟨hrs, rfl, rfl⟩ ?_
      rw [hv] at hok
      simpa [Shape.at] using hok.2
    | map => exact .map hrs
  · rintro rfl
    simp [dead] at hok
  · cases O with
    | cells c t fz => exact ⟨c.size, P.cellsOf t, fun c' t' fz' h => by cases h; exact ⟨rfl, _, _, rfl, Nat.le_refl _⟩⟩
    | _ => exact ⟨0, 0, fun c' t' fz' h => by cases h⟩
/-- one operation of a region, behind its own run -/
theorem op_step {fn : FuncId} {us : Array Value} {ops : Array Oper} {i : Nat} {rest : List Nat} {k' : List Item} {es : List Deferred} {kd : CallKind} {ro' : Option Nat} {cs : List Frame} {w w' : World} {o : Oper} {v : Value}
    (ho : ops[i]? = some o) (hw : Region.wanted o (yielded ops us) = true) (hdf : ∀ c, o.op ≠ .defer c) {n : Next} (hn : (execOp (evalT us) o).run P w = .ok n w') (hv : n = .value v ∨ (n = .skip ∧ v = undef)) :
    Steps P (lone ⟨fn, us, .inRegion ops (i :: rest) :: k', es, .run, kd, ro'⟩ cs w) (lone ⟨fn, putT o.dst v us, .inRegion ops rest :: k', es, .run, kd, ro'⟩ cs w') := by
  have fin : Frame.finish ⟨fn, us, .inRegion ops (i :: rest) :: k', es, .run, kd, ro'⟩ v = ⟨fn, putT o.dst v us, .inRegion ops rest :: k', es, .run, kd, ro'⟩ := by
    simp only [Frame.finish, ho, Option.bind_some, putT]
    cases o.dst <;> rfl
  have hst := exec_op (P := P) (fn := fn) (R := rest) (k' := k') (es := es) (kd := kd) (ro' := ro') (cs := cs) (w := w) ho hw
  have hst : (stepG P true { frame := ⟨fn, us, .inRegion ops (i :: rest) :: k', es, .run, kd, ro'⟩, callers := cs, status := .running, dying := none } w).bare =
      (stepG.apply P true ⟨fn, us, .inRegion ops (i :: rest) :: k', es, .run, kd, ro'⟩ cs none (execOp (Frame.eval ⟨fn, us, .inRegion ops (i :: rest) :: k', es, .run, kd, ro'⟩) o) w).bare := by
    rw [hst]
    cases ro' with
    | none => rfl
    | some l =>
      cases hop : o.op <;> first | rfl | exact (hdf _ hop).elim
  have hn' : (execOp (Frame.eval ⟨fn, us, .inRegion ops (i :: rest) :: k', es, .run, kd, ro'⟩) o).run P w = .ok n w' := by rw [evalT_eq]; exact hn
  rcases hv with rfl | ⟨rfl, rfl⟩
  · have := stp (hst.trans (apply_next (cs := cs) rfl hn'))
    rw [fin] at this
    exact this
  · have := stp (hst.trans (apply_next (cs := cs) rfl hn'))
    rw [fin] at this
    exact this
open Classical in
theorem op_sound (hz : Fine P) {call : FuncId → Array Value → World → Option (List (Value × World))} (hcall : CallOK P call) {e : Operand → Value} {fn : FuncId} {us : Array Value} {ops : Array Oper} {i : Nat} {rest : List Nat} {k' : List Item}
    {es : List Deferred} {kd : CallKind} {ro' : Option Nat} {cs : List Frame} {h w : World} {o : Oper} (ho : ops[i]? = some o) (hw : Region.wanted o (yielded ops us) = true) (hdf : ∀ c, o.op ≠ .defer c)
    (he : ∀ x ∈ o.op.operands.toList, opOK x = true → VR u (e x) (evalT us x)) (hh : HR P N u h w) {outs : List (Value × World)} (hb : bigop P call e o h = some outs) :
    ∃ x ∈ outs, ∃ u' w' v', Ext u u' ∧ HR P N u' x.2 w' ∧ Keeps N w w' ∧ VR u' x.1 v' ∧
      Steps P (lone ⟨fn, us, .inRegion ops (i :: rest) :: k', es, .run, kd, ro'⟩ cs w) (lone ⟨fn, putT o.dst v' us, .inRegion ops rest :: k', es, .run, kd, ro'⟩ cs w') := by
  let e1 : Operand → Value := fun x => if x ∈ o.op.operands.toList then e x else .nilIface
  let e2 : Operand → Value := fun x => if x ∈ o.op.operands.toList then evalT us x else .nilIface
  have hER : ER u e1 e2 := fun x hx => by
    simp only [e1, e2]
    split
    · exact he x (by assumption) hx
    · exact .nilIface
  have hc : cop P e o h = cop P e1 o h := cop_congr o (fun x hx => by simp only [e1]; rw [if_pos hx]) h
  have hcs : ∀ r, cop P e o h = some r → ∀ cs b, o.op ≠ .select cs b := fun r hr cs b hs => by
    obtain ⟨dst, op, type, pos, after, guard⟩ := o
    simp only at hs
    subst hs
    unfold cop at hr
    split at hr
    · have hr : cquiet P e _ h = some r := hr
      unfold cquiet at hr
      simp [noSelect] at hr
    · cases hr
  have hx : ∀ r, cop P e o h = some r → execOp (evalT us) o = execOp e2 o := fun r hr => execOp_congr o (hcs r hr) fun x hx => by simp only [e2]; rw [if_pos (by simpa using hx)]
  unfold bigop at hb
  split at hb
  · rename_i v h1 hcop
    cases hb
    obtain ⟨u1, w1, e1', H1, b1, n', hn', hN⟩ := sim_cop hz hER o h w hh _ _ (hc ▸ hcop)
    rw [← hx _ hcop] at hn'
    cases hN with
    | @value _ v' hv => exact ⟨_, .head _, u1, w1, v', e1', H1, b1, hv, op_step ho hw hdf hn' (.inl rfl)⟩
  · rename_i h1 hcop
    cases hb
    obtain ⟨u1, w1, e1', H1, b1, n', hn', hN⟩ := sim_cop hz hER o h w hh _ _ (hc ▸ hcop)
    rw [← hx _ hcop] at hn'
    cases hN with
    | skip => exact ⟨_, .head _, u1, w1, undef, e1', H1, b1, VR.undef _, op_step ho hw hdf hn' (.inr ⟨rfl, rfl⟩)⟩
  · rename_i f args h1 hcop
    obtain ⟨u1, w1, e1', H1, b1, n', hn', hN⟩ := sim_cop hz hER o h w hh _ _ (hc ▸ hcop)
    rw [← hx _ hcop] at hn'
    cases hN with
    | @enter _ _ args' ha =>
      obtain ⟨x, hxm, u2, w2, v', fr, e3, H2, b2, hV, hsteps, hfn, hleave⟩ := hcall f args h1 outs hb N u1 args' w1 ha H1 (⟨fn, us, .inRegion ops (i :: rest) :: k', es, .run, kd, ro'⟩ :: cs)
      refine ⟨x, hxm, u2, w2, v', e1'.trans e3, H2, b1.trans b2, hV, ?_⟩
      have fin : Frame.finish ⟨fn, us, .inRegion ops (i :: rest) :: k', es, .run, kd, ro'⟩ v' = ⟨fn, putT o.dst v' us, .inRegion ops rest :: k', es, .run, kd, ro'⟩ := by
        simp only [Frame.finish, ho, Option.bind_some, putT]
        cases o.dst <;> rfl
      have hst := exec_op (P := P) (fn := fn) (R := rest) (k' := k') (es := es) (kd := kd) (ro' := ro') (cs := cs) (w := w) ho hw
      have hst : (stepG P true { frame := ⟨fn, us, .inRegion ops (i :: rest) :: k', es, .run, kd, ro'⟩, callers := cs, status := .running, dying := none } w).bare =
          (stepG.apply P true ⟨fn, us, .inRegion ops (i :: rest) :: k', es, .run, kd, ro'⟩ cs none (execOp (Frame.eval ⟨fn, us, .inRegion ops (i :: rest) :: k', es, .run, kd, ro'⟩) o) w).bare := by
        rw [hst]
        cases ro' with
        | none => rfl
        | some l =>
          cases hop : o.op <;> first | rfl | exact (hdf _ hop).elim
      have hn2 : (execOp (Frame.eval ⟨fn, us, .inRegion ops (i :: rest) :: k', es, .run, kd, ro'⟩) o).run P w = .ok (.enter f args') w1 := by rw [evalT_eq]; exact hn'
      have h0 := stp (hst.trans (apply_next (cs := cs) rfl hn2))
      have h1 := Steps.one (step_leave_returned (c := ⟨fn, us, .inRegion ops (i :: rest) :: k', es, .run, kd, ro'⟩) (cs := cs) hleave)
      rw [fin] at h1
      exact h0.trans (hsteps.trans h1)
  · cases hb
/-- an allocation of the region: its number in the text, the canonical block kept for it, what it makes -/
structure Fl where
  i : Nat
  b : Nat
  O : Obj
def view (sel : Fl → Bool) : List Fl → World → World
  | [], h => h
  | q :: fl, h => view sel fl (if sel q then { h with heap := h.heap.setIfInBounds q.b q.O } else h)
def viewU (sel : Fl → Bool) (φ : Nat → Nat × Nat × Nat) : List Fl → Ren → Ren
  | [], u => u
  | q :: fl, u => viewU sel φ fl (if sel q then u.set q.b (some (φ q.i)) else u)
def Real (P : Program) (w : World) (x : Nat × Nat × Nat) (O : Obj) : Prop :=
  ∃ o', w.heap[x.1]? = some o' ∧ OR [] O o' ∧ O ≠ dead ∧ ∀ (c : Array Value) (e : TypeId) (fz : Nat × Nat), O = .cells c e fz → x.2.2 = P.cellsOf e ∧ ∃ (c' : Array Value) (fz' : Nat × Nat), o' = .cells c' e fz' ∧ x.2.1 ≤ c'.size
theorem ent_set (u : Ren) (b r : Nat) (x : Nat × Nat × Nat) (hb : b < u.length) : ent (u.set b (some x)) r = if b = r then some x else ent u r := by
  unfold ent
  rw [List.getElem?_set]
  by_cases e : b = r
  · subst e; rw [if_pos rfl, if_pos rfl, if_pos hb]; rfl
  · rw [if_neg e, if_neg e]
theorem ent_viewU {sel : Fl → Bool} {φ : Nat → Nat × Nat × Nat} : ∀ (fl : List Fl) (u : Ren), fl.Pairwise (fun p q => p.b ≠ q.b) → (∀ q ∈ fl, q.b < u.length) →
    (∀ q ∈ fl, sel q = true → ent (viewU sel φ fl u) q.b = some (φ q.i)) ∧ (∀ r, (∀ q ∈ fl, sel q = true → q.b ≠ r) → ent (viewU sel φ fl u) r = ent u r) ∧ (viewU sel φ fl u).length = u.length
  | [], u, hp, hb => ⟨(fun q hq => by cases hq), fun r _ => rfl, rfl⟩
  | p :: fl, u, hp, hb => by
    cases hp with
    | cons hp1 hp2 =>
      unfold viewU
      obtain ⟨h1, h2, h3⟩ := ent_viewU (sel := sel) (φ := φ) fl (if sel p then u.set p.b (some (φ p.i)) else u) hp2 (fun q hq => by have := hb q (.tail _ hq); split <;> simpa using this)
      have hpb := hb p (.head _)
      refine ⟨fun q hq hs => ?_, fun r hr => ?_, by rw [h3]; split <;> simp⟩
      · rcases List.mem_cons.1 hq with rfl | hq
        · rw [h2 _ (fun q' hq' _ e => hp1 q' hq' e.symm), if_pos hs, ent_set _ _ _ _ hpb, if_pos rfl]
        · exact h1 q hq hs
      · rw [h2 r (fun q hq hs => hr q (.tail _ hq) hs)]
        split
        · rename_i hs
          rw [ent_set _ _ _ _ hpb, if_neg (hr p (.head _) hs)]
        · rfl
theorem view_at {sel : Fl → Bool} : ∀ (fl : List Fl) (h : World), (∀ r, (∀ q ∈ fl, sel q = true → q.b ≠ r) → (view sel fl h).heap[r]? = h.heap[r]?) ∧ (view sel fl h).heap.size = h.heap.size
  | [], h => ⟨fun r _ => rfl, rfl⟩
  | p :: fl, h => by
    unfold view
    obtain ⟨h1, h2⟩ := view_at (sel := sel) fl (if sel p then { h with heap := h.heap.setIfInBounds p.b p.O } else h)
    refine ⟨fun r hr => ?_, by rw [h2]; split <;> simp⟩
    rw [h1 r fun q hq hs => hr q (.tail _ hq) hs]
    split
    · rename_i hs
      simp only [Array.getElem?_setIfInBounds]
      rw [if_neg (hr p (.head _) hs)]
    · rfl
theorem HR.reveal {sel : Fl → Bool} {φ : Nat → Nat × Nat × Nat} {w : World} : ∀ (fl : List Fl) {N : Nat → Prop} {u : Ren} {h : World}, HR P N u h w → fl.Pairwise (fun p q => p.b ≠ q.b) →
    (∀ q ∈ fl, sel q = true → h.heap[q.b]? = some dead ∧ ent u q.b = none ∧ N (φ q.i).1 ∧ Real P w (φ q.i) q.O) → fl.Pairwise (fun p q => sel p = true → sel q = true → (φ p.i).1 ≠ (φ q.i).1) →
    HR P (fun x => N x ∧ ∀ q ∈ fl, sel q = true → x ≠ (φ q.i).1) (viewU sel φ fl u) (view sel fl h) w
  | [], N, u, h, H, hp, hq, hd => H.mono fun b hb => hb.1
  | p :: fl, N, u, h, H, hp, hq, hd => by
    cases hp with
    | cons hp1 hp2 =>
      cases hd with
      | cons hd1 hd2 =>
        unfold view viewU
        by_cases hs : sel p = true
        · rw [if_pos hs, if_pos hs]
          obtain ⟨q1, q2, q3, o', q4, q5, q6, q7⟩ := hq p (.head _) hs
          have hlt := (Array.getElem?_eq_some_iff.1 q1).1
          have H1 := H.fill (n := (φ p.i).2.1) (z := (φ p.i).2.2) hlt q1 q2 q3 q4 q5 q6 q7
          have := HR.reveal (sel := sel) (φ := φ) fl H1 hp2 (fun q hqm hqs => by
            obtain ⟨k1, k2, k3, k4⟩ := hq q (.tail _ hqm) hqs
            refine ⟨?_, ?_, ⟨k3, fun e => hd1 q hqm hs hqs e.symm⟩, k4⟩
            · simp only [Array.getElem?_setIfInBounds]; rw [if_neg (hp1 q hqm)]; exact k1
            · rw [ent_set _ _ _ _ (by rw [← H.size]; exact hlt), if_neg (hp1 q hqm)]; exact k2) hd2
          exact this.mono fun b hb => ⟨⟨hb.1, hb.2 p (.head _) hs⟩, fun q hqm hqs => hb.2 q (.tail _ hqm) hqs⟩
        · rw [if_neg hs, if_neg hs]
          have := HR.reveal (sel := sel) (φ := φ) fl H hp2 (fun q hqm hqs => hq q (.tail _ hqm) hqs) hd2
          exact this.mono fun b hb => ⟨hb.1, fun q hqm hqs => hb.2 q (.tail _ hqm) hqs⟩
end
end Go.Proofs.Simul
/-
  A canonical run serves every run. Part W: a region whose order is open, run once in the order of the text.
-/
namespace Go.Proofs.Simul
open Go Go.RowKit

structure Row where
  i : Nat
  o : Oper
  pre : Array Value
  v : Value
  w : Bool
  eff : Bool
  flt : Option Obj
  S : World
  h1 : World
  ac : Nat
  anc : Nat
  fl : List Fl
  nb : Nat
  c : Nat
structure LS where
  ts : Array Value
  S : World
  ac : Nat
  fl : List Fl
  nb : Nat
  c : Nat
def maskOf (ms : List Nat) (o : Oper) : Nat :=
  o.after.toList.foldl (fun a e => if Region.binds .any e then a ||| 2 ^ e.on ||| ms.getD e.on 0 else a) 0
def sel (ai ac : Nat) (q : Fl) : Bool := ai.testBit q.i && !ac.testBit q.i
def isDead : Option Obj → Bool
  | some (.pending cs e) => cs.size == 0 && e == 0
  | _ => false
theorem isDead_eq {o : Option Obj} (h : isDead o = true) : o = some dead := by
  unfold isDead at h
  split at h
  · rename_i cs e
    simp only [Bool.and_eq_true, beq_iff_eq] at h
    obtain ⟨h1, rfl⟩ := h
    have : cs = #[] := by cases cs; simp_all
    subst this; rfl
  · cases h
def nbAfter (o : Oper) (nb : Nat) : Nat := if isFl o.op then nb + 1 else nb
def Row.nb' (r : Row) : Nat := nbAfter r.o r.nb
def Row.next (r : Row) : LS :=
  ⟨putT r.o.dst r.v r.pre, if r.eff then r.h1 else r.S, if r.eff then r.anc else r.ac, (match r.flt with | some O => r.fl ++ [⟨r.i, r.nb, O⟩] | none => r.fl), r.nb', if r.eff then r.c + 1 else r.c⟩
/-- the places of blocks that are hidden, or not made yet, are still free -/
def okHoles (h1 : World) (a : Nat) (fl : List Fl) (nb top : Nat) : Bool :=
  fl.all (fun q => a.testBit q.i || isDead h1.heap[q.b]?) && (List.range' nb (top - nb)).all fun b => isDead h1.heap[b]?
def rowOf (P : Program) (call : FuncId → Array Value → World → Option (List (Value × World))) (ops : Array Oper) (top : Nat) (i a : Nat) (s : LS) (o : Oper) : Option Row :=
  if Region.wanted o (yielded ops s.ts) then
    match (if isFl o.op then floatOf P (evalT s.ts) o else none) with
    | some (v, O) => some ⟨i, o, s.ts, renum s.nb v, true, false, some O, s.S, s.S, s.ac, a, s.fl, s.nb, s.c⟩
    | none =>
      if isEff P o.op then
        match bigop P call (evalT s.ts) o (view (sel a s.ac) s.fl s.S) with
        | some [(v, h1)] =>
          if Nat.lor s.ac a == a && okHoles h1 a s.fl (nbAfter o s.nb) top then some ⟨i, o, s.ts, v, true, true, none, s.S, h1, s.ac, a, s.fl, s.nb, s.c⟩ else none
        | _ => none
      else
        match cop P (evalT s.ts) o (view (sel a s.ac) s.fl s.S) with
        | some (.ok (.value v), _) => some ⟨i, o, s.ts, v, true, false, none, s.S, s.S, s.ac, a, s.fl, s.nb, s.c⟩
        | _ => none
  else some ⟨i, o, s.ts, undef, false, false, none, s.S, s.S, s.ac, a, s.fl, s.nb, s.c⟩
def lexRows (P : Program) (call : FuncId → Array Value → World → Option (List (Value × World))) (ops : Array Oper) (top : Nat) : List Oper → Nat → List Nat → LS → Option (List Row × LS)
  | [], _, _, s => some ([], s)
  | o :: l, i, ms, s =>
    match rowOf P call ops top i (maskOf ms o) s o with
    | none => none
    | some r =>
      match lexRows P call ops top l (i + 1) (ms ++ [maskOf ms o]) r.next with
      | none => none
      | some (rs, z) => some (r :: rs, z)
def avoids (q : Row) (t : Nat) : Bool := match q.o.dst with
  | some d => d != t
  | none => true
def chkOp (rows : List Row) (r : Row) : Bool :=
  (match r.o.guard with | none => true | some (j, _) => r.anc.testBit j) &&
  ((!r.w || r.o.op.operands.toList.all fun x => match x with
    | .tmp t => rows.all fun q => avoids q t || (r.anc.testBit q.i && Nat.lor q.anc r.anc == r.anc) || q.anc.testBit r.i
    | _ => true) &&
  (r.o.after.toList.all fun e => !Region.binds .any e || decide (e.on < r.i)))
def dist : Nat → List Row → Bool
  | _, [] => true
  | acc, r :: rs => match r.o.dst with
    | none => dist acc rs
    | some t => !acc.testBit t && dist (acc ||| 2 ^ t) rs
def ordered : List Row → Bool
  | [] => true
  | e :: es => es.all (fun f => f.anc.testBit e.i) && ordered es
def okAt (P : Program) (r : Row) (h : World) (ac : Nat) : Bool :=
  match cop P (evalT r.pre) r.o (view (sel r.anc ac) r.fl h) with
  | some (.ok (.value v), _) => veq 9 v r.v
  | _ => false
def looks (P : Program) (r : Row) : Nat → World → Nat → List Row → Bool
  | m, h, ac, [] => m == r.c || okAt P r h ac
  | m, h, ac, e :: es => (m == r.c || (e :: es).any (fun e => r.anc.testBit e.i) || okAt P r h ac) && (e.anc.testBit r.i || looks P r (m + 1) e.h1 e.anc es)
def holes : Nat → World → World
  | 0, h => h
  | n + 1, h => holes n (h.alloc dead)
def countFl (l : List Oper) : Nat := (l.filter fun o => isFl o.op).length
def lex (P : Program) (call : FuncId → Array Value → World → Option (List (Value × World))) (ops : Array Oper) (ts : Array Value) (h : World) : Option (Array Value × World) :=
  match lexRows P call ops (h.heap.size + countFl ops.toList) ops.toList 0 [] ⟨ts, holes (countFl ops.toList) h, 0, [], h.heap.size, 0⟩ with
  | none => none
  | some (rows, z) =>
    if dist 0 rows && (ordered (rows.filter (·.eff)) && (rows.all (chkOp rows) && rows.all fun r => r.eff || !r.w || r.flt.isSome || looks P r 0 (holes (countFl ops.toList) h) 0 (rows.filter (·.eff)))) then some (z.ts, view (fun q => !z.ac.testBit q.i) z.fl z.S) else none
section
variable {P : Program} {call : FuncId → Array Value → World → Option (List (Value × World))} {ops : Array Oper}
def Edged (ops : Array Oper) (D : List Nat) (i : Nat) : Prop := ∀ o, ops[i]? = some o → ∀ e ∈ o.after.toList, Region.binds .any e = true → e.on ∈ D
def Shut (ops : Array Oper) (D : List Nat) : Prop := ∀ i ∈ D, Edged ops D i
def Anc (ops : Array Oper) (i j : Nat) : Prop := ∀ D, Shut ops D → Edged ops D i → j ∈ D
theorem maskOf_ok {ms : List Nat} {i : Nat} {o : Oper} (ho : ops[i]? = some o) (hms : ∀ k m : Nat, ms[k]? = some m → ∀ j, m.testBit j = true → Anc ops k j) : ∀ j, (maskOf ms o).testBit j = true → Anc ops i j := by
  intro j hj D hD hE
  have hE := hE o ho
  unfold maskOf at hj
  have key : ∀ (l : List Edge) (a : Nat), (∀ e ∈ l, Region.binds .any e = true → e.on ∈ D) → (a.testBit j = true → j ∈ D) →
      (l.foldl (fun a e => if Region.binds .any e then a ||| 2 ^ e.on ||| ms.getD e.on 0 else a) a).testBit j = true → j ∈ D := by
    intro l
    induction l with
    | nil => intro a _ ha h; exact ha h
    | cons e l ih =>
      intro a hl ha h
      rw [List.foldl_cons] at h
      refine ih _ (fun e he => hl e (.tail _ he)) (fun h2 => ?_) h
      by_cases hb : Region.binds .any e = true
      · rw [if_pos hb, Nat.testBit_or, Nat.testBit_or, Bool.or_eq_true, Bool.or_eq_true] at h2
        rcases h2 with (h2 | h2) | h2
        · exact ha h2
        · rw [Nat.testBit_two_pow] at h2
          have : e.on = j := by simpa using h2
          rw [← this]; exact hl e (.head _) hb
        · cases hm : ms[e.on]? with
          | none => rw [List.getD_eq_getElem?_getD, hm] at h2; simp at h2
          | some m =>
            rw [List.getD_eq_getElem?_getD, hm] at h2
            exact hms _ _ hm j h2 D hD (hD _ (hl e (.head _) hb))
      · rw [if_neg hb] at h2; exact ha h2
  exact key _ 0 hE (fun h => by simp at h) hj
structure RowOK (P : Program) (call : FuncId → Array Value → World → Option (List (Value × World))) (ops : Array Oper) (top : Nat) (r : Row) : Prop where
  w : Region.wanted r.o (yielded ops r.pre) = r.w
  no : r.w = false → r.v = undef ∧ r.eff = false ∧ r.flt = none
  eff : r.eff = true → r.w = true ∧ r.flt = none ∧ bigop P call (evalT r.pre) r.o (view (sel r.anc r.ac) r.fl r.S) = some [(r.v, r.h1)] ∧ (∀ j, r.ac.testBit j = true → r.anc.testBit j = true) ∧
    (∀ q ∈ r.fl, r.anc.testBit q.i = false → r.h1.heap[q.b]? = some dead) ∧ ∀ b, r.nb' ≤ b → b < top → r.h1.heap[b]? = some dead
  flt : ∀ O, r.flt = some O → r.w = true ∧ r.eff = false ∧ isFl r.o.op = true ∧ ∃ v0, floatOf P (evalT r.pre) r.o = some (v0, O) ∧ r.v = renum r.nb v0
  look : r.w = true → r.eff = false → r.flt = none → isEff P r.o.op = false ∧ ∃ h', cop P (evalT r.pre) r.o (view (sel r.anc r.ac) r.fl r.S) = some (.ok (.value r.v), h')
  anc : ∀ j, r.anc.testBit j = true → Anc ops r.i j
def Chain (P : Program) (call : FuncId → Array Value → World → Option (List (Value × World))) (ops : Array Oper) (top : Nat) : List Row → Nat → LS → LS → Prop
  | [], i, s, sF => sF = s
  | r :: rs, i, s, sF => r.i = i ∧ r.pre = s.ts ∧ r.S = s.S ∧ r.ac = s.ac ∧ r.fl = s.fl ∧ r.nb = s.nb ∧ r.c = s.c ∧ RowOK P call ops top r ∧ Chain P call ops top rs (i + 1) r.next sF
theorem drop_head {α : Type} {l : List α} {i : Nat} {a : α} {r : List α} (h : l.drop i = a :: r) : l[i]? = some a ∧ l.drop (i + 1) = r := by
  constructor
  · have : (l.drop i)[0]? = some a := by rw [h]; rfl
    simpa using this
  · rw [← List.drop_drop, h]; rfl
theorem lor_sub {a b : Nat} (h : (Nat.lor a b == b) = true) (j : Nat) (hj : a.testBit j = true) : b.testBit j = true := by
  have : Nat.lor a b = b := by simpa using h
  rw [← this]
  show (a ||| b).testBit j = true
  rw [Nat.testBit_or, hj]; rfl
theorem rowOf_ok {top i a : Nat} {s : LS} {o : Oper} {r : Row} (h : rowOf P call ops top i a s o = some r) (ha : ∀ j, a.testBit j = true → Anc ops i j) :
    r.i = i ∧ r.o = o ∧ r.anc = a ∧ r.pre = s.ts ∧ r.S = s.S ∧ r.ac = s.ac ∧ r.fl = s.fl ∧ r.nb = s.nb ∧ r.c = s.c ∧ RowOK P call ops top r := by
  unfold rowOf at h
  split at h
  · rename_i hw
    split at h
    · rename_i v O hf
      cases h
      split at hf
      case isFalse => cases hf
      rename_i hfl
      exact ⟨rfl, rfl, rfl, rfl, rfl, rfl, rfl, rfl, rfl, ⟨hw, (fun h => by cases h), (fun h => by cases h), (fun O' hO => by cases hO; exact ⟨rfl, rfl, hfl, v, hf, rfl⟩), (fun _ _ h => by cases h), ha⟩⟩
    · split at h
      · rename_i he
        split at h
        case h_2 => cases h
        rename_i v h1 hb
        split at h
        case isFalse => cases h
        rename_i hk
        cases h
        rw [Bool.and_eq_true] at hk
        unfold okHoles at hk
        rw [Bool.and_eq_true] at hk
        refine ⟨rfl, rfl, rfl, rfl, rfl, rfl, rfl, rfl, rfl, ⟨hw, (fun h => by cases h), (fun _ => ⟨rfl, rfl, hb, lor_sub hk.1, fun q hq hqa => ?_, fun b hb1 hb2 => ?_⟩), (fun O' hO => by cases hO), (fun _ h => by cases h), ha⟩⟩
        · have := List.all_eq_true.1 hk.2.1 q hq
          simp only [hqa, Bool.false_or] at this
          exact isDead_eq this
        · refine isDead_eq (List.all_eq_true.1 hk.2.2 b ?_)
          rw [List.mem_range'_1]
          have hb1 : nbAfter o s.nb ≤ b := hb1
          omega
      · rename_i hne
        split at h
        case h_2 => cases h
        rename_i v h1 hb
        cases h
        exact ⟨rfl, rfl, rfl, rfl, rfl, rfl, rfl, rfl, rfl, ⟨hw, (fun h => by cases h), (fun h => by cases h), (fun O' hO => by cases hO), (fun _ _ _ => ⟨by simpa using hne, _, hb⟩), ha⟩⟩
  · rename_i hw
    cases h
    exact ⟨rfl, rfl, rfl, rfl, rfl, rfl, rfl, rfl, rfl, ⟨by simpa using hw, (fun h => ⟨rfl, rfl, rfl⟩), (fun h => by cases h), (fun O' hO => by cases hO), (fun h => by cases h), ha⟩⟩
theorem lexRows_chain {top : Nat} : ∀ (l : List Oper) (i : Nat) (ms : List Nat) (s : LS) (rows : List Row) (sF : LS), lexRows P call ops top l i ms s = some (rows, sF) → ops.toList.drop i = l → ms.length = i →
    (∀ k m : Nat, ms[k]? = some m → ∀ j, m.testBit j = true → Anc ops k j) → Chain P call ops top rows i s sF ∧ rows.map (·.o) = l
  | [], i, ms, s, rows, sF, hl, hd, hn, hm => by
    unfold lexRows at hl
    cases hl
    exact ⟨rfl, rfl⟩
  | o :: l, i, ms, s, rows, sF, hl, hd, hn, hm => by
    obtain ⟨h0, hd'⟩ := drop_head hd
    have ho : ops[i]? = some o := by simpa using h0
    have ha := maskOf_ok ho hm
    have hn' : (ms ++ [maskOf ms o]).length = i + 1 := by simp [hn]
    have hm' : ∀ k m : Nat, (ms ++ [maskOf ms o])[k]? = some m → ∀ j, m.testBit j = true → Anc ops k j := by
      intro k m hk j hj
      rcases Nat.lt_or_ge k ms.length with hlt | hge
      · rw [List.getElem?_append_left hlt] at hk; exact hm k m hk j hj
      · rw [List.getElem?_append_right hge] at hk
        rcases Nat.eq_zero_or_pos (k - ms.length) with h0 | hp
        · rw [h0] at hk
          have : maskOf ms o = m := by simpa using hk
          have hki : k = i := by omega
          rw [hki]; exact ha j (by rw [this]; exact hj)
        · rw [List.getElem?_eq_none (by simp; omega)] at hk; cases hk
    unfold lexRows at hl
    split at hl
    · cases hl
    rename_i r hr
    split at hl
    · cases hl
    rename_i rs z hz
    cases hl
    obtain ⟨e1, e2, e3, e4, e5, e6, e7, e8, e9, hok⟩ := rowOf_ok hr ha
    obtain ⟨hc, hmap⟩ := lexRows_chain l (i + 1) _ _ _ _ hz hd' hn' hm'
    exact ⟨⟨e1, e4, e5, e6, e7, e8, e9, hok, hc⟩, by rw [List.map_cons, hmap, e2]⟩
/-- the row of temporaries, when so much is done -/
def St (ops : Array Oper) (V : Nat → Value) (ts0 : Array Value) (D : List Nat) (ts : Array Value) : Prop :=
  ts.size = ts0.size ∧ (∀ j ∈ D, ∀ o t, ops[j]? = some o → o.dst = some t → t < ts0.size → ts[t]? = some (V j)) ∧ (∀ t : Nat, (∀ j ∈ D, ∀ o, ops[j]? = some o → o.dst ≠ some t) → ts[t]? = ts0[t]?)
def Dist (ops : Array Oper) : Prop := ∀ (i j : Nat) (o p : Oper) (t : Nat), ops[i]? = some o → ops[j]? = some p → o.dst = some t → p.dst = some t → i = j
theorem St.congr {V : Nat → Value} {ts0 ts : Array Value} {D D' : List Nat} (h : St ops V ts0 D ts) (he : ∀ j, j ∈ D ↔ j ∈ D') : St ops V ts0 D' ts :=
  ⟨h.1, fun j hj => h.2.1 j ((he j).2 hj), fun t ht => h.2.2 t fun j hj => ht j ((he j).1 hj)⟩
theorem St.put {V : Nat → Value} {ts0 ts : Array Value} {D : List Nat} (hd : Dist ops) (h : St ops V ts0 D ts) {i : Nat} {o : Oper} (ho : ops[i]? = some o) : St ops V ts0 (i :: D) (putT o.dst (V i) ts) := by
  obtain ⟨h1, h2, h3⟩ := h
  cases hdst : o.dst with
  | none =>
    refine ⟨h1, fun j hj p t hp ht hlt => ?_, fun t ht => h3 t fun j hj => ht j (.tail _ hj)⟩
    rcases List.mem_cons.1 hj with rfl | hj
    · rw [ho] at hp; cases hp; rw [hdst] at ht; cases ht
    · exact h2 j hj p t hp ht hlt
  | some d =>
    refine ⟨by simp [putT, h1], fun j hj p t hp ht hlt => ?_, fun t ht => ?_⟩
    · simp only [putT]
      rw [Array.getElem?_setIfInBounds]
      by_cases hdt : d = t
      · subst hdt
        have : i = j := hd i j o p d ho hp hdst ht
        subst this
        rw [if_pos rfl, if_pos (show d < ts.size by rw [h1]; exact hlt)]
      · rw [if_neg hdt]
        rcases List.mem_cons.1 hj with rfl | hj
        · rw [ho] at hp; cases hp; rw [hdst] at ht; cases ht; exact (hdt rfl).elim
        · exact h2 j hj p t hp ht hlt
    · simp only [putT]
      rw [Array.getElem?_setIfInBounds, if_neg (fun hdt => ht i (.head _) o ho (by rw [hdst, hdt]))]
      exact h3 t fun j hj => ht j (.tail _ hj)
theorem St.eq {V : Nat → Value} {ts0 ts us : Array Value} {D : List Nat} (h : St ops V ts0 D ts) (g : St ops V ts0 D us) : ts = us := by
  apply Array.ext_getElem?
  intro t
  by_cases hx : ∀ j ∈ D, ∀ o, ops[j]? = some o → o.dst ≠ some t
  · rw [h.2.2 t hx, g.2.2 t hx]
  · have : ∃ j ∈ D, ∃ o, ops[j]? = some o ∧ o.dst = some t := by
      simpa using hx
    obtain ⟨j, hj, o, ho, ht⟩ := this
    by_cases hlt : t < ts0.size
    · rw [h.2.1 j hj o t ho ht hlt, g.2.1 j hj o t ho ht hlt]
    · rw [Array.getElem?_eq_none (by have := h.1; omega), Array.getElem?_eq_none (by have := g.1; omega)]
theorem dist_ok : ∀ (rs : List Row) (acc : Nat), dist acc rs = true → (∀ q ∈ rs, ∀ t, q.o.dst = some t → acc.testBit t = false) ∧ rs.Pairwise fun a b => ∀ t, a.o.dst = some t → b.o.dst ≠ some t
  | [], acc, h => ⟨(fun q hq => by cases hq), .nil⟩
  | r :: rs, acc, h => by
    unfold dist at h
    split at h
    · rename_i hn
      obtain ⟨h1, h2⟩ := dist_ok rs acc h
      refine ⟨fun q hq t ht => ?_, .cons (fun b hb t ht => by rw [hn] at ht; cases ht) h2⟩
      rcases List.mem_cons.1 hq with rfl | hq
      · rw [hn] at ht; cases ht
      · exact h1 q hq t ht
    · rename_i d hn
      rw [Bool.and_eq_true] at h
      obtain ⟨h1, h2⟩ := dist_ok rs _ h.2
      refine ⟨fun q hq t ht => ?_, .cons (fun b hb t ht hb2 => ?_) h2⟩
      · rcases List.mem_cons.1 hq with rfl | hq
        · rw [hn] at ht; cases ht; simpa using h.1
        · have := h1 q hq t ht
          rw [Nat.testBit_or, Bool.or_eq_false_iff] at this
          exact this.1
      · rw [hn] at ht; cases ht
        have := h1 b hb _ hb2
        rw [Nat.testBit_or, Nat.testBit_two_pow] at this
        simp at this
def heapAt : World → List Row → Nat → World
  | h, e :: es, m + 1 => heapAt e.h1 es m
  | h, _, _ => h
def acAt : Nat → List Row → Nat → Nat
  | a, e :: es, m + 1 => acAt e.anc es m
  | a, _, _ => a
theorem chain_at {top : Nat} : ∀ {rs : List Row} {i : Nat} {s sF : LS}, Chain P call ops top rs i s sF → ∀ (k : Nat) (r : Row), rs[k]? = some r → r.i = i + k ∧ RowOK P call ops top r
  | [], i, s, sF, hc, k, r, hr => by simp at hr
  | q :: rs, i, s, sF, hc, k, r, hr => by
    obtain ⟨h1, _, _, _, _, _, _, h5, h6⟩ := hc
    cases k with
    | zero =>
      have : q = r := by simpa using hr
      subst this
      exact ⟨h1, h5⟩
    | succ k =>
      obtain ⟨g1, g2⟩ := chain_at h6 k r (by simpa using hr)
      exact ⟨by omega, g2⟩
theorem chain_st {top : Nat} {V : Nat → Value} {ts0 : Array Value} (hd : Dist ops) : ∀ {rs : List Row} {i : Nat} {s sF : LS}, Chain P call ops top rs i s sF → (∀ (k : Nat) (r : Row), rs[k]? = some r → ops[i + k]? = some r.o ∧ V (i + k) = r.v) →
    St ops V ts0 (List.range i) s.ts → (∀ (k : Nat) (r : Row), rs[k]? = some r → St ops V ts0 (List.range (i + k)) r.pre) ∧ St ops V ts0 (List.range (i + rs.length)) sF.ts
  | [], i, s, sF, hc, hv, hs => by
    have : sF = s := hc
    subst this
    exact ⟨fun k r hr => by simp at hr, by simpa using hs⟩
  | q :: rs, i, s, sF, hc, hv, hs => by
    obtain ⟨h1, h2, h3, h4, h5, h6, h7, h8, h9⟩ := hc
    obtain ⟨hq, hqv⟩ := hv 0 q rfl
    have hs' : St ops V ts0 (List.range (i + 1)) q.next.ts := by
      show St ops V ts0 _ (putT q.o.dst q.v q.pre)
      rw [← hqv, h2]
      exact (hs.put hd hq).congr fun j => by simp; omega
    obtain ⟨g1, g2⟩ := chain_st hd h9 (fun k r hr => by
      have := hv (k + 1) r (by simpa using hr)
      rw [show i + 1 + k = i + (k + 1) by omega]; exact this) hs'
    refine ⟨fun k r hr => ?_, ?_⟩
    · cases k with
      | zero =>
        have : q = r := by simpa using hr
        subst this
        rw [h2]; exact hs
      | succ k =>
        have := g1 k r (by simpa using hr)
        rw [show i + (k + 1) = i + 1 + k by omega]; exact this
    · rw [List.length_cons, show i + (rs.length + 1) = i + 1 + rs.length by omega]; exact g2
theorem chain_heap {top : Nat} : ∀ {rs : List Row} {i : Nat} {s sF : LS}, Chain P call ops top rs i s sF →
    (heapAt s.S (rs.filter (·.eff)) (rs.filter (·.eff)).length = sF.S ∧ acAt s.ac (rs.filter (·.eff)) (rs.filter (·.eff)).length = sF.ac) ∧ ∀ r ∈ rs, i ≤ r.i ∧ ∃ q, r.c = s.c + q ∧ heapAt s.S (rs.filter (·.eff)) q = r.S ∧ acAt s.ac (rs.filter (·.eff)) q = r.ac ∧ (r.eff = true → (rs.filter (·.eff))[q]? = some r)
  | [], i, s, sF, hc => by
    have : sF = s := hc
    subst this
    exact ⟨⟨rfl, rfl⟩, fun r hr => by cases hr⟩
  | q :: rs, i, s, sF, hc => by
    obtain ⟨h1, h2, h3, h4, h5, h6, h7, h8, h9⟩ := hc
    obtain ⟨g1, g2⟩ := chain_heap h9
    cases he : q.eff with
    | true =>
      have hf : (q :: rs).filter (·.eff) = q :: rs.filter (·.eff) := by simp [he]
      rw [hf]
      have n1 : q.next.S = q.h1 := by simp [Row.next, he]
      have n2 : q.next.ac = q.anc := by simp [Row.next, he]
      have n3 : q.next.c = q.c + 1 := by simp [Row.next, he]
      rw [n1, n2] at g1
      rw [n1, n2, n3] at g2
      refine ⟨⟨by simpa [heapAt] using g1.1, by simpa [acAt] using g1.2⟩, fun r hr => ?_⟩
      rcases List.mem_cons.1 hr with rfl | hr
      · exact ⟨by omega, 0, by omega, by simpa [heapAt] using h3.symm, by simpa [acAt] using h4.symm, fun _ => rfl⟩
      · obtain ⟨k1, k, k2, k3, k4, k5⟩ := g2 r hr
        exact ⟨by omega, k + 1, by omega, by simpa [heapAt] using k3, by simpa [acAt] using k4, fun h => by simpa using k5 h⟩
    | false =>
      have hf : (q :: rs).filter (·.eff) = rs.filter (·.eff) := by simp [he]
      rw [hf]
      have n1 : q.next.S = s.S := by simp [Row.next, he, h3]
      have n2 : q.next.ac = s.ac := by simp [Row.next, he, h4]
      have n3 : q.next.c = s.c := by simp [Row.next, he, h7]
      rw [n1, n2] at g1
      rw [n1, n2, n3] at g2
      refine ⟨g1, fun r hr => ?_⟩
      rcases List.mem_cons.1 hr with rfl | hr
      · refine ⟨by omega, 0, by omega, ?_, ?_, fun h => by rw [he] at h; cases h⟩
        · rw [h3]; cases rs.filter (·.eff) <;> rfl
        · rw [h4]; cases rs.filter (·.eff) <;> rfl
      · obtain ⟨k1, k, k2, k3, k4, k5⟩ := g2 r hr
        exact ⟨by omega, k, k2, k3, k4, k5⟩
/-- the allocations before a place of the text -/
structure FlOK (rows : List Row) (i nb : Nat) (fl : List Fl) : Prop where
  row : ∀ q ∈ fl, q.i < i ∧ q.b < nb ∧ ∃ r, rows[q.i]? = some r ∧ r.flt = some q.O ∧ r.nb = q.b
  all : ∀ (k : Nat) (r : Row) (O : Obj), k < i → rows[k]? = some r → r.flt = some O → (⟨k, r.nb, O⟩ : Fl) ∈ fl
  inc : fl.Pairwise fun p q => p.b < q.b ∧ p.i < q.i
theorem chain_fl {top : Nat} {rows : List Row} : ∀ {rs : List Row} {i : Nat} {s sF : LS}, Chain P call ops top rs i s sF → rows.drop i = rs → FlOK rows i s.nb s.fl →
    (∀ (k : Nat) (r : Row), rs[k]? = some r → FlOK rows (i + k) r.nb r.fl ∧ s.nb ≤ r.nb) ∧ FlOK rows (i + rs.length) sF.nb sF.fl
  | [], i, s, sF, hc, hd, hf => by
    have : sF = s := hc
    subst this
    exact ⟨fun k r hr => by simp at hr, by simpa using hf⟩
  | q :: rs, i, s, sF, hc, hd, hf => by
    obtain ⟨h1, h2, h3, h4, h5, h6, h7, h8, h9⟩ := hc
    obtain ⟨d1, d2⟩ := drop_head hd
    have hnb : s.nb ≤ q.next.nb := by
      show s.nb ≤ q.nb'
      unfold Row.nb' nbAfter; split <;> omega
    have hf' : FlOK rows (i + 1) q.next.nb q.next.fl := by
      cases hq : q.flt with
      | none =>
        have n1 : q.next.fl = s.fl := by simp [Row.next, hq, h5]
        rw [n1]
        refine ⟨fun x hx => ?_, fun k r O hk hr hO => ?_, hf.inc⟩
        · obtain ⟨a1, a2, a3⟩ := hf.row x hx
          exact ⟨by omega, by omega, a3⟩
        · rcases Nat.lt_or_ge k i with hlt | hge
          · exact hf.all k r O hlt hr hO
          · have : k = i := by omega
            subst this
            rw [d1] at hr; cases hr
            rw [hq] at hO; cases hO
      | some O0 =>
        have n1 : q.next.fl = s.fl ++ [⟨q.i, q.nb, O0⟩] := by simp [Row.next, hq, h5]
        have n2 : q.next.nb = s.nb + 1 := by
          show q.nb' = _
          unfold Row.nb' nbAfter; rw [if_pos (h8.flt O0 hq).2.2.1, h6]
        rw [n1, n2]
        refine ⟨fun x hx => ?_, fun k r O hk hr hO => ?_, ?_⟩
        · rcases List.mem_append.1 hx with hx | hx
          · obtain ⟨a1, a2, a3⟩ := hf.row x hx
            exact ⟨by omega, by omega, a3⟩
          · have : x = ⟨q.i, q.nb, O0⟩ := by simpa using hx
            subst this
            exact ⟨by simp only; omega, by simp only; omega, q, by simp only; rw [h1]; exact d1, hq, rfl⟩
        · rcases Nat.lt_or_ge k i with hlt | hge
          · exact List.mem_append.2 (.inl (hf.all k r O hlt hr hO))
          · have : k = i := by omega
            subst this
            rw [d1] at hr; cases hr
            rw [hq] at hO; cases hO
            exact List.mem_append.2 (.inr (by simp [h1]))
        · rw [List.pairwise_append]
          refine ⟨hf.inc, by simp, fun a ha b hb => ?_⟩
          have : b = ⟨q.i, q.nb, O0⟩ := by simpa using hb
          subst this
          obtain ⟨a1, a2, _⟩ := hf.row a ha
          exact ⟨by simp only; omega, by simp only; omega⟩
    obtain ⟨g1, g2⟩ := chain_fl h9 d2 hf'
    refine ⟨fun k r hr => ?_, ?_⟩
    · cases k with
      | zero =>
        have : q = r := by simpa using hr
        subst this
        rw [h5, h6]; exact ⟨hf, Nat.le_refl _⟩
      | succ k =>
        obtain ⟨a1, a2⟩ := g1 k r (by simpa using hr)
        rw [show i + (k + 1) = i + 1 + k by omega]; exact ⟨a1, by omega⟩
    · rw [List.length_cons, show i + (rs.length + 1) = i + 1 + rs.length by omega]; exact g2
theorem looks_ok {r : Row} : ∀ (es : List Row) (m0 : Nat) (h : World) (ac : Nat), looks P r m0 h ac es = true → ∀ m, m ≤ es.length → (∀ e ∈ es.drop m, r.anc.testBit e.i = false) → (∀ e ∈ es.take m, e.anc.testBit r.i = false) → m0 + m = r.c ∨ okAt P r (heapAt h es m) (acAt ac es m) = true
  | [], m0, h, ac, hl, m, hm, hd, ht => by
    have : m = 0 := by simpa using hm
    subst this
    unfold looks at hl
    rw [Bool.or_eq_true] at hl
    rcases hl with hl | hl
    · exact .inl (by simpa using hl)
    · exact .inr hl
  | e :: es, m0, h, ac, hl, m, hm, hd, ht => by
    unfold looks at hl
    rw [Bool.and_eq_true, Bool.or_eq_true, Bool.or_eq_true] at hl
    cases m with
    | zero =>
      rcases hl.1 with (h1 | h1) | h1
      · exact .inl (by simpa using h1)
      · obtain ⟨x, hx, hxa⟩ := List.any_eq_true.1 h1
        rw [hd x (by simpa using hx)] at hxa
        cases hxa
      · exact .inr h1
    | succ m =>
      have he : e.anc.testBit r.i = false := ht e (by simp)
      have h2 := hl.2
      rw [he, Bool.false_or] at h2
      have := looks_ok es (m0 + 1) e.h1 e.anc h2 m (by simpa using hm) (fun x hx => hd x (by simpa using hx)) (fun x hx => ht x (by simp [hx]))
      rw [show m0 + (m + 1) = m0 + 1 + m by omega]
      exact this
theorem okAt_eq {r : Row} {h : World} {ac : Nat} (ho : okAt P r h ac = true) : ∃ h', cop P (evalT r.pre) r.o (view (sel r.anc ac) r.fl h) = some (.ok (.value r.v), h') := by
  unfold okAt at ho
  split at ho
  · rename_i v h' hc
    exact ⟨h', by rw [hc, veq_eq _ _ _ ho]⟩
  · cases ho
theorem ordered_at : ∀ {es : List Row}, ordered es = true → ∀ (q k : Nat) (e f : Row), q < k → es[q]? = some e → es[k]? = some f → f.anc.testBit e.i = true
  | [], h, q, k, e, f, hqk, he, hf => by simp at he
  | x :: es, h, q, k, e, f, hqk, he, hf => by
    unfold ordered at h
    rw [Bool.and_eq_true] at h
    obtain ⟨k, rfl⟩ : ∃ k', k = k' + 1 := ⟨k - 1, by omega⟩
    cases q with
    | zero =>
      have : x = e := by simpa using he
      subst this
      exact List.all_eq_true.1 h.1 f (List.mem_of_getElem? (by simpa using hf))
    | succ q => exact ordered_at h.2 q k e f (by omega) (by simpa using he) (by simpa using hf)
end
end Go.Proofs.Simul
/-
  A canonical run serves every run. Part X: what a good run in the order of the text says of any order.
-/
namespace Go.Proofs.Simul
open Go Go.RowKit

section
variable {P : Program} {call : FuncId → Array Value → World → Option (List (Value × World))} {ops : Array Oper}
theorem chain_nb {top : Nat} : ∀ {rs : List Row} {i : Nat} {s sF : LS}, Chain P call ops top rs i s sF →
    sF.nb = s.nb + countFl (rs.map (·.o)) ∧ ∀ (k : Nat) (r : Row), rs[k]? = some r → s.nb ≤ r.nb ∧ r.nb' ≤ sF.nb ∧ ∀ (k' : Nat) (r' : Row), k < k' → rs[k']? = some r' → r.nb' ≤ r'.nb
  | [], i, s, sF, hc => by
    have : sF = s := hc
    subst this
    exact ⟨by simp [countFl], fun k r hr => by simp at hr⟩
  | q :: rs, i, s, sF, hc => by
    obtain ⟨h1, h2, h3, h4, h5, h6, h7, h8, h9⟩ := hc
    obtain ⟨g1, g2⟩ := chain_nb h9
    have hnx : q.next.nb = q.nb' := rfl
    have hq : q.nb ≤ q.nb' := by unfold Row.nb' nbAfter; split <;> omega
    rw [hnx] at g1 g2
    have hcf : countFl ((q :: rs).map (·.o)) = (if isFl q.o.op then 1 else 0) + countFl (rs.map (·.o)) := by
      unfold countFl
      rw [List.map_cons, List.filter_cons]
      split <;> simp <;> omega
    refine ⟨?_, fun k r hr => ?_⟩
    · rw [g1, hcf, ← h6]
      unfold Row.nb' nbAfter
      split <;> omega
    · cases k with
      | zero =>
        have : q = r := by simpa using hr
        subst this
        refine ⟨by omega, by omega, fun k' r' hk hr' => ?_⟩
        obtain ⟨k', rfl⟩ : ∃ j, k' = j + 1 := ⟨k' - 1, by omega⟩
        exact (g2 k' r' (by simpa using hr')).1
      | succ k =>
        obtain ⟨a1, a2, a3⟩ := g2 k r (by simpa using hr)
        refine ⟨by omega, a2, fun k' r' hk hr' => ?_⟩
        obtain ⟨k', rfl⟩ : ∃ j, k' = j + 1 := ⟨k' - 1, by omega⟩
        exact a3 k' r' (by omega) (by simpa using hr')
theorem holes_at : ∀ (n : Nat) (h : World), (holes n h).heap.size = h.heap.size + n ∧ (∀ r, r < h.heap.size → (holes n h).heap[r]? = h.heap[r]?) ∧ ∀ r, h.heap.size ≤ r → r < h.heap.size + n → (holes n h).heap[r]? = some dead
  | 0, h => ⟨rfl, fun r _ => rfl, fun r h1 h2 => by omega⟩
  | n + 1, h => by
    unfold holes
    obtain ⟨h1, h2, h3⟩ := holes_at n (h.alloc dead)
    rw [size_alloc] at h1 h2 h3
    refine ⟨by omega, fun r hr => ?_, fun r hr hr2 => ?_⟩
    · rw [h2 r (by omega), heap_alloc_at, if_neg (by omega)]
    · rcases Nat.lt_or_ge r (h.heap.size + 1) with hlt | hge
      · rw [h2 r hlt, heap_alloc_at, if_pos (by omega)]
      · exact h3 r hge (by omega)
theorem at_succ : ∀ (es : List Row) (h : World) (a : Nat) (k : Nat) (e : Row), es[k]? = some e → heapAt h es (k + 1) = e.h1 ∧ acAt a es (k + 1) = e.anc
  | [], h, a, k, e, he => by simp at he
  | x :: es, h, a, k, e, he => by
    cases k with
    | zero =>
      have : x = e := by simpa using he
      subst this
      exact ⟨by unfold heapAt; cases es <;> rfl, by unfold acAt; cases es <;> rfl⟩
    | succ k => exact at_succ es x.h1 x.anc k e (by simpa using he)
structure Good (P : Program) (call : FuncId → Array Value → World → Option (List (Value × World))) (ops : Array Oper) (n0 top : Nat) (rows : List Row) (V : Nat → Value) (ts0 : Array Value) (S0 : World) (sF : LS) : Prop where
  row : ∀ (i : Nat) (o : Oper), ops[i]? = some o → ∃ r, rows[i]? = some r ∧ r.o = o ∧ r.i = i
  op : ∀ (i : Nat) (r : Row), rows[i]? = some r → ops[i]? = some r.o ∧ r.i = i ∧ V i = r.v ∧ RowOK P call ops top r ∧ chkOp rows r = true ∧ (r.eff || !r.w || r.flt.isSome || looks P r 0 S0 0 (rows.filter (·.eff))) = true
  dst : Dist ops
  ord : ordered (rows.filter (·.eff)) = true
  pre : ∀ (i : Nat) (r : Row), rows[i]? = some r → St ops V ts0 (List.range i) r.pre
  pos : ∀ r ∈ rows, heapAt S0 (rows.filter (·.eff)) r.c = r.S ∧ acAt 0 (rows.filter (·.eff)) r.c = r.ac ∧ (r.eff = true → (rows.filter (·.eff))[r.c]? = some r)
  fl : ∀ (i : Nat) (r : Row), rows[i]? = some r → FlOK rows i r.nb r.fl
  nb : ∀ (i k : Nat) (r r' : Row), rows[i]? = some r → rows[k]? = some r' → i < k → r.nb' ≤ r'.nb
  bnd : ∀ (i : Nat) (r : Row) (O : Obj), rows[i]? = some r → r.flt = some O → n0 ≤ r.nb ∧ r.nb < top
  fin : St ops V ts0 (List.range ops.size) sF.ts ∧ heapAt S0 (rows.filter (·.eff)) (rows.filter (·.eff)).length = sF.S ∧ acAt 0 (rows.filter (·.eff)) (rows.filter (·.eff)).length = sF.ac ∧ FlOK rows ops.size sF.nb sF.fl
  hol : ∀ b, n0 ≤ b → b < top → S0.heap[b]? = some dead
theorem lex_good {ts : Array Value} {h : World} {tsF : Array Value} {hF : World} (hl : lex P call ops ts h = some (tsF, hF)) :
    ∃ rows V sF, Good P call ops h.heap.size (h.heap.size + countFl ops.toList) rows V ts (holes (countFl ops.toList) h) sF ∧ tsF = sF.ts ∧ hF = view (fun q => !sF.ac.testBit q.i) sF.fl sF.S := by
  unfold lex at hl
  split at hl
  · cases hl
  rename_i rows z hr
  split at hl
  case isFalse => cases hl
  rename_i hk
  cases hl
  rw [Bool.and_eq_true, Bool.and_eq_true, Bool.and_eq_true] at hk
  obtain ⟨k1, k2, k3, k4⟩ := hk
  obtain ⟨hc, hmap⟩ := lexRows_chain _ _ _ _ _ _ hr (by simp) rfl (fun k m hk => by simp at hk)
  have hops : ∀ (i : Nat) (r : Row), rows[i]? = some r → ops[i]? = some r.o := fun i r hi => by
    have : (rows.map (·.o))[i]? = some r.o := by rw [List.getElem?_map, hi]; rfl
    rw [hmap] at this
    simpa using this
  have hrow : ∀ (i : Nat) (o : Oper), ops[i]? = some o → ∃ r, rows[i]? = some r ∧ r.o = o ∧ r.i = i := fun i o hi => by
    have h1 : (rows.map (·.o))[i]? = some o := by rw [hmap]; simpa using hi
    rw [List.getElem?_map] at h1
    cases h2 : rows[i]? with
    | none => rw [h2] at h1; cases h1
    | some r =>
      rw [h2] at h1
      exact ⟨r, rfl, by simpa using h1, by have := (chain_at hc i r h2).1; omega⟩
  have hdist : Dist ops := by
    have hp := (dist_ok rows 0 k1).2
    rw [List.pairwise_iff_getElem] at hp
    have key : ∀ (i j : Nat) (o p : Oper) (t : Nat), ops[i]? = some o → ops[j]? = some p → o.dst = some t → p.dst = some t → ¬ i < j := by
      intro i j o p t hi hj ho hpd hlt
      obtain ⟨r, hr, hro, _⟩ := hrow i o hi
      obtain ⟨q, hq, hqo, _⟩ := hrow j p hj
      obtain ⟨l1, e1⟩ := List.getElem?_eq_some_iff.1 hr
      obtain ⟨l2, e2⟩ := List.getElem?_eq_some_iff.1 hq
      exact hp i j l1 l2 hlt t (by rw [e1, hro]; exact ho) (by rw [e2, hqo]; exact hpd)
    intro i j o p t hi hj ho hp
    have h1 := key i j o p t hi hj ho hp
    have h2 := key j i p o t hj hi hp ho
    omega
  have hV : ∀ (k : Nat) (r : Row), rows[k]? = some r → ops[0 + k]? = some r.o ∧ (fun i : Nat => ((rows[i]?).map (·.v)).getD undef) (0 + k) = r.v := fun k r hk => by
    rw [Nat.zero_add]
    exact ⟨hops k r hk, by simp [hk]⟩
  have hst := chain_st (ts0 := ts) (V := fun i : Nat => ((rows[i]?).map (·.v)).getD undef) hdist hc hV ⟨rfl, fun j hj => by simp at hj, fun t _ => rfl⟩
  have hhp := chain_heap hc
  have hfl := chain_fl (rows := rows) hc (by simp) ⟨fun q hq => by simp at hq, fun k r O hk => by omega, by simp⟩
  have hnb := chain_nb hc
  have hlen : rows.length = ops.size := by rw [← List.length_map (f := (·.o)), hmap]; simp
  refine ⟨rows, fun i : Nat => ((rows[i]?).map (·.v)).getD undef, z, ⟨hrow, fun i r hi => ?_, hdist, k2, fun i r hi => ?_, fun r hr => ?_, fun i r hi => ?_, fun i k r r' hi hk hlt => ?_, fun i r O hi hO => ?_, ⟨?_, hhp.1.1, hhp.1.2, ?_⟩, fun b h1 h2 => ?_⟩, rfl, rfl⟩
  · obtain ⟨a1, a2⟩ := chain_at hc i r hi
    have hm := List.mem_of_getElem? hi
    exact ⟨hops i r hi, by omega, by simp [hi], a2, List.all_eq_true.1 k3 r hm, List.all_eq_true.1 k4 r hm⟩
  · have := hst.1 i r hi; rwa [Nat.zero_add] at this
  · obtain ⟨_, q, q1, q2, q3, q4⟩ := hhp.2 r hr
    have q1 : r.c = 0 + q := q1
    rw [Nat.zero_add] at q1
    rw [q1]; exact ⟨q2, q3, q4⟩
  · have := (hfl.1 i r hi).1; rwa [Nat.zero_add] at this
  · exact (hnb.2 i r hi).2.2 k r' hlt hk
  · have h1 := hnb.2 i r hi
    have h2 := ((chain_at hc i r hi).2.flt O hO).2.2.1
    have h3 : r.nb' = r.nb + 1 := by unfold Row.nb' nbAfter; rw [if_pos h2]
    have h4 := hnb.1
    rw [hmap] at h4
    have h1a : h.heap.size ≤ r.nb := h1.1
    have h4 : z.nb = h.heap.size + countFl ops.toList := h4
    omega
  · have := hst.2; rwa [Nat.zero_add, hlen] at this
  · have := hfl.2; rwa [Nat.zero_add, hlen] at this
  · exact (holes_at _ h).2.2 b h1 h2
variable {n0 top : Nat} {rows : List Row} {V : Nat → Value} {ts0 : Array Value} {S0 : World} {sF : LS}
theorem Good.low (g : Good P call ops n0 top rows V ts0 S0 sF) {i : Nat} {r : Row} (hr : rows[i]? = some r) {j : Nat} (hj : r.anc.testBit j = true) : j < i := by
  obtain ⟨ho, hri, _, hok, hck, _⟩ := g.op i r hr
  have hsh : Shut ops (List.range i) := by
    intro a ha p hp e he hbd
    obtain ⟨ra, hra, hro, hrai⟩ := g.row a p hp
    have hca := (g.op a ra hra).2.2.2.2.1
    unfold chkOp at hca
    rw [Bool.and_eq_true, Bool.and_eq_true] at hca
    have := List.all_eq_true.1 hca.2.2 e (by rw [hro]; exact he)
    have ha' : a < i := by simpa using ha
    have : e.on < ra.i := by simpa [hbd] using this
    simp; omega
  have hEd : Edged ops (List.range i) r.i := by
    rw [hri]
    intro p hp e he hbd
    rw [ho] at hp; cases hp
    unfold chkOp at hck
    rw [Bool.and_eq_true, Bool.and_eq_true] at hck
    have := List.all_eq_true.1 hck.2.2 e he
    have : e.on < r.i := by simpa [hbd] using this
    simp; omega
  have := hok.anc j hj _ hsh hEd
  simpa using this
theorem Good.same (g : Good P call ops n0 top rows V ts0 S0 sF) {r q : Row} (hr : r ∈ rows) (hq : q ∈ rows) (h : r.i = q.i) : r = q := by
  obtain ⟨a, ha⟩ := List.getElem?_of_mem hr
  obtain ⟨b, hb⟩ := List.getElem?_of_mem hq
  have h1 := (g.op a r ha).2.1
  have h2 := (g.op b q hb).2.1
  have : a = b := by omega
  subst this
  rw [ha] at hb
  exact Option.some.inj hb
theorem Good.at (g : Good P call ops n0 top rows V ts0 S0 sF) {r : Row} (hr : r ∈ rows) : rows[r.i]? = some r := by
  obtain ⟨a, ha⟩ := List.getElem?_of_mem hr
  have h1 := (g.op a r ha).2.1
  rw [h1]; exact ha
theorem Good.slot (g : Good P call ops n0 top rows V ts0 S0 sF) {r q : Row} {O O' : Obj} (hr : r ∈ rows) (hq : q ∈ rows) (h1 : r.flt = some O) (h2 : q.flt = some O') (h : r.nb = q.nb) : r = q := by
  have key : ∀ {r q : Row} {O O' : Obj}, r ∈ rows → q ∈ rows → r.flt = some O → q.flt = some O' → r.nb = q.nb → ¬ r.i < q.i := fun {r q O O'} hr hq h1 h2 h hlt => by
    have h3 := g.nb r.i q.i r q (g.at hr) (g.at hq) hlt
    have h4 := ((g.op r.i r (g.at hr)).2.2.2.1.flt O h1).2.2.1
    have h5 : r.nb' = r.nb + 1 := by unfold Row.nb' nbAfter; rw [if_pos h4]
    omega
  have k1 := key hr hq h1 h2 h
  have k2 := key hq hr h2 h1 h.symm
  exact g.same hr hq (by omega)
/-- the place of an allocation that no effect so far builds on is free -/
theorem Good.free (g : Good P call ops n0 top rows V ts0 S0 sF) {m : Nat} (hm : m ≤ (rows.filter (·.eff)).length) {q : Row} {O : Obj} (hq : q ∈ rows) (hO : q.flt = some O) (ha : (acAt 0 (rows.filter (·.eff)) m).testBit q.i = false) :
    (heapAt S0 (rows.filter (·.eff)) m).heap[q.nb]? = some dead := by
  have hb := g.bnd q.i q O (g.at hq) hO
  cases m with
  | zero =>
    have : heapAt S0 (rows.filter (·.eff)) 0 = S0 := by cases rows.filter (·.eff) <;> rfl
    rw [this]; exact g.hol _ hb.1 hb.2
  | succ k =>
    have hk : k < (rows.filter (·.eff)).length := by omega
    obtain ⟨a1, a2⟩ := at_succ (rows.filter (·.eff)) S0 0 k _ (List.getElem?_eq_getElem hk)
    rw [a1]; rw [a2] at ha
    have hmem := List.mem_filter.1 (List.getElem_mem hk)
    generalize (rows.filter (·.eff))[k] = e at *
    obtain ⟨he, heff⟩ := hmem
    have heff : e.eff = true := by simpa using heff
    obtain ⟨_, e2, _, _, e5, e6⟩ := (g.op e.i e (g.at he)).2.2.2.1.eff heff
    rcases Nat.lt_trichotomy q.i e.i with h | h | h
    · have := (g.fl e.i e (g.at he)).all q.i q O h (g.at hq) hO
      exact e5 _ this ha
    · have := g.same hq he h
      subst this
      rw [e2] at hO; cases hO
    · exact e6 _ (g.nb e.i q.i e q (g.at he) (g.at hq) h) hb.2
end
end Go.Proofs.Simul
/-
  A canonical run serves every run. Part Y: one operation of a region whose order is open, wherever it stands in the order.
-/
namespace Go.Proofs.Simul
open Go Go.RowKit

section
variable {P : Program} {N : Nat → Prop} {u : Ren}
theorem eval_rel {ts us : Array Value} (h : VRs u ts us) : ER u (evalT ts) (evalT us) := by
  have hf : FR u { fn := 0, tmps := ts, todo := [], defers := [], mode := .run, kind := .normal } { fn := 0, tmps := us, todo := [], defers := [], mode := .run, kind := .normal } :=
    ⟨rfl, h, .nil, .nil, .run, rfl, .none⟩
  exact hf.eval
theorem view_slot {sel : Fl → Bool} : ∀ (fl : List Fl) (h : World), fl.Pairwise (fun p q => p.b ≠ q.b) → ∀ q ∈ fl, sel q = true → q.b < h.heap.size → (view sel fl h).heap[q.b]? = some q.O
  | p :: fl, h, hp, q, hq, hs, hb => by
    cases hp with
    | cons hp1 hp2 =>
      unfold view
      rcases List.mem_cons.1 hq with rfl | hq
      · rw [(view_at fl _).1 _ (fun q' hq' _ e => hp1 q' hq' e.symm), if_pos hs]
        simp [hb]
      · exact view_slot fl _ hp2 q hq hs (by split <;> simpa using hb)
/-- what only looked: the hidden is hidden again -/
theorem HR.hide {sel : Fl → Bool} {φ : Nat → Nat × Nat × Nat} {fl : List Fl} {Np Nv : Nat → Prop} {h w w1 : World} (Hold : HR P Np u h w) (hp : fl.Pairwise (fun p q => p.b ≠ q.b)) (hq : ∀ q ∈ fl, sel q = true → ent u q.b = none) (hb : ∀ q ∈ fl, q.b < u.length)
    (Hnew : HR P Nv (viewU sel φ fl u) (view sel fl h) w1) (hsz : w.heap.size ≤ w1.heap.size) : HR P Np u h w1 := by
  obtain ⟨e1, e2, e3⟩ := ent_viewU (sel := sel) (φ := φ) fl u hp hb
  have hsub : Sub u (viewU sel φ fl u) := fun r x hr => by
    rw [e2 r fun q hqm hqs e => by rw [← e, hq q hqm hqs] at hr; cases hr]; exact hr
  have hget : ∀ r x, ent u r = some x → (view sel fl h).heap[r]? = h.heap[r]? := fun r x hr => (view_at fl h).1 r fun q hqm hqs e => by rw [← e, hq q hqm hqs] at hr; cases hr
  refine ⟨fun b hb => by have := Hold.base b hb; omega, Hold.size, fun r s hr => ⟨(Hold.own r s hr).1, by have := (Hold.own r s hr).2; omega⟩, Hold.full, Hold.inj, fun r s o hr ho => ?_, fun r s n z c e fz hr ho => ?_⟩
  · obtain ⟨n, z, hr'⟩ := hr
    obtain ⟨o1, h1, h2⟩ := Hnew.obj r s o ⟨n, z, hsub _ _ hr'⟩ (by rw [hget r _ hr']; exact ho)
    obtain ⟨o0, _, h4⟩ := Hold.obj r s o ⟨n, z, hr'⟩ ho
    exact ⟨o1, h1, h2.restrict hsub h4⟩
  · exact Hnew.room r s n z c e fz (hsub _ _ hr) (by rw [hget r _ hr]; exact ho)
theorem Real.again {Nv : Nat → Prop} {h w w1 : World} {U : Ren} {b : Nat} {x : Nat × Nat × Nat} {O : Obj} (hr : Real P w x O) (H : HR P Nv U h w1) (hb : ent U b = some x) (hO : h.heap[b]? = some O) : Real P w1 x O := by
  obtain ⟨o0, h1, h2, h3, h4⟩ := hr
  obtain ⟨s, n, z⟩ := x
  obtain ⟨o1, k1, k2⟩ := H.obj b s O ⟨n, z, hb⟩ hO
  refine ⟨o1, k1, k2.restrict (fun r x hx => by simp [ent] at hx) h2, h3, fun c e fz hc => ?_⟩
  subst hc
  obtain ⟨a1, c', fz', a2, a3⟩ := H.room b s n z c e fz hb hO
  rw [k1] at a2
  exact ⟨a1, c', fz', Option.some.inj a2, a3⟩
end
section
variable {P : Program} {N : Nat → Prop} {call : FuncId → Array Value → World → Option (List (Value × World))} {ops : Array Oper}
variable {n0 top : Nat} {rows : List Row} {V : Nat → Value} {ts0 : Array Value} {S0 : World} {sF : LS}
def Free (rows : List Row) (D : List Nat) (m : Nat) (r : Row) (O : Obj) : Prop := r ∈ rows ∧ r.flt = some O ∧ r.i ∈ D ∧ (acAt 0 (rows.filter (·.eff)) m).testBit r.i = false
structure Inv (P : Program) (N : Nat → Prop) (ops : Array Oper) (n0 top : Nat) (rows : List Row) (ts0 : Array Value) (S0 : World) (u0 : Ren) (D : List Nat) (m : Nat) (u : Ren) (φ : Nat → Nat × Nat × Nat) (w : World) (us : Array Value) : Prop where
  shut : Shut ops D
  bd : ∀ j ∈ D, j < ops.size
  mle : m ≤ (rows.filter (·.eff)).length
  tk : ∀ e ∈ (rows.filter (·.eff)).take m, e.i ∈ D
  dr : ∀ e ∈ (rows.filter (·.eff)).drop m, e.i ∉ D
  H : HR P (fun x => N x ∨ ∃ r O, Free rows D m r O ∧ x = (φ r.i).1) u (heapAt S0 (rows.filter (·.eff)) m) w
  hole : ∀ r ∈ rows, ∀ O, r.flt = some O → (acAt 0 (rows.filter (·.eff)) m).testBit r.i = false → ent u r.nb = none
  real : ∀ r O, Free rows D m r O → Real P w (φ r.i) O ∧ ¬ N (φ r.i).1
  inj : ∀ r O r' O', Free rows D m r O → Free rows D m r' O' → (φ r.i).1 = (φ r'.i).1 → r = r'
  sz : us.size = ts0.size
  tmp : ∀ r ∈ rows, r.i ∈ D → ∀ t, r.o.dst = some t → t < ts0.size → ∃ v' W, us[t]? = some v' ∧ VR W r.v v' ∧ ∀ k x, ent W k = some x → ent u k = some x ∨ ∃ r' O, Free rows D m r' O ∧ (r.anc.testBit r'.i = true ∨ r' = r) ∧ r'.nb = k ∧ φ r'.i = x
  old : ∀ t a, (∀ r ∈ rows, r.i ∈ D → r.o.dst ≠ some t) → ts0[t]? = some a → ∃ v', us[t]? = some v' ∧ VR u a v'
  len : top ≤ u.length ∧ u0.length = n0 ∧ ∃ l, u = u0 ++ l
theorem flp {i nb : Nat} {fl : List Fl} (h : FlOK rows i nb fl) : fl.Pairwise (fun p q => p.b ≠ q.b) := h.inc.imp fun hab e => by omega
theorem viewU_pre {sel : Fl → Bool} {φ : Nat → Nat × Nat × Nat} {u0 : Ren} : ∀ (fl : List Fl) (u : Ren), (∃ l, u = u0 ++ l) → (∀ q ∈ fl, u0.length ≤ q.b) → ∃ l, viewU sel φ fl u = u0 ++ l
  | [], u, h, hq => h
  | p :: fl, u, h, hq => by
    unfold viewU
    refine viewU_pre fl _ ?_ fun q hqm => hq q (.tail _ hqm)
    split
    · obtain ⟨l, rfl⟩ := h
      refine ⟨l.set (p.b - u0.length) (some (φ p.i)), ?_⟩
      rw [List.set_append, if_neg (by have := hq p (.head _); omega)]
    · exact h
/-- the row of temporaries behind one more operation -/
theorem Inv.put {u0 : Ren} (g : Good P call ops n0 top rows V ts0 S0 sF) {D : List Nat} {m : Nat} {u : Ren} {φ : Nat → Nat × Nat × Nat} {w : World} {us : Array Value} (I : Inv P N ops n0 top rows ts0 S0 u0 D m u φ w us) {r : Row} (hr : r ∈ rows) (hD : r.i ∉ D)
    {m' : Nat} {u' : Ren} {φ' : Nat → Nat × Nat × Nat} (hsub : Sub u u') (hfree : ∀ r' O, Free rows D m r' O → ent u' r'.nb = some (φ r'.i) ∨ (Free rows (ins r.i D) m' r' O ∧ φ' r'.i = φ r'.i))
    {v' : Value} {W : Ren} (hv : VR W r.v v') (hW : ∀ k x, ent W k = some x → ent u' k = some x ∨ ∃ r' O, Free rows (ins r.i D) m' r' O ∧ (r.anc.testBit r'.i = true ∨ r' = r) ∧ r'.nb = k ∧ φ' r'.i = x) :
    (putT r.o.dst v' us).size = ts0.size ∧
    (∀ q ∈ rows, q.i ∈ ins r.i D → ∀ t, q.o.dst = some t → t < ts0.size → ∃ v W, (putT r.o.dst v' us)[t]? = some v ∧ VR W q.v v ∧ ∀ k x, ent W k = some x → ent u' k = some x ∨ ∃ r' O, Free rows (ins r.i D) m' r' O ∧ (q.anc.testBit r'.i = true ∨ r' = q) ∧ r'.nb = k ∧ φ' r'.i = x) ∧
    (∀ t a, (∀ q ∈ rows, q.i ∈ ins r.i D → q.o.dst ≠ some t) → ts0[t]? = some a → ∃ v, (putT r.o.dst v' us)[t]? = some v ∧ VR u' a v) := by
  have hoth : ∀ t, r.o.dst ≠ some t → (putT r.o.dst v' us)[t]? = us[t]? := fun t ht => by
    unfold putT
    cases hd : r.o.dst with
    | none => rfl
    | some d =>
      simp only
      rw [Array.getElem?_setIfInBounds, if_neg (fun e => ht (by rw [hd, e]))]
  have hsz : (putT r.o.dst v' us).size = us.size := by unfold putT; split <;> simp
  have hops := (g.op r.i r (g.at hr)).1
  refine ⟨by rw [hsz, I.sz], fun q hq hqD t ht hlt => ?_, fun t a hno ha => ?_⟩
  · rcases mem_ins.1 hqD with h | h
    · have := g.same hq hr h
      subst this
      refine ⟨v', W, ?_, hv, hW⟩
      unfold putT
      rw [ht]
      simp only
      rw [Array.getElem?_setIfInBounds, if_pos rfl, if_pos (by rw [I.sz]; exact hlt)]
    · obtain ⟨v, W0, h1, h2, h3⟩ := I.tmp q hq h t ht hlt
      refine ⟨v, W0, ?_, h2, fun k x hk => ?_⟩
      · rw [hoth t fun e => ?_]
        · exact h1
        · have := g.dst q.i r.i q.o r.o t (g.op q.i q (g.at hq)).1 hops ht e
          exact hD (this ▸ h)
      · rcases h3 k x hk with h4 | ⟨r', O, h4, h5, rfl, rfl⟩
        · exact .inl (hsub _ _ h4)
        · rcases hfree r' O h4 with h6 | ⟨h6, h7⟩
          · exact .inl h6
          · exact .inr ⟨r', O, h6, h5, rfl, h7⟩
  · obtain ⟨v, h1, h2⟩ := I.old t a (fun q hq hqD => hno q hq (mem_ins.2 (.inr hqD))) ha
    exact ⟨v, by rw [hoth t (hno r hr (mem_ins.2 (.inl rfl)))]; exact h1, h2.sub hsub⟩
theorem Inv.step (hz : Fine P) (hcall : CallOK P call) (hdf : ∀ (i : Nat) (o : Oper) (c : Call), ops[i]? = some o → o.op = .defer c → False) {fn : FuncId} {k' : List Item} {es : List Deferred} {kd : CallKind} {ro' : Option Nat} {cs : List Frame}
    {u0 : Ren} (g : Good P call ops n0 top rows V ts0 S0 sF) {D : List Nat} {m : Nat} {u : Ren} {φ : Nat → Nat × Nat × Nat} {w : World} {us : Array Value} (I : Inv P N ops n0 top rows ts0 S0 u0 D m u φ w us) {i : Nat} (hi : i ∈ readyL ops D) (rest : List Nat) :
    ∃ m' u' φ' w' us', Inv P N ops n0 top rows ts0 S0 u0 (ins i D) m' u' φ' w' us' ∧ Keeps N w w' ∧
      Steps P (lone ⟨fn, us, .inRegion ops (i :: rest) :: k', es, .run, kd, ro'⟩ cs w) (lone ⟨fn, us', .inRegion ops rest :: k', es, .run, kd, ro'⟩ cs w') := by
  unfold readyL at hi
  rw [List.mem_filter, Bool.and_eq_true] at hi
  obtain ⟨hi1, hi2, hi3⟩ := hi
  have hil : i < ops.size := by simpa using hi1
  have hiD : i ∉ D := by simpa using hi2
  obtain ⟨o, ho⟩ : ∃ o, ops[i]? = some o := ⟨ops[i], Array.getElem?_eq_getElem hil⟩
  rw [ho] at hi3
  have hE : Edged ops D i := by
    intro p hp e he hbd
    rw [ho] at hp; cases hp
    have := List.all_eq_true.1 hi3 e he
    simpa [hbd] using this
  obtain ⟨r, hr, rfl, hri⟩ := g.row i o ho
  subst hri
  have hmr := List.mem_of_getElem? hr
  obtain ⟨_, _, hVi, hok, hck, hlk⟩ := g.op r.i r hr
  have hanc : ∀ j, r.anc.testBit j = true → j ∈ D := fun j hj => hok.anc j hj D I.shut hE
  have hancO : ∀ q ∈ rows, q.i ∈ D → ∀ j, q.anc.testBit j = true → j ∈ D := fun q hq hqD j hj => (g.op q.i q (g.at hq)).2.2.2.1.anc j hj D I.shut (I.shut _ hqD)
  have hacD : ∀ j, (acAt 0 (rows.filter (·.eff)) m).testBit j = true → j ∈ D := fun j hj => by
    cases hm : m with
    | zero => rw [hm] at hj; have : acAt 0 (rows.filter (·.eff)) 0 = 0 := by cases rows.filter (·.eff) <;> rfl
              rw [this] at hj; simp at hj
    | succ k =>
      have hk : k < (rows.filter (·.eff)).length := by have := I.mle; omega
      rw [hm, (at_succ (rows.filter (·.eff)) S0 0 k _ (List.getElem?_eq_getElem hk)).2] at hj
      have hmem := List.mem_filter.1 (List.getElem_mem hk)
      exact hancO _ hmem.1 (I.tk _ (List.mem_of_getElem? (i := k) (by rw [List.getElem?_take, if_pos (by omega)]; exact List.getElem?_eq_getElem hk))) j hj
  have hshut : Shut ops (ins r.i D) := by
    intro a ha p hp e he hbd
    rw [mem_ins] at ha ⊢
    rcases ha with rfl | ha
    · exact .inr (hE p hp e he hbd)
    · exact .inr (I.shut a ha p hp e he hbd)
  have hbd : ∀ j ∈ ins r.i D, j < ops.size := fun j hj => by rcases mem_ins.1 hj with rfl | hj; exact hil; exact I.bd j hj
  -- what the operation sees
  have hflp := flp (g.fl r.i r hr)
  have hflb : ∀ q ∈ r.fl, q.b < u.length := fun q hq => by
    obtain ⟨_, _, q3, h3, h4, h5⟩ := (g.fl r.i r hr).row q hq
    have := (g.bnd q.i q3 q.O h3 h4).2
    have := I.len.1
    omega
  have hfln : ∀ q ∈ r.fl, u0.length ≤ q.b := fun q hq => by
    obtain ⟨_, _, q3, h3, h4, h5⟩ := (g.fl r.i r hr).row q hq
    have := (g.bnd q.i q3 q.O h3 h4).1
    have := I.len.2.1
    omega
  have hflr : ∀ q ∈ r.fl, ∃ q3 ∈ rows, q3.i = q.i ∧ q3.flt = some q.O ∧ q3.nb = q.b := fun q hq => by
    obtain ⟨_, _, q3, h3, h4, h5⟩ := (g.fl r.i r hr).row q hq
    exact ⟨q3, List.mem_of_getElem? h3, (g.op q.i q3 h3).2.1, h4, h5⟩
  have hselF : ∀ q ∈ r.fl, sel r.anc (acAt 0 (rows.filter (·.eff)) m) q = true → ∃ q3, q3.i = q.i ∧ q3.nb = q.b ∧ Free rows D m q3 q.O := fun q hq hs => by
    obtain ⟨q3, h1, h2, h3, h4⟩ := hflr q hq
    unfold sel at hs
    rw [Bool.and_eq_true] at hs
    exact ⟨q3, h2, h4, h1, h3, by rw [h2]; exact hanc _ hs.1, by rw [h2]; simpa using hs.2⟩
  have hFsel : ∀ q3 O, Free rows D m q3 O → r.anc.testBit q3.i = true → (⟨q3.i, q3.nb, O⟩ : Fl) ∈ r.fl ∧ sel r.anc (acAt 0 (rows.filter (·.eff)) m) ⟨q3.i, q3.nb, O⟩ = true := fun q3 O hf ha => by
    refine ⟨(g.fl r.i r hr).all q3.i q3 O (g.low hr ha) (g.at hf.1) hf.2.1, ?_⟩
    unfold sel
    simp [ha, hf.2.2.2]
  have hH := HR.reveal (sel := sel r.anc (acAt 0 (rows.filter (·.eff)) m)) (φ := φ) r.fl I.H hflp (fun q hq hs => by
      obtain ⟨q3, h1, h2, hf⟩ := hselF q hq hs
      refine ⟨by rw [← h2]; exact g.free I.mle hf.1 hf.2.1 hf.2.2.2, by rw [← h2]; exact I.hole q3 hf.1 q.O hf.2.1 hf.2.2.2, .inr ⟨q3, q.O, hf, by rw [h1]⟩, by rw [← h1]; exact (I.real q3 q.O hf).1⟩)
    ((g.fl r.i r hr).inc.imp_of_mem fun {p q} hp hq hpq hsp hsq e => by
      obtain ⟨p3, a1, a2, hf⟩ := hselF p hp hsp
      obtain ⟨q3, b1, b2, hf'⟩ := hselF q hq hsq
      have := I.inj p3 _ q3 _ hf hf' (by rw [a1, b1]; exact e)
      subst this
      omega)
  obtain ⟨ev1, ev2, ev3⟩ := ent_viewU (sel := sel r.anc (acAt 0 (rows.filter (·.eff)) m)) (φ := φ) r.fl u hflp hflb
  have hhole : ∀ q ∈ r.fl, sel r.anc (acAt 0 (rows.filter (·.eff)) m) q = true → ent u q.b = none := fun q hq hs => by
    obtain ⟨q3, h1, h2, hf⟩ := hselF q hq hs
    rw [← h2]; exact I.hole q3 hf.1 q.O hf.2.1 hf.2.2.2
  have hsubv : Sub u (viewU (sel r.anc (acAt 0 (rows.filter (·.eff)) m)) φ r.fl u) := fun k x hk => by
    rw [ev2 k fun q hq hs e => by rw [← e, hhole q hq hs] at hk; cases hk]; exact hk
  have hpre := g.pre r.i r hr
  have hchk := hck
  unfold chkOp at hchk
  rw [Bool.and_eq_true, Bool.and_eq_true] at hchk
  obtain ⟨c1, c2, c3⟩ := hchk
  -- the guard
  have hwant : Region.wanted r.o (yielded ops us) = r.w := by
    rw [← hok.w]
    unfold Region.wanted
    cases hgd : r.o.guard with
    | none => rfl
    | some jb =>
      obtain ⟨j, b⟩ := jb
      rw [hgd] at c1
      simp only at c1 ⊢
      have hjD := hanc j c1
      have hjlt := g.low hr c1
      have hj : yielded ops us j = yielded ops r.pre j := by
        unfold yielded
        cases hop : ops[j]? with
        | none => rfl
        | some p =>
          cases hpd : p.dst with
          | none => simp [hpd]
          | some t =>
            obtain ⟨q, hq, hqo, hqi⟩ := g.row j p hop
            have hqm := List.mem_of_getElem? hq
            simp only [Option.bind_some, hpd]
            by_cases hlt : t < ts0.size
            · obtain ⟨v', W, h1, h2, _⟩ := I.tmp q hqm (by rw [hqi]; exact hjD) t (by rw [hqo]; exact hpd) hlt
              have h3 := hpre.2.1 j (by simpa using hjlt) p t hop hpd hlt
              rw [h1, h3, (g.op j q hq).2.2.1]
              generalize q.v = qv at h2
              cases h2 <;> rfl
            · rw [Array.getElem?_eq_none (Nat.not_lt.1 (by rw [I.sz]; exact hlt)), Array.getElem?_eq_none (Nat.not_lt.1 (by rw [hpre.1]; exact hlt))]
      rw [hj]
  -- the operands
  have hopd : r.w = true → ∀ x ∈ r.o.op.operands.toList, opOK x = true → VR (viewU (sel r.anc (acAt 0 (rows.filter (·.eff)) m)) φ r.fl u) (evalT r.pre x) (evalT us x) := fun hw x hx hxo => by
    rw [hw, Bool.not_true, Bool.false_or] at c2
    have := List.all_eq_true.1 c2 x hx
    have hconst : ∀ {ts : Array Value}, (∀ t, x ≠ .tmp t) → evalT ts x = evalT #[] x := fun {ts} hn => by cases x <;> first | rfl | exact (hn _ rfl).elim
    cases x with
    | tmp t =>
      simp only at this
      have hun : (∀ q ∈ rows, q.o.dst = some t → q.i ∉ D ∧ ¬ q.i < r.i) → VR (viewU (sel r.anc (acAt 0 (rows.filter (·.eff)) m)) φ r.fl u) (evalT r.pre (.tmp t)) (evalT us (.tmp t)) := fun hno => by
        have h1 : r.pre[t]? = ts0[t]? := hpre.2.2 t fun j hj p hp hpd => by
          obtain ⟨q, hq, hqo, hqi⟩ := g.row j p hp
          have hj : j < r.i := by simpa using hj
          exact (hno q (List.mem_of_getElem? hq) (by rw [hqo]; exact hpd)).2 (by omega)
        simp only [evalT, Frame.eval, Array.getD_eq_getD_getElem?]
        rw [h1]
        cases ha : ts0[t]? with
        | none =>
          have : ts0.size ≤ t := by rwa [Array.getElem?_eq_none_iff] at ha
          rw [Array.getElem?_eq_none (by have := I.sz; omega)]
          exact VR.undef _
        | some a =>
          obtain ⟨v', h2, h3⟩ := I.old t a (fun q hq hqD hqd => (hno q hq hqd).1 hqD) ha
          rw [h2]
          exact h3.sub hsubv
      by_cases hex : ∃ q ∈ rows, q.o.dst = some t
      · obtain ⟨q, hq, hqd⟩ := hex
        have huniq : ∀ q' ∈ rows, q'.o.dst = some t → q' = q := fun q' hq' hqd' => g.same hq' hq (g.dst q'.i q.i q'.o q.o t (g.op q'.i q' (g.at hq')).1 (g.op q.i q (g.at hq)).1 hqd' hqd)
        have h1 := List.all_eq_true.1 this q hq
        rw [Bool.or_eq_true, Bool.or_eq_true] at h1
        rcases h1 with (h1 | h1) | h1
        · unfold avoids at h1
          rw [hqd] at h1
          simp at h1
        · rw [Bool.and_eq_true] at h1
          have hqD := hanc q.i h1.1
          have hlt := g.low hr h1.1
          by_cases htl : t < ts0.size
          · obtain ⟨v', W, k1, k2, k3⟩ := I.tmp q hq hqD t hqd htl
            have k4 := hpre.2.1 q.i (by simpa using hlt) q.o t (g.op q.i q (g.at hq)).1 hqd htl
            simp only [evalT, Frame.eval, Array.getD_eq_getD_getElem?]
            rw [k1, k4, (g.op q.i q (g.at hq)).2.2.1]
            refine k2.sub fun k x hk => ?_
            rcases k3 k x hk with k5 | ⟨r', O, k5, k6, rfl, rfl⟩
            · exact hsubv _ _ k5
            · have ha : r.anc.testBit r'.i = true := by
                rcases k6 with k6 | k6
                · exact lor_sub h1.2 _ k6
                · rw [k6]; exact h1.1
              obtain ⟨a1, a2⟩ := hFsel r' O k5 ha
              exact ev1 _ a1 a2
          · simp only [evalT, Frame.eval, Array.getD_eq_getD_getElem?]
            rw [Array.getElem?_eq_none (xs := us) (Nat.not_lt.1 (by rw [I.sz]; exact htl)), Array.getElem?_eq_none (xs := r.pre) (Nat.not_lt.1 (by rw [hpre.1]; exact htl))]
            exact VR.undef _
        · refine hun fun q' hq' hqd' => ?_
          have := huniq q' hq' hqd'
          subst this
          refine ⟨fun hqD => hiD (hancO q' hq' hqD r.i h1), fun hlt => ?_⟩
          have := g.low (g.at hq') h1
          omega
      · exact hun fun q hq hqd => (hex ⟨q, hq, hqd⟩).elim
    | const v => rw [hconst (fun t => by simp), hconst (ts := us) (fun t => by simp)]; exact eval_rel (VRs.nil _) _ hxo
    | global n => rw [hconst (fun t => by simp), hconst (ts := us) (fun t => by simp)]; exact eval_rel (VRs.nil _) _ hxo
    | func f => rw [hconst (fun t => by simp), hconst (ts := us) (fun t => by simp)]; exact eval_rel (VRs.nil _) _ hxo
  have hdfr : ∀ c, r.o.op ≠ .defer c := fun c hc => hdf r.i r.o c ho hc
  obtain ⟨hp1, hp2, hp3⟩ := g.pos r hmr
  have hnotE : r.eff = false → ∀ e ∈ rows.filter (·.eff), e.i ≠ r.i := fun heff e he hei => by
    have hem := List.mem_filter.1 he
    have := g.same hem.1 hmr hei
    subst this
    rw [heff] at hem
    simp at hem
  have htk' : r.eff = false → ∀ e ∈ (rows.filter (·.eff)).take m, e.i ∈ ins r.i D := fun _ e he => mem_ins.2 (.inr (I.tk e he))
  have hdr' : r.eff = false → ∀ e ∈ (rows.filter (·.eff)).drop m, e.i ∉ ins r.i D := fun heff e he hin => by
    rcases mem_ins.1 hin with h | h
    · exact hnotE heff e (List.mem_of_mem_drop he) h
    · exact I.dr e he h
  have hlenv : (viewU (sel r.anc (acAt 0 (rows.filter (·.eff)) m)) φ r.fl u).length = u.length := ev3
  cases hw : r.w with
  | false =>
    obtain ⟨n1, n2, n3⟩ := hok.no hw
    have hfr : ∀ r' O, Free rows D m r' O → Free rows (ins r.i D) m r' O := fun r' O h => ⟨h.1, h.2.1, mem_ins.2 (.inr h.2.2.1), h.2.2.2⟩
    have hfr' : ∀ r' O, Free rows (ins r.i D) m r' O → Free rows D m r' O := fun r' O h => ⟨h.1, h.2.1, (by
      rcases mem_ins.1 h.2.2.1 with e | e
      · have := g.same h.1 hmr e
        have h2 := h.2.1
        rw [this, n3] at h2; cases h2
      · exact e), h.2.2.2⟩
    obtain ⟨p1, p2, p3⟩ := I.put g hmr hiD (m' := m) (u' := u) (φ' := φ) (Sub.refl u) (fun r' O h => .inr ⟨hfr r' O h, rfl⟩) (v' := undef) (W := []) (by rw [n1]; exact VR.undef _) (fun k x hk => by simp [ent] at hk)
    refine ⟨m, u, φ, w, _, ⟨hshut, hbd, I.mle, htk' n2, hdr' n2, I.H.mono ?_, I.hole, fun r' O h => I.real r' O (hfr' r' O h), fun r1 O1 r2 O2 h1 h2 => I.inj r1 O1 r2 O2 (hfr' _ _ h1) (hfr' _ _ h2), p1, p2, p3, I.len⟩, Keeps.refl _ _, ?_⟩
    · rintro x (h | ⟨r', O, h, e⟩)
      · exact .inl h
      · exact .inr ⟨r', O, hfr' r' O h, e⟩
    · have fin : Frame.finish ⟨fn, us, .inRegion ops (r.i :: rest) :: k', es, .run, kd, ro'⟩ undef = ⟨fn, putT r.o.dst undef us, .inRegion ops rest :: k', es, .run, kd, ro'⟩ := by
        simp only [Frame.finish, ho, Option.bind_some, putT]
        cases r.o.dst <;> rfl
      have := stp (exec_skip (P := P) (fn := fn) (R := rest) (k' := k') (es := es) (kd := kd) (ro' := ro') (cs := cs) (w := w) ho (by rw [hwant, hw]))
      rw [fin] at this
      exact this
  | true =>
    have hwant' : Region.wanted r.o (yielded ops us) = true := by rw [hwant, hw]
    have hopd := hopd hw
    cases hflt : r.flt with
    | some O =>
      obtain ⟨f1, f2, f3, v0, f4, f5⟩ := hok.flt O hflt
      obtain ⟨sh, s1, s2, s3, s4, s5, n, z, s6⟩ := floatOf_run (u := viewU (sel r.anc (acAt 0 (rows.filter (·.eff)) m)) φ r.fl u) f4 hopd
      have hstep := op_step (P := P) (fn := fn) (rest := rest) (k' := k') (es := es) (kd := kd) (ro' := ro') (cs := cs) ho hwant' hdfr (s2 w) (.inl rfl)
      have hacr : (acAt 0 (rows.filter (·.eff)) m).testBit r.i = false := by
        cases hb : (acAt 0 (rows.filter (·.eff)) m).testBit r.i with
        | false => rfl
        | true => exact (hiD (hacD _ hb)).elim
      have hself : Free rows (ins r.i D) m r O := ⟨hmr, hflt, mem_ins.2 (.inl rfl), hacr⟩
      let φ' : Nat → Nat × Nat × Nat := fun k => if k = r.i then (w.heap.size, n, z) else φ k
      have hφ : φ' r.i = (w.heap.size, n, z) := if_pos rfl
      have hφo : ∀ r' : Row, r'.i ∈ D → φ' r'.i = φ r'.i := fun r' hr' => if_neg fun e => hiD (by rw [← e]; exact hr')
      have hfr : ∀ r' O, Free rows D m r' O → Free rows (ins r.i D) m r' O := fun r' O h => ⟨h.1, h.2.1, mem_ins.2 (.inr h.2.2.1), h.2.2.2⟩
      have hfr' : ∀ r' O', Free rows (ins r.i D) m r' O' → (r' = r ∧ O' = O) ∨ Free rows D m r' O' := fun r' O' h => by
        rcases mem_ins.1 h.2.2.1 with e | e
        · have := g.same h.1 hmr e
          subst this
          have h2 := h.2.1
          rw [hflt] at h2
          exact .inl ⟨rfl, (Option.some.inj h2).symm⟩
        · exact .inr ⟨h.1, h.2.1, e, h.2.2.2⟩
      have hnb := g.bnd r.i r O hr hflt
      have hentW : ∀ k, ent ((List.replicate (r.nb + 1) none).set r.nb (some (w.heap.size, n, z))) k = if r.nb = k then some (w.heap.size, n, z) else none := fun k => by
        rw [ent_set _ _ _ _ (by simp)]
        split
        · rfl
        · unfold ent
          rw [List.getElem?_replicate]
          split <;> rfl
      have hVR : VR ((List.replicate (r.nb + 1) none).set r.nb (some (w.heap.size, n, z))) r.v (sh.at w.heap.size) := by
        rw [f5, s1, renum_at]
        exact s4 _ _ _ ⟨n, z, by rw [hentW, if_pos rfl]⟩
      obtain ⟨p1, p2, p3⟩ := I.put g hmr hiD (m' := m) (u' := u) (φ' := φ') (Sub.refl u) (fun r' O h => .inr ⟨hfr r' O h, hφo r' h.2.2.1⟩) hVR (fun k x hk => by
        rw [hentW] at hk
        split at hk
        · rename_i e
          cases hk
          exact .inr ⟨r, O, hself, .inr rfl, e, hφ⟩
        · cases hk)
      have HW := I.H.widen O
      refine ⟨m, u, φ', w.alloc O, _, ⟨hshut, hbd, I.mle, htk' f2, hdr' f2, ⟨fun x hx => ?_, HW.size, fun k s hk => ⟨fun hx => ?_, (HW.own k s hk).2⟩, HW.full, HW.inj, HW.obj, HW.room⟩, I.hole, fun r' O' h => ?_, fun r1 O1 r2 O2 h1 h2 he => ?_, p1, p2, p3, I.len⟩, (Keeps.refl _ _).alloc (fun k hk => I.H.base k (.inl hk)) O, hstep⟩
      · rcases hx with h | ⟨r', O', h, e⟩
        · exact HW.base x (.inl h)
        · rcases hfr' r' O' h with ⟨rfl, _⟩ | h'
          · rw [e, hφ, size_alloc]; exact Nat.lt_succ_self _
          · exact HW.base x (.inr ⟨r', O', h', by rw [e, hφo r' h'.2.2.1]⟩)
      · rcases hx with h | ⟨r', O', h, e⟩
        · exact (HW.own k s hk).1 (.inl h)
        · rcases hfr' r' O' h with ⟨rfl, _⟩ | h'
          · rw [hφ] at e
            have e : s = w.heap.size := e
            have := (I.H.own k s hk).2
            omega
          · exact (HW.own k s hk).1 (.inr ⟨r', O', h', by rw [e, hφo r' h'.2.2.1]⟩)
      · rcases hfr' r' O' h with ⟨rfl, rfl⟩ | h'
        · rw [hφ]
          exact ⟨⟨O', by show (w.alloc O').heap[w.heap.size]? = _; rw [heap_alloc_at, if_pos rfl], s3, s5, s6⟩, fun hN => by have h3 := I.H.base _ (.inl hN); exact Nat.lt_irrefl _ h3⟩
        · rw [hφo r' h'.2.2.1]
          obtain ⟨⟨o', a1, a2⟩, a3⟩ := I.real r' O' h'
          have hlt := (Array.getElem?_eq_some_iff.1 a1).1
          exact ⟨⟨o', by rw [heap_alloc_at, if_neg (by omega)]; exact a1, a2⟩, a3⟩
      · have hlt : ∀ r' O', Free rows D m r' O' → (φ r'.i).1 < w.heap.size := fun r' O' h' => I.H.base _ (.inr ⟨r', O', h', rfl⟩)
        rcases hfr' r1 O1 h1 with ⟨rfl, rfl⟩ | h1' <;> rcases hfr' r2 O2 h2 with ⟨rfl, _⟩ | h2'
        · rfl
        · rw [hφ, hφo r2 h2'.2.2.1] at he
          have he : w.heap.size = (φ r2.i).1 := he
          have := hlt r2 O2 h2'
          omega
        · rw [hφ, hφo r1 h1'.2.2.1] at he
          have he : (φ r1.i).1 = w.heap.size := he
          have := hlt r1 O1 h1'
          omega
        · rw [hφo r1 h1'.2.2.1, hφo r2 h2'.2.2.1] at he
          exact I.inj r1 O1 r2 O2 h1' h2' he
    | none =>
      have hkeep : ∀ {w1 : World}, Keeps (fun x => (N x ∨ ∃ r O, Free rows D m r O ∧ x = (φ r.i).1) ∧ ∀ q ∈ r.fl, sel r.anc (acAt 0 (rows.filter (·.eff)) m) q = true → x ≠ (φ q.i).1) w w1 → ∀ r' O, Free rows D m r' O → r.anc.testBit r'.i = false → Real P w1 (φ r'.i) O := fun {w1} b1 r' O h ha => by
        obtain ⟨⟨o', a1, a2⟩, _⟩ := I.real r' O h
        refine ⟨o', ?_, a2⟩
        rw [b1.block _ ⟨.inr ⟨r', O, h, rfl⟩, fun q hq hs e => ?_⟩]
        · exact a1
        · obtain ⟨q3, h1, h2, h3⟩ := hselF q hq hs
          have := I.inj r' O q3 _ h h3 (by rw [h1]; exact e)
          subst this
          unfold sel at hs
          rw [← h1, ha] at hs
          simp at hs
      have hkN : ∀ {w1 : World}, Keeps (fun x => (N x ∨ ∃ r O, Free rows D m r O ∧ x = (φ r.i).1) ∧ ∀ q ∈ r.fl, sel r.anc (acAt 0 (rows.filter (·.eff)) m) q = true → x ≠ (φ q.i).1) w w1 → Keeps N w w1 := fun {w1} b1 => b1.mono fun k hk => ⟨.inl hk, fun q hq hs e => by
        obtain ⟨q3, h1, h2, h3⟩ := hselF q hq hs
        exact (I.real q3 _ h3).2 (by rw [h1, ← e]; exact hk)⟩
      cases heff : r.eff with
      | false =>
        obtain ⟨l1, hown⟩ := hok.look hw heff hflt
        have hcop : ∃ h', cop P (evalT r.pre) r.o (view (sel r.anc (acAt 0 (rows.filter (·.eff)) m)) r.fl (heapAt S0 (rows.filter (·.eff)) m)) = some (.ok (.value r.v), h') := by
          rw [heff, hw, hflt] at hlk
          have hlk : looks P r 0 S0 0 (rows.filter (·.eff)) = true := by simpa using hlk
          have k1 : ∀ e ∈ (rows.filter (·.eff)).drop m, r.anc.testBit e.i = false := fun e he => by
            cases hb : r.anc.testBit e.i with
            | false => rfl
            | true => exact (I.dr e he (hanc _ hb)).elim
          have k2 : ∀ e ∈ (rows.filter (·.eff)).take m, e.anc.testBit r.i = false := fun e he => by
            cases hb : e.anc.testBit r.i with
            | false => rfl
            | true => exact (hiD (hancO e (List.mem_filter.1 (List.mem_of_mem_take he)).1 (I.tk e he) _ hb)).elim
          rcases looks_ok _ _ _ _ hlk m I.mle k1 k2 with h | h
          · rw [Nat.zero_add] at h
            rw [h, hp1, hp2]; exact hown
          · exact okAt_eq h
        obtain ⟨h', hcop⟩ := hcop
        have hh' := cop_looks l1 hcop
        subst hh'
        have hbig : bigop P call (evalT r.pre) r.o (view (sel r.anc (acAt 0 (rows.filter (·.eff)) m)) r.fl (heapAt S0 (rows.filter (·.eff)) m)) = some [(r.v, view (sel r.anc (acAt 0 (rows.filter (·.eff)) m)) r.fl (heapAt S0 (rows.filter (·.eff)) m))] := by
          unfold bigop
          rw [hcop]
        obtain ⟨x, hx, u1, w1, v', e1, H1, b1, hV, hst⟩ := op_sound (fn := fn) (rest := rest) (k' := k') (es := es) (kd := kd) (ro' := ro') (cs := cs) hz hcall ho hwant' hdfr hopd hH hbig
        have hx : x = (r.v, view (sel r.anc (acAt 0 (rows.filter (·.eff)) m)) r.fl (heapAt S0 (rows.filter (·.eff)) m)) := by simpa using hx
        subst hx
        have hu1 : u1 = viewU (sel r.anc (acAt 0 (rows.filter (·.eff)) m)) φ r.fl u := by
          obtain ⟨l, rfl⟩ := e1
          have a1 := H1.size
          have a2 := hH.size
          have a1 : (view (sel r.anc (acAt 0 (rows.filter (·.eff)) m)) r.fl (heapAt S0 (rows.filter (·.eff)) m)).heap.size = _ := a1
          rw [List.length_append] at a1
          have : l = [] := List.length_eq_zero_iff.1 (by omega)
          rw [this, List.append_nil]
        subst hu1
        have HI := HR.hide I.H hflp hhole hflb H1 b1.size
        have hfr : ∀ r' O, Free rows D m r' O → Free rows (ins r.i D) m r' O := fun r' O h => ⟨h.1, h.2.1, mem_ins.2 (.inr h.2.2.1), h.2.2.2⟩
        have hfr' : ∀ r' O, Free rows (ins r.i D) m r' O → Free rows D m r' O := fun r' O h => ⟨h.1, h.2.1, (by
          rcases mem_ins.1 h.2.2.1 with e | e
          · have := g.same h.1 hmr e
            have h2 := h.2.1
            rw [this, hflt] at h2; cases h2
          · exact e), h.2.2.2⟩
        obtain ⟨p1, p2, p3⟩ := I.put g hmr hiD (m' := m) (u' := u) (φ' := φ) (Sub.refl u) (fun r' O h => .inr ⟨hfr r' O h, rfl⟩) hV (fun k x hk => by
          by_cases hex : ∃ q ∈ r.fl, sel r.anc (acAt 0 (rows.filter (·.eff)) m) q = true ∧ q.b = k
          · obtain ⟨q, hq, hs, rfl⟩ := hex
            rw [ev1 q hq hs] at hk
            cases hk
            obtain ⟨q3, h1, h2, h3⟩ := hselF q hq hs
            refine .inr ⟨q3, _, hfr _ _ h3, .inl ?_, h2, by rw [h1]⟩
            unfold sel at hs
            rw [Bool.and_eq_true] at hs
            rw [h1]; exact hs.1
          · rw [ev2 k fun q hq hs e => hex ⟨q, hq, hs, e⟩] at hk
            exact .inl hk)
        refine ⟨m, u, φ, w1, _, ⟨hshut, hbd, I.mle, htk' heff, hdr' heff, HI.mono ?_, I.hole, fun r' O h => ⟨?_, (I.real r' O (hfr' r' O h)).2⟩, fun r1 O1 r2 O2 h1 h2 => I.inj r1 O1 r2 O2 (hfr' _ _ h1) (hfr' _ _ h2), p1, p2, p3, I.len⟩, hkN b1, hst⟩
        · rintro x (h | ⟨r', O, h, e⟩)
          · exact .inl h
          · exact .inr ⟨r', O, hfr' r' O h, e⟩
        · have hf := hfr' r' O h
          cases ha : r.anc.testBit r'.i with
          | false => exact hkeep b1 r' O hf ha
          | true =>
            obtain ⟨a1, a2⟩ := hFsel r' O hf ha
            refine (I.real r' O hf).1.again H1 (b := r'.nb) (ev1 _ a1 a2) ?_
            exact view_slot r.fl _ hflp _ a1 a2 (by rw [I.H.size]; exact hflb _ a1)
      | true =>
        obtain ⟨_, _, f3, f4, f5, f6⟩ := hok.eff heff
        have hrc := hp3 heff
        have hcl : r.c < (rows.filter (·.eff)).length := (List.getElem?_eq_some_iff.1 hrc).1
        have hmc : m = r.c := by
          rcases Nat.lt_trichotomy m r.c with hlt | heq | hgt
          · have hml : m < (rows.filter (·.eff)).length := by omega
            have h1 := ordered_at g.ord m r.c _ _ hlt (List.getElem?_eq_getElem hml) hrc
            have h2 := hanc _ h1
            exact (I.dr _ (List.mem_of_getElem? (i := 0) (by rw [List.getElem?_drop, Nat.add_zero, List.getElem?_eq_getElem hml])) h2).elim
          · exact heq
          · have : r ∈ (rows.filter (·.eff)).take m := List.mem_of_getElem? (i := r.c) (by rw [List.getElem?_take, if_pos hgt]; exact hrc)
            exact (hiD (I.tk r this)).elim
        subst hmc
        have hbig : bigop P call (evalT r.pre) r.o (view (sel r.anc (acAt 0 (rows.filter (·.eff)) r.c)) r.fl (heapAt S0 (rows.filter (·.eff)) r.c)) = some [(r.v, r.h1)] := by rw [hp1, hp2]; exact f3
        obtain ⟨x, hx, u1, w1, v', e1, H1, b1, hV, hst⟩ := op_sound (fn := fn) (rest := rest) (k' := k') (es := es) (kd := kd) (ro' := ro') (cs := cs) hz hcall ho hwant' hdfr hopd hH hbig
        have hx : x = (r.v, r.h1) := by simpa using hx
        subst hx
        obtain ⟨hn1, hn2⟩ := at_succ (rows.filter (·.eff)) S0 0 r.c r hrc
        have hsubac : ∀ j, r.anc.testBit j = false → (acAt 0 (rows.filter (·.eff)) r.c).testBit j = false := fun j hj => by
          rw [hp2]
          cases hb : r.ac.testBit j with
          | false => rfl
          | true => rw [f4 j hb] at hj; cases hj
        have hfr' : ∀ r' O, Free rows (ins r.i D) (r.c + 1) r' O → Free rows D r.c r' O ∧ r.anc.testBit r'.i = false := fun r' O h => by
          have ha := h.2.2.2
          rw [hn2] at ha
          refine ⟨⟨h.1, h.2.1, ?_, hsubac _ ha⟩, ha⟩
          rcases mem_ins.1 h.2.2.1 with e | e
          · have := g.same h.1 hmr e
            have h2 := h.2.1
            rw [this, hflt] at h2; cases h2
          · exact e
        have hsub1 := e1.sub
        obtain ⟨p1, p2, p3⟩ := I.put g hmr hiD (m' := r.c + 1) (u' := u1) (φ' := φ) (hsubv.trans hsub1) (fun r' O h => by
          cases ha : r.anc.testBit r'.i with
          | true =>
            obtain ⟨a1, a2⟩ := hFsel r' O h ha
            exact .inl (hsub1 _ _ (ev1 _ a1 a2))
          | false => exact .inr ⟨⟨h.1, h.2.1, mem_ins.2 (.inr h.2.2.1), by rw [hn2]; exact ha⟩, rfl⟩) hV (fun k x hk => .inl hk)
        have HM : HR P (fun x => N x ∨ ∃ r' O, Free rows (ins r.i D) (r.c + 1) r' O ∧ x = (φ r'.i).1) u1 (heapAt S0 (rows.filter (·.eff)) (r.c + 1)) w1 := by
          rw [hn1]
          refine H1.mono ?_
          rintro x (h | ⟨r', O, h, e⟩)
          · refine ⟨.inl h, fun q hq hs e => ?_⟩
            obtain ⟨q3, h1, h2, h3⟩ := hselF q hq hs
            exact (I.real q3 _ h3).2 (by rw [h1, ← e]; exact h)
          · obtain ⟨h1, h2⟩ := hfr' r' O h
            refine ⟨.inr ⟨r', O, h1, e⟩, fun q hq hs e2 => ?_⟩
            obtain ⟨q3, a1, a2, a3⟩ := hselF q hq hs
            have := I.inj r' O q3 _ h1 a3 (by rw [a1, ← e2, e])
            subst this
            unfold sel at hs
            rw [← a1, h2] at hs
            simp at hs
        refine ⟨r.c + 1, u1, φ, w1, _, ⟨hshut, hbd, hcl, fun e he => ?_, fun e he hin => ?_, HM, fun r' hr' O hO ha => ?_, fun r' O h => ⟨hkeep b1 r' O (hfr' r' O h).1 (hfr' r' O h).2, (I.real r' O (hfr' r' O h).1).2⟩, fun r1 O1 r2 O2 h1 h2 => I.inj r1 O1 r2 O2 (hfr' _ _ h1).1 (hfr' _ _ h2).1, p1, p2, p3, ?_⟩, hkN b1, hst⟩
        · rw [List.take_add_one, hrc] at he
          rcases List.mem_append.1 he with he | he
          · exact mem_ins.2 (.inr (I.tk e he))
          · have : e = r := by simpa using he
            rw [this]; exact mem_ins.2 (.inl rfl)
        · rcases mem_ins.1 hin with h | h
          · obtain ⟨k, hk⟩ := List.getElem?_of_mem he
            rw [List.getElem?_drop] at hk
            have h1 := ordered_at g.ord r.c _ _ _ (by omega) hrc hk
            have hem : e ∈ rows := (List.mem_filter.1 (List.mem_of_getElem? hk)).1
            have := g.low (g.at hem) h1
            omega
          · refine I.dr e ?_ h
            have : (rows.filter (·.eff)).drop r.c = r :: (rows.filter (·.eff)).drop (r.c + 1) := by
              rw [List.drop_eq_getElem_cons hcl]
              congr 1
              have := List.getElem?_eq_getElem hcl
              rw [hrc] at this
              exact (Option.some.inj this).symm
            rw [this]; exact .tail _ he
        · rw [hn2] at ha
          have hb := (g.bnd r'.i r' O (g.at hr') hO).2
          rw [e1.old (by rw [hlenv]; have := I.len.1; omega), ev2 _ fun q hq hs e => ?_]
          · exact I.hole r' hr' O hO (hsubac _ ha)
          · obtain ⟨q3, a1, a2, a3⟩ := hselF q hq hs
            have := g.slot a3.1 hr' a3.2.1 hO (by rw [a2, e])
            subst this
            unfold sel at hs
            rw [← a1, ha] at hs
            simp at hs
        · obtain ⟨l, hl⟩ := e1
          obtain ⟨l2, hl2⟩ := viewU_pre (sel := sel r.anc (acAt 0 (rows.filter (·.eff)) r.c)) (φ := φ) r.fl u I.len.2.2 hfln
          refine ⟨?_, I.len.2.1, l2 ++ l, by rw [hl, hl2, List.append_assoc]⟩
          rw [hl, List.length_append, hlenv]
          have := I.len.1
          omega
end
end Go.Proofs.Simul
/-
  A canonical run serves every run. Part Z: the run of a call, and what it proves.
-/
namespace Go.Proofs.Simul
open Go Go.RowKit

/-- all that a region whose order is open can come to -/
def region1 (P : Program) (call : FuncId → Array Value → World → Option (List (Value × World))) (ops : Array Oper) (ts : Array Value) (h : World) : Option (List DS) :=
  match lex P call ops ts h with
  | some (tsF, hF) => some [⟨tsF, [], hF⟩]
  | none => dp P call ops (ops.size + 1) [⟨ts, [], h⟩]
/-- a region whose order is open, at one stroke -/
def cregion (P : Program) (call : FuncId → Array Value → World → Option (List (Value × World))) (s : CS) (ops : Array Oper) (k : List Item) : Option (List CS) :=
  match (if ops.toList.all noDefer then region1 P call ops s.fr.tmps s.h else none) with
  | none => none
  | some ds => some (ds.map fun d => ⟨{ s.fr with tmps := d.tmps, todo := k }, s.cs, d.h⟩)
def go (P : Program) : Nat → List CS → Option (List CS)
  | 0, _ => none
  | _ + 1, [] => some []
  | n + 1, s :: rest =>
    if isFinal s then
      match go P n rest with
      | none => none
      | some l => some (s :: l)
    else
      match (match drawn? s with
        | some (ops, k) => cregion P (callBy P (go P n)) s ops k
        | none => cstep P s) with
      | none => none
      | some outs => go P n (outs ++ rest)
section
variable {P : Program} {N : Nat → Prop} {u : Ren} {base : List Frame}
theorem HR.reserves {w : World} : ∀ (n : Nat) {u : Ren} {h : World}, HR P N u h w → HR P N (u ++ List.replicate n none) (holes n h) w
  | 0, u, h, H => by simpa [holes] using H
  | n + 1, u, h, H => by
    have := HR.reserves n H.reserve
    unfold holes
    rw [List.append_assoc] at this
    exact this
theorem lex_done (hz : Fine P) {call : FuncId → Array Value → World → Option (List (Value × World))} {ops : Array Oper} {n0 top : Nat} {rows : List Row} {V : Nat → Value} {ts0 : Array Value} {S0 : World} {sF : LS} {u0 : Ren} (g : Good P call ops n0 top rows V ts0 S0 sF)
    {D : List Nat} {m : Nat} {φ : Nat → Nat × Nat × Nat} {w : World} {us : Array Value} (I : Inv P N ops n0 top rows ts0 S0 u0 D m u φ w us) (hnil : readyL ops D = []) :
    ∃ u', Ext u0 u' ∧ VRs u' sF.ts us ∧ HR P N u' (view (fun q => !sF.ac.testBit q.i) sF.fl sF.S) w := by
  have hall : ∀ n : Nat, ∀ i : Nat, i < n → i < ops.size → i ∈ D := by
    intro n
    induction n with
    | zero => intro i hi; omega
    | succ n ih =>
      intro i hi hlt
      by_cases hiD : i ∈ D
      · exact hiD
      have hlow : ∀ j : Nat, j < i → j ∈ D := fun j hj => ih j (by omega) (by omega)
      exfalso
      have : i ∈ readyL ops D := by
        unfold readyL
        rw [List.mem_filter, Bool.and_eq_true]
        refine ⟨by simpa using hlt, by simpa using hiD, ?_⟩
        rw [Array.getElem?_eq_getElem hlt]
        simp only [Option.map_some, Option.getD_some]
        obtain ⟨r, hr, hro, hri⟩ := g.row i ops[i] (Array.getElem?_eq_getElem hlt)
        have hck := (g.op i r hr).2.2.2.2.1
        unfold chkOp at hck
        rw [Bool.and_eq_true, Bool.and_eq_true, hro] at hck
        rw [List.all_eq_true]
        intro e he
        have := List.all_eq_true.1 hck.2.2 e he
        rw [Bool.or_eq_true] at this ⊢
        rcases this with h | h
        · exact .inl h
        · refine .inr ?_
          have : e.on < r.i := by simpa using h
          simpa using hlow e.on (by omega)
      rw [hnil] at this
      cases this
  have hrD : ∀ r ∈ rows, r.i ∈ D := fun r hr => by
    have := (g.op r.i r (g.at hr)).1
    exact hall (r.i + 1) r.i (by omega) (Array.getElem?_eq_some_iff.1 this).1
  have hml : m = (rows.filter (·.eff)).length := by
    rcases Nat.lt_or_ge m (rows.filter (·.eff)).length with hlt | hge
    · have hmem : (rows.filter (·.eff))[m] ∈ (rows.filter (·.eff)).drop m := List.mem_of_getElem? (i := 0) (by rw [List.getElem?_drop, Nat.add_zero, List.getElem?_eq_getElem hlt])
      exact (I.dr _ hmem (hrD _ (List.mem_filter.1 (List.getElem_mem hlt)).1)).elim
    · have := I.mle; omega
  subst hml
  obtain ⟨f1, f2, f3, f4⟩ := g.fin
  have hrow : ∀ q ∈ sF.fl, ∃ q3 ∈ rows, q3.i = q.i ∧ q3.flt = some q.O ∧ q3.nb = q.b := fun q hq => by
    obtain ⟨_, _, q3, h3, h4, h5⟩ := f4.row q hq
    exact ⟨q3, List.mem_of_getElem? h3, (g.op q.i q3 h3).2.1, h4, h5⟩
  have hF : ∀ q ∈ sF.fl, (!sF.ac.testBit q.i) = true → ∃ q3, q3.i = q.i ∧ q3.nb = q.b ∧ Free rows D (rows.filter (·.eff)).length q3 q.O := fun q hq hs => by
    obtain ⟨q3, h1, h2, h3, h4⟩ := hrow q hq
    exact ⟨q3, h2, h4, h1, h3, hrD q3 h1, by rw [f3, h2]; simpa using hs⟩
  have hflb : ∀ q ∈ sF.fl, q.b < u.length := fun q hq => by
    obtain ⟨q3, h1, h2, h3, h4⟩ := hrow q hq
    have := (g.bnd q3.i q3 q.O (g.at h1) h3).2
    have := I.len.1
    omega
  have hH := HR.reveal (sel := fun q => !sF.ac.testBit q.i) (φ := φ) sF.fl I.H (flp f4) (fun q hq hs => by
      obtain ⟨q3, h1, h2, hf⟩ := hF q hq hs
      refine ⟨by rw [← h2]; exact g.free I.mle hf.1 hf.2.1 hf.2.2.2, by rw [← h2]; exact I.hole q3 hf.1 q.O hf.2.1 hf.2.2.2, .inr ⟨q3, q.O, hf, by rw [h1]⟩, by rw [← h1]; exact (I.real q3 q.O hf).1⟩)
    (f4.inc.imp_of_mem fun {p q} hp hq hpq hsp hsq e => by
      obtain ⟨p3, a1, a2, hf⟩ := hF p hp hsp
      obtain ⟨q3, b1, b2, hf'⟩ := hF q hq hsq
      have := I.inj p3 _ q3 _ hf hf' (by rw [a1, b1]; exact e)
      subst this
      omega)
  obtain ⟨ev1, ev2, ev3⟩ := ent_viewU (sel := fun q : Fl => !sF.ac.testBit q.i) (φ := φ) sF.fl u (flp f4) hflb
  have hsubv : Sub u (viewU (fun q => !sF.ac.testBit q.i) φ sF.fl u) := fun k x hk => by
    rw [ev2 k fun q hq hs e => ?_]
    · exact hk
    · obtain ⟨q3, h1, h2, hf⟩ := hF q hq hs
      rw [← e, ← h2, I.hole q3 hf.1 q.O hf.2.1 hf.2.2.2] at hk; cases hk
  refine ⟨viewU (fun q => !sF.ac.testBit q.i) φ sF.fl u, ?_, ⟨by rw [f1.1, I.sz], fun t a b ha hb => ?_⟩, ?_⟩
  · exact viewU_pre sF.fl u I.len.2.2 fun q hq => by
      obtain ⟨q3, h1, h2, h3, h4⟩ := hrow q hq
      have := (g.bnd q3.i q3 q.O (g.at h1) h3).1
      have := I.len.2.1
      omega
  · have htl : t < ts0.size := by have := (Array.getElem?_eq_some_iff.1 ha).1; have := f1.1; omega
    by_cases hex : ∃ q ∈ rows, q.o.dst = some t
    · obtain ⟨q, hq, hqd⟩ := hex
      obtain ⟨v', W, k1, k2, k3⟩ := I.tmp q hq (hrD q hq) t hqd htl
      have hops := (g.op q.i q (g.at hq)).1
      have k4 := f1.2.1 q.i (by simpa using (Array.getElem?_eq_some_iff.1 hops).1) q.o t hops hqd htl
      rw [ha, (g.op q.i q (g.at hq)).2.2.1] at k4
      rw [hb] at k1
      cases k4; cases k1
      refine k2.sub fun k x hk => ?_
      rcases k3 k x hk with k5 | ⟨r', O, k5, k6, rfl, rfl⟩
      · exact hsubv _ _ k5
      · refine ev1 ⟨r'.i, r'.nb, O⟩ (f4.all r'.i r' O ?_ (g.at k5.1) k5.2.1) ?_
        · exact (Array.getElem?_eq_some_iff.1 (g.op r'.i r' (g.at k5.1)).1).1
        · have := k5.2.2.2
          rw [f3] at this
          simp [this]
    · have h1 : sF.ts[t]? = ts0[t]? := f1.2.2 t fun j hj p hp hpd => by
        obtain ⟨q, hq, hqo, hqi⟩ := g.row j p hp
        exact hex ⟨q, List.mem_of_getElem? hq, by rw [hqo]; exact hpd⟩
      rw [h1] at ha
      obtain ⟨v', h2, h3⟩ := I.old t a (fun q hq _ hqd => hex ⟨q, hq, hqd⟩) ha
      rw [hb] at h2; cases h2
      exact h3.sub hsubv
  · rw [← f2]
    exact hH.mono fun b hb => ⟨.inl hb, fun q hq hs e => by
      obtain ⟨q3, h1, h2, h3⟩ := hF q hq hs
      exact (I.real q3 _ h3).2 (by rw [h1, ← e]; exact hb)⟩
theorem lex_run (hz : Fine P) {call : FuncId → Array Value → World → Option (List (Value × World))} (hcall : CallOK P call) {ops : Array Oper} (hdf : ∀ (i : Nat) (o : Oper) (c : Call), ops[i]? = some o → o.op = .defer c → False) {fn : FuncId} {k' : List Item}
    {es : List Deferred} {kd : CallKind} {ro' : Option Nat} {cs : List Frame} {n0 top : Nat} {rows : List Row} {V : Nat → Value} {ts0 : Array Value} {S0 : World} {sF : LS} {u0 : Ren} (g : Good P call ops n0 top rows V ts0 S0 sF) :
    ∀ (rest D : List Nat), Sched ops D rest → ∀ (u : Ren) (m : Nat) (φ : Nat → Nat × Nat × Nat) (w : World) (us : Array Value), Inv P N ops n0 top rows ts0 S0 u0 D m u φ w us →
    ∃ u' us' w', Ext u0 u' ∧ VRs u' sF.ts us' ∧ HR P N u' (view (fun q => !sF.ac.testBit q.i) sF.fl sF.S) w' ∧ Keeps N w w' ∧
      Steps P (lone ⟨fn, us, .inRegion ops rest :: k', es, .run, kd, ro'⟩ cs w) (lone ⟨fn, us', k', es, .run, kd, ro'⟩ cs w') := by
  intro rest D hs
  induction hs with
  | @done D hnil =>
    intro u m φ w us I
    obtain ⟨u', h1, h2, h3⟩ := lex_done hz g I hnil
    exact ⟨u', us, w, h1, h2, h3, Keeps.refl _ _, stp rfl⟩
  | @next D rest i hi hs ih =>
    intro u m φ w us I
    obtain ⟨m1, u1, φ1, w1, us1, I1, b1, st1⟩ := I.step (fn := fn) (k' := k') (es := es) (kd := kd) (ro' := ro') (cs := cs) hz hcall hdf g hi rest
    obtain ⟨u2, us2, w2, e2, h2, H2, b2, st2⟩ := ih u1 m1 φ1 w1 us1 I1
    exact ⟨u2, us2, w2, e2, h2, H2, b1.trans b2, st1.trans st2⟩
theorem lex_sound (hz : Fine P) {call : FuncId → Array Value → World → Option (List (Value × World))} (hcall : CallOK P call) {ops : Array Oper} (hdf : ∀ (i : Nat) (o : Oper) (c : Call), ops[i]? = some o → o.op = .defer c → False) {fn : FuncId} {k' : List Item}
    {es : List Deferred} {kd : CallKind} {ro' : Option Nat} {cs : List Frame} {ts tsF : Array Value} {h hF : World} (hl : lex P call ops ts h = some (tsF, hF)) {us : Array Value} {w : World} {rest : List Nat} (hts : VRs u ts us) (hh : HR P N u h w) (hs : Sched ops [] rest) :
    ∃ u' us' w', Ext u u' ∧ VRs u' tsF us' ∧ HR P N u' hF w' ∧ Keeps N w w' ∧
      Steps P (lone ⟨fn, us, .inRegion ops rest :: k', es, .run, kd, ro'⟩ cs w) (lone ⟨fn, us', k', es, .run, kd, ro'⟩ cs w') := by
  obtain ⟨rows, V, sF, g, rfl, rfl⟩ := lex_good hl
  have hno : ∀ m r O, ¬ Free rows [] m r O := fun m r O h => by have := h.2.2.1; cases this
  have h0 : heapAt (holes (countFl ops.toList) h) (rows.filter (·.eff)) 0 = holes (countFl ops.toList) h := by cases rows.filter (·.eff) <;> rfl
  refine lex_run hz hcall hdf g rest [] hs (u ++ List.replicate (countFl ops.toList) none) 0 (fun _ => (0, 0, 0)) w us ⟨fun i hi => (by cases hi), fun j hj => (by cases hj), Nat.zero_le _, fun e he => (by simp at he), fun e he h => (by cases h), ?_, fun r hr O hO ha => ?_,
    fun r O h => (hno _ _ _ h).elim, fun r O r' O' h => (hno _ _ _ h).elim, hts.1.symm, fun r hr h => (by cases h), fun t a _ ha => ?_, ?_, ?_, _, rfl⟩
  · rw [h0]
    refine (HR.reserves _ hh).mono ?_
    rintro b (h | ⟨r, O, h, _⟩)
    · exact h
    · exact (hno _ _ _ h).elim
  · have := (g.bnd r.i r O (g.at hr) hO).1
    unfold ent
    rw [List.getElem?_append, if_neg (by rw [← hh.size]; omega), List.getElem?_replicate]
    split <;> rfl
  · obtain ⟨b, hb, hr⟩ := hts.get ha
    exact ⟨b, hb, hr.ext ⟨_, rfl⟩⟩
  · rw [List.length_append, List.length_replicate, hh.size]; exact Nat.le_refl _
  · rw [hh.size]
theorem region1_sound (hz : Fine P) {call : FuncId → Array Value → World → Option (List (Value × World))} (hcall : CallOK P call) {ops : Array Oper} (hdf : ∀ (i : Nat) (o : Oper) (c : Call), ops[i]? = some o → o.op = .defer c → False) {fn : FuncId} {k' : List Item}
    {es : List Deferred} {kd : CallKind} {ro' : Option Nat} {cs : List Frame} {ts : Array Value} {h : World} {outs : List DS} (ho : region1 P call ops ts h = some outs) (u : Ren) (us : Array Value) (w : World) (rest : List Nat) (hts : VRs u ts us) (hh : HR P N u h w) (hs : Sched ops [] rest) :
    ∃ d' ∈ outs, ∃ u' us' w', Ext u u' ∧ VRs u' d'.tmps us' ∧ HR P N u' d'.h w' ∧ Keeps N w w' ∧
      Steps P (lone ⟨fn, us, .inRegion ops rest :: k', es, .run, kd, ro'⟩ cs w) (lone ⟨fn, us', k', es, .run, kd, ro'⟩ cs w') := by
  unfold region1 at ho
  split at ho
  · rename_i tsF hF hl
    cases ho
    obtain ⟨u', us', w', x⟩ := lex_sound (N := N) (fn := fn) (k' := k') (es := es) (kd := kd) (ro' := ro') (cs := cs) hz hcall hdf hl hts hh hs
    exact ⟨_, .head _, u', us', w', x⟩
  · exact dp_sound hz hcall hdf _ _ _ ho _ (.head _) u us w rest hts hh hs
theorem cregion_sound (hz : Fine P) (hm : P.follows .mixedOrders = true) {call : FuncId → Array Value → World → Option (List (Value × World))} (hcall : CallOK P call) {s : CS} {fr : Frame} {cs : List Frame} {w : World}
    (st : StR P N u base s fr cs w) {ops : Array Oper} {k : List Item} (hd : drawn? s = some (ops, k)) {outs : List CS} (ho : cregion P call s ops k = some outs) : Goes P N u base (lone fr cs w) w outs := by
  have hfn := st.fr.fn
  have hkd := st.fr.kind
  obtain ⟨⟨fn, ts, ft, ds, smode, kd, ro⟩, scs, sh⟩ := s
  obtain ⟨fn', us, gt, es, fmode, kd', ro'⟩ := fr
  simp only at hfn hkd
  subst hfn; subst hkd
  have htd := st.fr.todo
  have hmd := st.fr.mode
  have hts := st.fr.tmps
  have hds := st.fr.defers
  have hro := st.fr.roundOf
  have hcs := st.cs
  have hh := st.h
  simp only at htd hmd hts hds hro hcs hh
  unfold drawn? at hd
  split at hd
  case h_2 => cases hd
  rename_i id ops' k2 h1 h2
  simp only at h1 h2
  cases hd
  subst h1; subst h2
  cases hmd
  cases htd with
  | cons hi hs =>
    cases hi with
    | code _ =>
      rename_i k'
      unfold cregion at ho
      split at ho
      · cases ho
      rename_i dso hdp
      split at hdp
      case isFalse => cases hdp
      rename_i hall
      cases ho
      have hdf : ∀ (i : Nat) (o : Oper) (c : Call), ops[i]? = some o → o.op = .defer c → False := by
        intro i o c h1 h2
        have hm : o ∈ ops.toList := by
          obtain ⟨hlt, hxe⟩ := Array.getElem?_eq_some_iff.1 h1
          rw [← hxe]; simp
        have := List.all_eq_true.1 hall o hm
        simp [noDefer, h2] at this
      have hch : (choose (.order fn' id)).run P w = .ok (w.tape w.drawn (.order fn' id)) { w with drawn := w.drawn + 1 } := by simp [choose, Sem.run, Question.forced, Question.cut]
      have hsch : Region.schedule (P.follows .mixedOrders) ops (w.tape w.drawn (.order fn' id)) = Region.linearise .any ops (w.tape w.drawn (.order fn' id)) := by
        unfold Region.schedule; rw [hm]; simp
      have h0 : Steps P (lone ⟨fn', us, .code (.region id ops true) :: k', es, .run, kd', ro'⟩ cs w) (lone ⟨fn', us, .inRegion ops (Region.linearise .any ops (w.tape w.drawn (.order fn' id))) :: k', es, .run, kd', ro'⟩ cs { w with drawn := w.drawn + 1 }) := by
        refine stp ?_
        show (stepG.exec P true true ⟨fn', us, .code (.region id ops true) :: k', es, .run, kd', ro'⟩ cs none w).bare = _
        unfold stepG.exec
        simp only [hch, hsch]
        simp
      obtain ⟨d', hd', u', us', w', e, hts', H', b', st'⟩ := region1_sound (N := N) (fn := fn') (k' := k') (es := es) (kd := kd') (ro' := ro') (cs := cs) hz hcall hdf hdp u us { w with drawn := w.drawn + 1 } _ hts (hh.heap rfl rfl) (sched_linearise ops _)
      exact ⟨_, List.mem_map.2 ⟨d', hd', rfl⟩, u', _, cs, w', e, h0.trans st', ⟨⟨rfl, hts', hs.ext e, hds.ext e, .run, rfl, hro.ext e⟩, hcs.ext e, H'⟩, ⟨b'.os, b'.tape, b'.output, b'.size, b'.block⟩⟩
theorem go_ok (hz : Fine P) (hm : P.follows .mixedOrders = true) : ∀ n : Nat, GoOK P (go P n)
  | 0 => fun sts outs h => by cases h
  | n + 1 => fun sts outs h s hs N u base fr cs w st => by
    have ih := go_ok hz hm n
    cases sts with
    | nil => cases hs
    | cons x rest =>
      unfold go at h
      split at h
      · rename_i hfin
        split at h
        · cases h
        rename_i l hl
        cases h
        rcases List.mem_cons.1 hs with rfl | hs
        · exact ⟨s, .head _, hfin, u, fr, cs, w, Ext.refl u, Steps.refl _ _, st, Keeps.refl _ _⟩
        · obtain ⟨s', h1, h2⟩ := ih _ _ hl s hs N u base fr cs w st
          exact ⟨s', .tail _ h1, h2⟩
      · split at h
        · cases h
        rename_i nx hnx
        rcases List.mem_cons.1 hs with rfl | hs
        · have hgo : Goes P N u base (lone fr cs w) w nx := by
            split at hnx
            · rename_i ops k hd
              exact cregion_sound hz hm (callBy_ok ih) st hd hnx
            · exact step_sound hz hm st hnx
          obtain ⟨s1, hs1, u1, fr1, cs1, w1, e1, st1, r1, b1⟩ := hgo
          obtain ⟨s', h1, h2, u2, fr2, cs2, w2, e2, st2, r2, b2⟩ := ih _ _ h s1 (List.mem_append.2 (.inl hs1)) N u1 base fr1 cs1 w1 r1
          exact ⟨s', h1, h2, u2, fr2, cs2, w2, e1.trans e2, st1.trans st2, r2, b1.trans b2⟩
        · obtain ⟨s', h1, h2⟩ := ih _ _ h s (List.mem_append.2 (.inr hs)) N u base fr cs w st
          exact ⟨s', h1, h2⟩
def bare0 : World := { heap := #[], tape := fun _ _ => 0, drawn := 0, os := default, output := #[] }
/-- does every canonical run of the function, without arguments, end with this value? -/
def closedRun (P : Program) (n : Nat) (f : FuncId) (v : Value) : Bool :=
  match callBy P (go P n) f #[] bare0 with
  | some outs => outs.all fun x => veq 3 x.1 v
  | none => false
theorem calls_of_closedRun (hm : P.follows .mixedOrders = true) {n : Nat} {f : FuncId} {v : Value} (hv : closed 3 v = true) (h : closedRun P n f v = true) (w : World) :
    Calls P f #[] w fun e w' => e = .returned v ∧ Below w.heap.size w w' := by
  intro cs
  unfold closedRun at h
  split at h
  case h_2 => cases h
  rename_i outs hout
  have hno : ∀ (r : Nat) (x : Nat × Nat × Nat), ent ([] : Ren) r ≠ some x := fun r x h => by rw [ent_some] at h; simp at h
  have H0 : HR P (· < w.heap.size) [] bare0 w := ⟨fun _ h => h, rfl, fun r s hr => by obtain ⟨_, _, hr⟩ := hr; exact (hno _ _ hr).elim, fun r o ho => by simp [bare0] at ho, fun r r' s hr => by obtain ⟨_, _, hr⟩ := hr; exact (hno _ _ hr).elim,
    fun r s o hr => by obtain ⟨_, _, hr⟩ := hr; exact (hno _ _ hr).elim, fun r s n z c e fz hr => (hno _ _ hr).elim⟩
  obtain ⟨x, hx, u', w', v', fr, _, _, hb, hV, hsteps, hfn, hleave⟩ := callBy_ok (go_ok (rfl : Fine P) hm n) f #[] bare0 outs hout (· < w.heap.size) [] #[] w (VRs.nil _) H0 cs
  have hxv : x.1 = v := veq_eq _ _ _ (List.all_eq_true.1 h x hx)
  have : v' = v := by rw [hxv] at hV; exact hV.eq_of_closed hv
  subst this
  exact ⟨.returned v', w', fr, ⟨rfl, hb.os, hb.tape, hb.output, hb.size, hb.block⟩, hsteps, hfn, hleave⟩
end
end Go.Proofs.Simul
