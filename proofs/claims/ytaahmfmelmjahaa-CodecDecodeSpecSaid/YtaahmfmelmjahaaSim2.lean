/-
  A canonical run serves every run: joined texts (J to R).
-/
import Derived.Test.YtaahmfmelmjahaaSim1
/-
  A canonical run serves every run. Part J: calls, and one operation.
-/
namespace Go.Proofs.Simul
open Go Go.RowKit

/-- what an operation yields -/
inductive NR (u : Ren) : Next → Next → Prop
  | value {v v' : Value} (h : VR u v v') : NR u (.value v) (.value v')
  | skip : NR u .skip .skip
  | enter (f : FuncId) {as bs : Array Value} (h : VRs u as bs) : NR u (.enter f as) (.enter f bs)
  | round {l m : Nat} (h : RR u l m) (f : FuncId) {ts us : Array Value} (ht : VRs u ts us) (a b : Code) : NR u (.round l f ts a b) (.round m f us a b)
  | defer {d e : Deferred} (h : DR u d e) : NR u (.defer d) (.defer e)
  | recover : NR u .recover .recover

/-- the run of what touches no memory -/
def quiet {α : Type} (P : Program) : Sem α → Option (Except Value α)
  | .pure a => some (.ok a)
  | .choose q k => if q.forced then quiet P (k 0) else none
  | .program k => quiet P (k P)
  | .mark _ k => quiet P k
  | .halt (.panic v) => some (.error v)
  | _ => none
theorem quiet_run {α : Type} (P : Program) : ∀ (s : Sem α) (r : Except Value α), quiet P s = some r → ∀ w : World, s.run P w = (match r with | .ok a => .ok a w | .error v => .halt (.panic v) w) := by
  intro s
  induction s with
  | pure a => intro r h w; simp only [quiet, Option.some.injEq] at h; subst h; rfl
  | load m a k ih => intro r h; simp [quiet] at h
  | store m a v k ih => intro r h; simp [quiet] at h
  | new o k ih => intro r h; simp [quiet] at h
  | shape r k ih => intro r h; simp [quiet] at h
  | freeze a n k ih => intro r h; simp [quiet] at h
  | frozen a k ih => intro r h; simp [quiet] at h
  | getObj r k ih => intro r h; simp [quiet] at h
  | setObj r o k ih => intro r h; simp [quiet] at h
  | choose q k ih =>
    intro r h w
    simp only [quiet] at h
    split at h
    · rename_i hq; simp only [Sem.run, hq, if_true]; exact ih 0 r h w
    · cases h
  | sys c k ih => intro r h; simp [quiet] at h
  | program k ih => intro r h w; simp only [quiet] at h; exact ih P r h w
  | mark m k ih => intro r h w; simp only [quiet] at h; exact ih r h w
  | halt x => intro r h w; cases x <;> simp [quiet] at h; subst h; rfl

section
variable {P : Program} {N : Nat → Prop} {u : Ren}
theorem SimAt.toC {α β : Type} {R : Ren → α → β → Prop} {s : Sem α} {t : Sem β} (h : SimAt P N u s t R) : SimC P N u (crun P s) t R := h
/-- a value of an operation -/
def val : Option (Except Value Value × World) → Option (Except Value Next × World)
  | some (.ok v, h) => some (.ok (.value v), h)
  | some (.error v, h) => some (.error v, h)
  | none => none
theorem sim_val {c : World → Option (Except Value Value × World)} {t : Sem Value} (hs : SimC P N u c t VR) : SimC P N u (fun h => val (c h)) (do pure (Next.value (← t))) NR := by
  intro h w HH r h' hc
  have hc : val (c h) = some (r, h') := hc
  cases hcs : c h with
  | none => rw [hcs] at hc; cases hc
  | some x =>
    obtain ⟨r1, h1⟩ := x
    rw [hcs] at hc
    obtain ⟨u1, w1, e1, H1, b1, F1⟩ := hs h w HH r1 h1 hcs
    cases r1 with
    | ok a =>
      cases hc
      obtain ⟨b, hb, hR⟩ := F1
      exact ⟨u1, w1, e1, H1, b1, .value b, by rw [bind_ok hb]; rfl, .value hR⟩
    | error v =>
      cases hc
      obtain ⟨b, hb, hR⟩ := F1
      exact ⟨u1, w1, e1, H1, b1, b, by rw [Sem.run_bind, hb]; rfl, hR⟩
theorem sim_skip {s t : Sem Unit} (hs : SimAt P N u s t (fun _ _ _ => True)) : SimAt P N u (do s; pure Next.skip) (do t; pure Next.skip) NR :=
  sim_bind hs fun u' e a b _ => sim_ret .skip
theorem simC_mono {α β : Type} {c d : World → Option (Except Value α × World)} {t : Sem β} {R : Ren → α → β → Prop} (h : SimC P N u c t R) (hcd : ∀ x r, d x = some r → c x = some r) : SimC P N u d t R :=
  fun x w H r h' hd => h x w H r h' (hcd x _ hd)
theorem simC_none {α β : Type} {c : World → Option (Except Value α × World)} {t : Sem β} {R : Ren → α → β → Prop} (h : ∀ x, c x = none) : SimC P N u c t R := fun x w H r h' hc => by rw [h x] at hc; cases hc
theorem simC_ret {α β : Type} {R : Ren → α → β → Prop} {a : α} {b : β} (hr : R u a b) : SimC P N u (fun h => some (.ok a, h)) (pure b) R := fun h w H r h' hc => by
  cases hc; exact ⟨u, w, Ext.refl u, H, Keeps.refl _ _, b, rfl, hr⟩
theorem simC_panic {α β : Type} {R : Ren → α → β → Prop} {v v' : Value} (hv : VR u v v') : SimC (α := α) (β := β) P N u (fun h => some (.error v, h)) (goPanic v') R := fun h w H r h' hc => by
  cases hc; exact ⟨u, w, Ext.refl u, H, Keeps.refl _ _, v', rfl, hv⟩
theorem simC_quiet {s : Sem Next} {r : Except Value Next} (hq : quiet P s = some r) (hr : (∃ v d, r = .ok (.value v) ∧ closed d v = true) ∨ ∃ v d, r = .error v ∧ closed d v = true) : SimC P N u (fun h => some (r, h)) s NR := fun h w H r' h' hc => by
  cases hc
  have hrun := quiet_run P s r hq w
  refine ⟨u, w, Ext.refl u, H, Keeps.refl _ _, ?_⟩
  rcases hr with ⟨v, d, rfl, hv⟩ | ⟨v, d, rfl, hv⟩
  · exact ⟨.value v, hrun, .value (VR.of_closed hv)⟩
  · exact ⟨v, hrun, VR.of_closed hv⟩

def hasBody (P : Program) (f : FuncId) : Bool :=
  match P.funcs[f]? with
  | some fn => fn.body.isSome && !(fn.name == "runtime.NumGoroutine")
  | none => false
theorem run_callFunc {f : FuncId} (hb : hasBody P f = true) (as : Array Value) (w : World) : (callFunc f as).run P w = .ok (.enter f as) w := by
  unfold hasBody at hb
  split at hb
  · rename_i fn hf
    simp only [Bool.and_eq_true, Bool.not_eq_true'] at hb
    unfold callFunc
    rw [bind_ok (w1 := w) (a := P) rfl, hf]
    simp only [hb.2, Bool.false_eq_true, if_false]
    have : fn.body.isNone = false := by cases hx : fn.body <;> simp_all
    simp only [this, Bool.false_eq_true, if_false]
    rfl
  · cases hb
theorem sim_getLoop {l m : Nat} (h : RR u l m) : SimAt P N u (Instr.getLoop l) (Instr.getLoop m) LoopR := by
  unfold Instr.getLoop
  refine sim_bind (sim_getObj h) ?_
  rintro u1 e1 o o' ⟨ho, _⟩
  cases ho with
  | loop h => exact sim_ret h
  | _ => exact sim_stuck
theorem VRs.zipSets : ∀ {l m : List Value} (ps : List Tmp) {cs ds : Array Value}, VRs u cs ds → VL u l m →
    VRs u ((ps.zip l).foldl (fun tmps (t, a) => tmps.setIfInBounds t a) cs) ((ps.zip m).foldl (fun tmps (t, a) => tmps.setIfInBounds t a) ds)
  | _, _, [], _, _, h, _ => h
  | [], [], _ :: _, _, _, h, _ => h
  | a :: l, b :: m, p :: ps, _, _, h, .cons hv hs => VRs.zipSets ps (h.set hv p) hs
theorem sim_yield {l m : Nat} (h : RR u l m) {as bs : Array Value} (ha : VRs u as bs) : SimAt P N u (Instr.yield l as) (Instr.yield m bs) NR := by
  unfold Instr.yield
  refine sim_bind (sim_getLoop h) ?_
  intro u1 e1 x y hxy
  rw [hxy.params, ← ha.1]
  split
  · exact sim_none fun c => by rw [crun_bind]; rfl
  · rw [hxy.fn, hxy.assign, hxy.body]
    refine sim_ret (.round (h.ext e1) _ ?_ _ _)
    rw [← Array.foldl_toList, ← Array.foldl_toList, Array.toList_zip, Array.toList_zip]
    exact VRs.zipSets _ hxy.tmps (VRs.list (ha.ext e1))
end
/-- is the second argument of an append the number of zeros? -/
def isZeros (P : Program) (ts : Array TypeId) : Bool :=
  match (ts[1]? : Option TypeId) with
  | some t1 => (match P.underlying t1 with | some (.int _) => true | _ => false)
  | none => false
/-- a call, canonical -/
def cinvoke (P : Program) (d : Deferred) (h : World) : Option (Except Value Next × World) :=
  match d.target with
  | .nil => crun P (invoke d.target d.args) h
  | .fn (.func f) captured => if hasBody P f then some (.ok (.enter f (d.args.toList ++ captured.toList).toArray), h) else none
  | .fn (.yield l) _ => crun P (Instr.yield l d.args) h
  | .builtin b ts t cs =>
    match b with
    | .len => val (crun P (Builtin.len_ ts t d.args) h)
    | .copy => val (crun P (Builtin.copy_ ts t d.args) h)
    | .append => if isZeros P ts then val (czeros P ts d.args h) else val (cappend P ts t d.args h)
    | .recover => some (.ok .recover, h)
    | .min | .max | .cap => if d.args.toList.all (closed 2) then (match quiet P (invoke d.target d.args) with
      | some (.ok (.value v)) => if closed 2 v then some (.ok (.value v), h) else none
      | _ => none) else none
    | .panic => (match d.args.getD 0 .nilIface with | .iface t v => some (.error (.iface t v), h) | _ => none)
    | _ => none
  | _ => none
section
variable {P : Program} {N : Nat → Prop} {u : Ren}
theorem closed_rows {as bs : Array Value} (h : VRs u as bs) {d : Nat} (hc : as.toList.all (closed d) = true) : bs = as := by
  apply Array.ext h.1.symm
  intro i h1 h2
  have ha : as[i]? = some as[i] := Array.getElem?_eq_getElem h2
  have hb : bs[i]? = some bs[i] := Array.getElem?_eq_getElem h1
  exact (h.2 i _ _ ha hb).eq_of_closed (closed_all hc ha)
theorem sim_qcall {as bs : Array Value} (ha : VRs u as bs) (tg : Target) (c : World → Option (Except Value Next × World))
    (hc : c = fun h => if as.toList.all (closed 2) then (match quiet P (invoke tg as) with | some (.ok (.value v)) => if closed 2 v then some (.ok (.value v), h) else none | _ => none) else none) : SimC P N u c (invoke tg bs) NR := by
  intro h w HH r h' hr
  rw [hc] at hr
  simp only at hr
  split at hr
  case isFalse => cases hr
  rename_i hall
  rw [closed_rows ha hall]
  split at hr
  case h_2 => cases hr
  rename_i v hq
  split at hr
  case isFalse => cases hr
  rename_i hv
  exact simC_quiet hq (.inl ⟨v, 2, rfl, hv⟩) h w HH r h' hr
theorem sim_cappend (hz : Fine P) {as bs : Array Value} (ha : VRs u as bs) (ts : Array TypeId) (t : TypeId) : SimC P N u (cappend P ts t as) (Builtin.append_ ts t bs) VR := by
  unfold cappend
  cases h0 : (ts[0]? : Option TypeId) with
  | none => exact simC_none fun _ => rfl
  | some t0 =>
    cases h1 : (ts[1]? : Option TypeId) with
    | none => exact simC_none fun _ => rfl
    | some t1 =>
      cases a0 : (as[0]? : Option Value) with
      | none => exact simC_none fun _ => rfl
      | some v =>
        cases a1 : (as[1]? : Option Value) with
        | none => exact simC_none fun _ => by cases v <;> rfl
        | some x =>
          obtain ⟨y, b0, hy⟩ := ha.get a0
          obtain ⟨x', b1, hx⟩ := ha.get a1
          cases v with
          | slice base sLen sCap =>
            simp only
            cases u0 : P.underlying t0 with
            | none => exact simC_none fun _ => rfl
            | some d0 =>
              cases u1 : P.underlying t1 with
              | none => exact simC_none fun _ => by cases d0 <;> rfl
              | some d1 =>
                cases hn : lenV x with
                | none => exact simC_none fun _ => by cases d0 <;> rfl
                | some n =>
                  cases d0 with
                  | slice elem =>
                    simp only
                    cases hd : (match (generalizing := false) d1 with | .int _ => true | _ => false : Bool) with
                    | true => exact simC_none fun _ => by cases d1 <;> first | rfl | (exact absurd hd (by simp))
                    | false =>
                      cases hi : P.info? elem with
                      | none => exact simC_none fun _ => by simp
                      | some i =>
                        refine simC_mono (c := fun h => if sLen + n ≤ lowCap sCap then crun P (Builtin.append_ ts t as) h else cgrow P elem base sLen sCap x n h) ?_ (fun h r hh => by
                          cases d1 <;> first | (simp at hh; done) | (simpa using hh) | (exact absurd hd (by simp)))
                        have H : Apd P ts as base sLen sCap n x elem i := ⟨⟨t0, t1, d1, h0, h1, u0, u1, hd⟩, a0, a1, hn, hi⟩
                        by_cases hle : sLen + n ≤ lowCap sCap
                        · simp only [if_pos hle]
                          generalize hv0 : Value.slice base sLen sCap = v0 at hy
                          cases hy with
                          | sliceNil k c =>
                            cases hv0
                            have hle2 : sLen + n ≤ sCap := by unfold lowCap at hle; split at hle <;> omega
                            exact SimAt.toC (sim_append_in H ⟨H.ex, b0, b1, by rw [lenV_rel hx]; exact hn, hi⟩ hx hle2 hle2 (.inl ⟨rfl, rfl⟩) (fun u' e => .sliceNil _ _))
                          | @slice a b k c hab hb =>
                            cases hv0
                            have hle2 : sLen + n ≤ sCap := by unfold lowCap at hle; rw [if_pos hb] at hle; exact hle
                            exact SimAt.toC (sim_append_in H ⟨H.ex, b0, b1, by rw [lenV_rel hx]; exact hn, hi⟩ hx hle2 hle2 (.inr ⟨_, _, rfl, rfl, hab⟩) (fun u' e => .slice _ _ (hab.ext e) hb))
                          | @sliceG a b k c c' hab hk hcc hr =>
                            cases hv0
                            have hle2 : sLen + n ≤ c := by unfold lowCap at hle; rw [if_neg (by omega)] at hle; omega
                            exact SimAt.toC (sim_append_in H ⟨H.ex, b0, b1, by rw [lenV_rel hx]; exact hn, hi⟩ hx (by omega) (by omega) (.inr ⟨_, _, rfl, rfl, hab⟩) (fun u' e => .sliceG _ _ _ (hab.ext e) hle2 hcc (hr.ext e)))
                          | _ => cases hv0
                        · simp only [if_neg hle]
                          exact sim_cgrow hz H b0 hy b1 hx hle
                  | _ => exact simC_none fun _ => rfl
          | _ => exact simC_none fun _ => rfl
theorem sim_cinvoke (hz : Fine P) {d e : Deferred} (hd : DR u d e) : SimC P N u (cinvoke P d) (invoke e.target e.args) NR := by
  obtain ⟨dt, da⟩ := d
  obtain ⟨et, ea⟩ := e
  obtain ⟨ht, ha⟩ := hd
  simp only at ht ha
  cases ht with
  | nil => exact SimAt.toC sim_nilDeref
  | collected h => exact simC_none fun _ => rfl
  | @fn f g cs ds hf hcd =>
    cases hf with
    | func f =>
      intro h w HH r h' hc
      simp only [cinvoke] at hc
      split at hc
      case isFalse => cases hc
      rename_i hb
      cases hc
      have happ : (da.toList ++ cs.toList).toArray = da ++ cs := by simp
      rw [happ]
      exact ⟨u, w, Ext.refl u, HH, Keeps.refl _ _, .enter f (ea ++ ds), run_callFunc hb _ w, .enter f (ha.append hcd)⟩
    | yield h => exact SimAt.toC (sim_yield h ha)
    | _ => exact simC_none fun _ => rfl
  | builtin b ts t cs =>
    cases b with
    | len => exact sim_val (SimAt.toC (sim_len ha ts t))
    | copy => exact sim_val (SimAt.toC (sim_copy ha ts t))
    | append =>
      intro h w HH r h' hc
      simp only [cinvoke] at hc
      split at hc
      · exact sim_val (sim_czeros ha) h w HH r h' hc
      · exact sim_val (sim_cappend hz ha ts t) h w HH r h' hc
    | recover => exact simC_ret .recover
    | panic =>
      refine simC_mono (c := fun h => (match da.getD 0 .nilIface with | .iface t v => some (.error (.iface t v), h) | _ => none)) ?_ (fun _ _ h => h)
      have hg := ha.getD (VR.nilIface (u := u)) 0
      have hinv : invoke (.builtin .panic ts t cs) ea = (do pure (Next.value (← Instr.panic (ea.getD 0 .nilIface)))) := rfl
      rw [hinv]
      generalize da.getD 0 Value.nilIface = p at hg ⊢
      generalize ea.getD 0 Value.nilIface = q at hg ⊢
      cases hg with
      | iface t hvv =>
        intro h w HH r h' hc
        cases hc
        exact ⟨u, w, Ext.refl u, HH, Keeps.refl _ _, _, rfl, .iface _ hvv⟩
      | _ => exact simC_none fun _ => rfl
    | min => exact sim_qcall ha _ _ rfl
    | max => exact sim_qcall ha _ _ rfl
    | cap => exact sim_qcall ha _ _ rfl
    | _ => exact simC_none fun _ => rfl
end
end Go.Proofs.Simul
/-
  A canonical run serves every run. Part K: one operation.
-/
namespace Go.Proofs.Simul
open Go Go.RowKit

def opOK : Operand → Bool
  | .tmp _ | .func _ => true
  | .const v => closed 6 v
  | .global _ => false
/-- what the operands are, both sides -/
def ER (u : Ren) (e e' : Operand → Value) : Prop := ∀ x, opOK x = true → VR u (e x) (e' x)
def skp : Option (Except Value Unit × World) → Option (Except Value Next × World)
  | some (.ok _, h) => some (.ok .skip, h)
  | some (.error v, h) => some (.error v, h)
  | none => none
/-- of two values of which one is nil: are they equal? -/
def nilEq : TypeDesc → Value → Value → Option Bool
  | .pointer _, .pointer none, .pointer (some _) | .pointer _, .pointer (some _), .pointer none => some false
  | .func .., .nilFunc, .func .. | .func .., .func .., .nilFunc => some false
  | .interface _, .nilIface, .iface .. | .interface _, .iface .., .nilIface => some false
  | .slice _, .slice none _ _, .slice (some _) _ _ | .slice _, .slice (some _) _ _, .slice none _ _ => some false
  | .map .., .map none, .map (some _) | .map .., .map (some _), .map none => some false
  | _, _, _ => none
def isYield : Fn → Bool
  | .yield _ => true
  | _ => false
/-- resolve, by lists -/
def resolveC (e : Operand → Value) (c : Call) (t : TypeId) : Option Deferred :=
  let args := (c.args.toList.map e).toArray
  match c.callee with
  | .builtin b => some { target := .builtin b c.argTypes t (c.args.toList.map fun | .const _ => true | _ => false).toArray, args }
  | .invoke recv name => some { target := .fn (.method name) #[], args := (e recv :: c.args.toList.map e).toArray }
  | .value f => match e f with
    | .func fn first captured => some { target := .fn fn captured, args := (first.toList ++ c.args.toList.map e).toArray }
    | .nilFunc => some { target := .nil, args }
    | _ => none
theorem resolveC_eq (P : Program) (e : Operand → Value) (c : Call) (t : TypeId) (h : World) : crun P (resolve e c t) h = (resolveC e c t).map fun d => (.ok d, h) := by
  obtain ⟨callee, args, ats⟩ := c
  have hmap : ∀ {α : Type} (f : Operand → α), args.map f = (args.toList.map f).toArray := fun f => by rw [← Array.toList_map]
  unfold resolve resolveC
  cases callee with
  | value f =>
    simp only [hmap]
    generalize e f = p
    cases p with
    | func fn first captured =>
      have hx : (first.toList ++ args.toList.map e).toArray = first ++ (args.toList.map e).toArray := by simp
      simp only [hx]
      rfl
    | _ => rfl
  | builtin b => simp only [hmap]; rfl
  | invoke r m =>
    have hx : (e r :: args.toList.map e).toArray = #[e r] ++ (args.toList.map e).toArray := by simp
    simp only [hmap, hx]
    rfl
def mapC {α : Type} (e : Operand → Value) (ps : Array (Nat × Operand)) : Array (Nat × Value) := (ps.toList.map fun (i, x) => (i, e x)).toArray
theorem mapC_eq (e : Operand → Value) (ps : Array (Nat × Operand)) : mapC (α := Unit) e ps = ps.map fun (i, x) => (i, e x) := by
  unfold mapC; rw [← Array.toList_map]
/-- build, by lists -/
def buildL (t : TypeId) (parts : Array (Nat × Value)) : Sem Value := do
  let zero := (← zeroValue t).cells
  match ← underlying t with
  | .struct fields =>
    let places ← fields.toList.mapM fun f => do pure (f.offset, ← sizeOf f.type)
    let some cells := Instr.fill (places[·]?) zero parts.toList | stuck "build: no such field, or a part of the wrong size"
    pure (.agg cells)
  | .array _ elem =>
    let size ← sizeOf elem
    let some cells := Instr.fill (fun i => some (i * size, size)) zero parts.toList | stuck "build: a part of the wrong size"
    pure (.agg cells)
  | _ => stuck "build: struct or array type expected"
theorem buildL_eq (t : TypeId) (parts : Array (Nat × Value)) : Instr.build t parts = buildL t parts := by
  unfold Instr.build buildL
  congr 1
  funext z
  dsimp only
  congr 1
  funext d
  cases d with
  | struct fields =>
    simp only [Array.mapM_eq_mapM_toList, map_eq_pure_bind, bind_assoc, pure_bind, List.getElem?_toArray]
    rfl
  | _ => rfl
def noSelect : Op → Bool
  | .select .. => false
  | _ => true
def cquiet (P : Program) (e : Operand → Value) (o : Oper) (h : World) : Option (Except Value Next × World) :=
  if noSelect o.op && o.op.operands.toList.all (fun x => closed 6 (e x)) then
    match quiet P (execOp e o) with
    | some (.ok (.value v)) => if closed 8 v then some (.ok (.value v), h) else none
    | some (.error v) => if closed 8 v then some (.error v, h) else none
    | _ => none
  else none
def cslice (P : Program) (t : TypeId) (x : Value) (lo hi mx : Option Value) (h : World) : Option (Except Value Next × World) :=
  if !arrOK P t then none else
  match x with
  | .slice (some a) n c =>
    if c < BIG then (if (lo.toList ++ hi.toList ++ mx.toList).all (closed 1) then val (crun P (Instr.sliceAt t x lo hi mx) h) else none)
    else val (csliceG P t a n (c - BIG) lo hi mx h)
  | .slice none n c => if c < BIG then (if (lo.toList ++ hi.toList ++ mx.toList).all (closed 1) then val (crun P (Instr.sliceAt t x lo hi mx) h) else none) else none
  | _ => if (lo.toList ++ hi.toList ++ mx.toList).all (closed 1) then val (crun P (Instr.sliceAt t x lo hi mx) h) else none
def cop (P : Program) (e : Operand → Value) (o : Oper) (h : World) : Option (Except Value Next × World) :=
  if o.op.operands.toList.all opOK then
    match o.op with
    | .move x | .assign x => some (.ok (.value (e x)), h)
    | .pick c a b => (match e c with | .bool t => some (.ok (.value (if t then e a else e b)), h) | _ => none)
    | .alloc t => if zok P t then val (crun P (Instr.alloc t true (.tuple #[])) h) else none
    | .box t x => val (crun P (Instr.box t (e x)) h)
    | .build t parts => if zok P t then val (crun P (buildL t (mapC (α := Unit) e parts)) h) else none
    | .buildSlice t len parts => if len < BIG ∧ zokE P t = true then val (crun P (Instr.buildSlice t len (mapC (α := Unit) e parts)) h) else none
    | .load t a => val (crun P (Instr.loadAt t (e a)) h)
    | .store t a x => skp (crun P (Instr.storeAt t (e a) (e x)) h)
    | .nilCheck x => (match e x with
      | .pointer none | .nilIface | .nilFunc => crun P (runtimePanic .nilDeref) h
      | .func (.method _) _ _ => none
      | v => some (.ok (.value v), h))
    | .makeFunc fn a b => if isYield fn then none else some (.ok (.value (.func fn (a.toList.map e).toArray (b.toList.map e).toArray)), h)
    | .makeMap t r => val (crun P (Instr.makeMap t (r.map e)) h)
    | .makeSlice t l c => if zokE P t then val (crun P (Instr.makeSlice t (e l) (e c)) h) else none
    | .slice t x lo hi mx => cslice P t (e x) (lo.map e) (hi.map e) (mx.map e) h
    | .fieldAddr s x f => val (crun P (Instr.fieldAt s (e x) f) h)
    | .field s x f => val (crun P (Instr.field s (e x) f) h)
    | .indexAddr t x i => val (crun P (Instr.indexAt t (e x) (e i)) h)
    | .index t x i => val (crun P (Instr.index t (e x) (e i)) h)
    | .extract x i => val (crun P (Instr.extract (e x) i) h)
    | .makeInterface t x => val (crun P (Instr.makeInterface t (e x)) h)
    | .call c => (match resolveC e c o.type with
      | some d => cinvoke P d h
      | none => none)
    | .defer c => (match resolveC e c o.type with
      | some d => some (.ok (.defer d), h)
      | none => none)
    | .panic x => (match e x with | .iface t v => some (.error (.iface t v), h) | _ => none)
    | .convert src dst x => (match P.underlying src, P.underlying dst, e x with
      | some _, some (.slice t), .string s => (match P.underlying t with | some (.int .u8) => val (cbytes P t s h) | _ => none)
      | some (.slice t), some .string, .slice a n c => (match P.underlying t with | some (.int .u8) => val (crun P (Conv.bytesToString (.slice a n c)) h) | _ => none)
      | _, _, _ => cquiet P e o h)
    | .binOp op t x y _ => (match op, (P.underlying t).bind fun d => nilEq d (e x) (e y) with
      | .eql, some b => some (.ok (.value (.bool b)), h)
      | .neq, some b => some (.ok (.value (.bool !b)), h)
      | _, _ => cquiet P e o h)
    | _ => cquiet P e o h
  else none
section
variable {P : Program} {N : Nat → Prop} {u : Ren}
theorem simC_bind {α β γ δ : Type} {S : Ren → α → β → Prop} {R : Ren → γ → δ → Prop} {s : Sem α} {t : Sem β} {f : α → World → Option (Except Value γ × World)} {g : β → Sem δ}
    (hs : SimAt P N u s t S) (hf : ∀ u', Ext u u' → ∀ a b, S u' a b → SimC P N u' (f a) (g b) R) :
    SimC P N u (fun h => match crun P s h with | some (.ok d, h1) => f d h1 | some (.error v, h1) => some (.error v, h1) | none => none) (t >>= g) R := fun h w H r h' hc => by
  have hrun : (t >>= g).run P w = (t.run P w).andThen fun b w => (g b).run P w := Sem.run_bind' P t g w
  simp only at hc
  cases hcs : crun P s h with
  | none => rw [hcs] at hc; cases hc
  | some x =>
    obtain ⟨r1, h1⟩ := x
    rw [hcs] at hc
    obtain ⟨u1, w1, e1, H1, b1, F1⟩ := hs h w H r1 h1 hcs
    cases r1 with
    | ok a =>
      obtain ⟨b, hb, hR⟩ := F1
      obtain ⟨u2, w2, e2, H2, b2, F2⟩ := hf u1 e1 a b hR h1 w1 H1 r h' hc
      refine ⟨u2, w2, e1.trans e2, H2, b1.trans b2, ?_⟩
      cases r with
      | ok c => obtain ⟨d, hd, hR2⟩ := F2; exact ⟨d, by rw [hrun, hb]; exact hd, hR2⟩
      | error v => obtain ⟨d, hd, hR2⟩ := F2; exact ⟨d, by rw [hrun, hb]; exact hd, hR2⟩
    | error v =>
      simp only [Option.some.injEq, Prod.mk.injEq] at hc
      obtain ⟨rfl, rfl⟩ := hc
      obtain ⟨v', hv', hV⟩ := F1
      exact ⟨u1, w1, e1, H1, b1, v', by rw [hrun, hv']; rfl, hV⟩
theorem sim_skp {s t : Sem Unit} (hs : SimAt P N u s t (fun _ _ _ => True)) : SimC P N u (fun h => skp (crun P s h)) (do t; pure Next.skip) NR := by
  refine simC_mono (simC_bind (f := fun _ h => some (.ok .skip, h)) (g := fun _ => pure Next.skip) hs fun u' e a b _ => simC_ret .skip) ?_
  intro h r hr
  cases hx : crun P s h with
  | none => simp only [hx, skp] at hr; cases hr
  | some x => obtain ⟨a, b⟩ := x; simp only [hx, skp] at hr; cases a <;> exact hr
theorem mem_ops {xs : Array Operand} (h : xs.toList.all opOK = true) {x : Operand} (hx : x ∈ xs.toList) : opOK x = true := List.all_eq_true.1 h x hx
theorem rows_of {e e' : Operand → Value} (he : ER u e e') {xs : Array Operand} (h : ∀ x ∈ xs.toList, opOK x = true) : VRs u (xs.map e) (xs.map e') := by
  refine ⟨by simp, fun i a b ha hb => ?_⟩
  rw [Array.getElem?_map] at ha hb
  cases hx : xs[i]? with
  | none => rw [hx] at ha; cases ha
  | some x =>
    rw [hx] at ha hb; cases ha; cases hb
    refine he x (h x ?_)
    obtain ⟨hlt, hxe⟩ := Array.getElem?_eq_some_iff.1 hx
    rw [← hxe]; simp
theorem parts_of {e e' : Operand → Value} (he : ER u e e') : ∀ {l : List (Nat × Operand)}, (∀ x ∈ l.map (·.2), opOK x = true) → PL u (l.map fun (i, x) => (i, e x)) (l.map fun (i, x) => (i, e' x))
  | [], _ => .nil
  | (i, x) :: l, h => .cons (he x (h x (by simp))) (parts_of he fun y hy => h y (by simp only [List.map_cons, List.mem_cons]; exact .inr hy))
theorem sim_resolve {e e' : Operand → Value} (he : ER u e e') (c : Call) (hc : ∀ x ∈ c.operands.toList, opOK x = true) (t : TypeId) : SimAt P N u (resolve e c t) (resolve e' c t) DR := by
  obtain ⟨callee, args, ats⟩ := c
  have hargs : VRs u (args.map e) (args.map e') := rows_of he fun x hx => hc x (by simp [Call.operands]; exact .inr (by simpa using hx))
  unfold resolve
  cases callee with
  | value f =>
    have hf := he f (hc f (by simp [Call.operands]))
    simp only
    generalize e f = p at hf ⊢
    generalize e' f = q at hf ⊢
    cases hf with
    | func hfn h1 h2 h3 h4 => exact sim_ret ⟨.fn hfn ⟨h3, h4⟩, VRs.append ⟨h1, h2⟩ hargs⟩
    | nilFunc => exact sim_ret ⟨.nil, hargs⟩
    | _ => exact sim_stuck
  | builtin b => exact sim_ret ⟨.builtin _ _ _ _, hargs⟩
  | invoke r m => exact sim_ret ⟨.fn (.method m) (VRs.nil u), ((VRs.nil u).push (he r (hc r (by simp [Call.operands])))).append hargs⟩
theorem sim_cquiet {e e' : Operand → Value} (he : ER u e e') (o : Oper) (ho : o.op.operands.toList.all opOK = true) : SimC P N u (cquiet P e o) (execOp e' o) NR := by
  intro h w HH r h' hc
  unfold cquiet at hc
  split at hc
  case isFalse => cases hc
  rename_i hcond
  simp only [Bool.and_eq_true] at hcond
  have heq : execOp e' o = execOp e o := by
    refine execOp_congr o (fun cs b hs => by rw [hs] at hcond; simp [noSelect] at hcond) fun x hx => ?_
    have hx' : x ∈ o.op.operands.toList := by simpa using hx
    exact (he x (mem_ops ho hx')).eq_of_closed (List.all_eq_true.1 hcond.2 x hx')
  rw [heq]
  split at hc
  · rename_i v hq
    split at hc
    case isFalse => cases hc
    rename_i hv
    exact simC_quiet hq (.inl ⟨v, 8, rfl, hv⟩) h w HH r h' hc
  · rename_i v hq
    split at hc
    case isFalse => cases hc
    rename_i hv
    exact simC_quiet hq (.inr ⟨v, 8, rfl, hv⟩) h w HH r h' hc
  · cases hc
theorem vo_of {e e' : Operand → Value} (he : ER u e e') {x : Option Operand} (hx : ∀ y, x = some y → opOK y = true) : VO u (x.map e) (x.map e') := by
  cases x with
  | none => trivial
  | some y => exact he y (hx y rfl)
theorem vc_of {x y : Option Value} (h : VO u x y) (hc : x.toList.all (closed 1) = true) : y = x ∧ VC x := by
  cases x with
  | none => cases y with
    | none => exact ⟨rfl, trivial⟩
    | some v => exact h.elim
  | some v => cases y with
    | none => exact h.elim
    | some v' =>
      have hv : closed 1 v = true := by simpa using hc
      exact ⟨by rw [VR.eq_of_closed h hv], fun u' => VR.of_closed hv⟩
theorem sim_cslice (hz : Fine P) {v v' : Value} (hv : VR u v v') {lo lo' hi hi' mx mx' : Option Value} (hl : VO u lo lo') (hh : VO u hi hi') (hm : VO u mx mx') (t : TypeId) :
    SimC P N u (cslice P t v lo hi mx) (do pure (Next.value (← Instr.sliceAt t v' lo' hi' mx'))) NR := by
  by_cases ha : arrOK P t = true
  case neg =>
    unfold cslice
    simp only [ha]
    exact simC_none fun _ => rfl
  have plain : (∀ a n c, v = .slice a n c → c < BIG) → SimC P N u (fun h => if (lo.toList ++ hi.toList ++ mx.toList).all (closed 1) then val (crun P (Instr.sliceAt t v lo hi mx) h) else none) (do pure (Next.value (← Instr.sliceAt t v' lo' hi' mx'))) NR := by
    intro hc
    by_cases hall : (lo.toList ++ hi.toList ++ mx.toList).all (closed 1) = true
    · simp only [hall, if_true]
      simp only [List.all_append, Bool.and_eq_true] at hall
      obtain ⟨rfl, h1⟩ := vc_of hl hall.1.1
      obtain ⟨rfl, h2⟩ := vc_of hh hall.1.2
      obtain ⟨rfl, h3⟩ := vc_of hm hall.2
      exact sim_val (SimAt.toC (sim_sliceAt ha hv hc h1 h2 h3))
    · simp only [hall]; exact simC_none fun _ => rfl
  unfold cslice
  simp only [ha, Bool.not_true, Bool.false_eq_true, if_false]
  cases v with
  | slice a n c =>
    cases a with
    | none =>
      by_cases hb : c < BIG
      · simp only [hb, if_true]; exact plain fun a n c' he => by cases he; exact hb
      · simp only [hb, if_false]; exact simC_none fun _ => rfl
    | some a =>
      by_cases hb : c < BIG
      · simp only [hb, if_true]; exact plain fun a n c' he => by cases he; exact hb
      · simp only [hb, if_false]
        have : c = BIG + (c - BIG) := by omega
        rw [this] at hv
        exact sim_val (sim_sliceG hv hl hh hm t)
  | _ => exact plain fun a n c' he => by cases he
end
end Go.Proofs.Simul
namespace Go.Proofs.Simul
open Go Go.RowKit
section
variable {P : Program} {N : Nat → Prop} {u : Ren}
theorem nilEq_run {d : TypeDesc} {v w v' w' : Value} {b : Bool} (hv : VR u v v') (hw : VR u w w') (h : nilEq d v w = some b) {t : TypeId} (ht : P.underlying t = some d) (x y : Operand) (W : World) :
    (do eqGuard .eql t x y v' w'; binOp .eql t v' w' : Sem Value).run P W = .ok (.bool b) W ∧ (do eqGuard .neq t x y v' w'; binOp .neq t v' w' : Sem Value).run P W = .ok (.bool !b) W := by
  have fin : (∀ op, (eqGuard op t x y v' w').run P W = .ok () W) → (Op.equal t v' w').run P W = .ok b W → binOp .eql t v' w' = (do pure (.bool (← Op.equal t v' w'))) → binOp .neq t v' w' = (do pure (.bool (!(← Op.equal t v' w')))) →
      (do eqGuard .eql t x y v' w'; binOp .eql t v' w' : Sem Value).run P W = .ok (.bool b) W ∧ (do eqGuard .neq t x y v' w'; binOp .neq t v' w' : Sem Value).run P W = .ok (.bool !b) W := by
    intro h1 h2 h3 h4
    rw [bind_ok (h1 _), bind_ok (h1 _), h3, h4, bind_ok h2, bind_ok h2]
    exact ⟨rfl, rfl⟩
  unfold nilEq at h
  split at h
  all_goals first | (cases h; done) | skip
  all_goals
    cases h
    cases hv <;> cases hw <;>
    · refine fin (fun op => by cases op <;> rfl) ?_ rfl rfl
      show (Op.equalIn 10000 _ _ _).run P W = _
      unfold Op.equalIn
      rw [bind_ok (run_underlying ht W)]
      rfl
theorem simC_if {α β : Type} {c : World → Option (Except Value α × World)} {t : Sem β} {R : Ren → α → β → Prop} {p : Prop} [Decidable p] (h : p → SimC P N u c t R) : SimC P N u (fun x => if p then c x else none) t R := by
  by_cases hp : p
  · simp only [hp, if_true]; exact h hp
  · simp only [hp, if_false]; exact simC_none fun _ => rfl
theorem sim_cop (hz : Fine P) {e e' : Operand → Value} (he : ER u e e') (o : Oper) : SimC P N u (cop P e o) (execOp e' o) NR := by
  refine simC_if fun hall => ?_
  have hq := sim_cquiet (N := N) (P := P) he o hall
  obtain ⟨dst, op, type, pos, after, guard⟩ := o
  have ok : ∀ x ∈ op.operands.toList, opOK x = true := fun x hx => mem_ops hall hx
  cases op with
  | move x => exact simC_ret (.value (he x (ok x (by simp [Op.operands]))))
  | assign x => exact simC_ret (.value (he x (ok x (by simp [Op.operands]))))
  | pick c a b =>
    have hc := he c (ok c (by simp [Op.operands]))
    have ha := he a (ok a (by simp [Op.operands]))
    have hb := he b (ok b (by simp [Op.operands]))
    have hx : execOp e' { dst, op := .pick c a b, type, pos, after, guard } = (do pure (.value (if ← asBool (e' c) then e' a else e' b))) := rfl
    rw [hx]
    simp only
    generalize e c = p at hc ⊢
    generalize e' c = q at hc ⊢
    cases hc with
    | bool t => cases t <;> exact simC_ret (.value (by assumption))
    | _ => exact simC_none fun _ => rfl
  | alloc t => exact simC_if fun hzk => sim_val (SimAt.toC (sim_alloc hzk true))
  | box t x => exact sim_val (SimAt.toC (sim_box (he x (ok x (by simp [Op.operands])))))
  | build t parts => exact simC_if fun hzk => sim_val (SimAt.toC (by rw [← buildL_eq, mapC_eq]; exact sim_build hzk (by simpa using parts_of he (l := parts.toList) fun x hx => ok x (by simpa [Op.operands] using hx))))
  | buildSlice t len parts => exact simC_if fun hlen => sim_val (SimAt.toC (by rw [mapC_eq]; exact sim_buildSlice hlen.2 (by simpa using parts_of he (l := parts.toList) fun x hx => ok x (by simpa [Op.operands] using hx)) len hlen.1))
  | load t a => exact sim_val (SimAt.toC (sim_loadAt (he a (ok a (by simp [Op.operands]))) t))
  | store t a x => exact sim_skp (sim_storeAt (he a (ok a (by simp [Op.operands]))) (he x (ok x (by simp [Op.operands]))) t)
  | nilCheck x =>
    have hx := he x (ok x (by simp [Op.operands]))
    have hh : execOp e' { dst, op := .nilCheck x, type, pos, after, guard } = (match e' x with
      | .pointer none | .nilIface | .nilFunc => runtimePanic .nilDeref
      | .func (.method name) first captured =>
        match (first[0]? : Option Value) with
        | some .nilIface => runtimePanic .nilDeref
        | some (.iface t w) => do
          if (← nilAhead ((← program).types.size + Made.depth) t w name) != some false then
            unsupported (.noEntry "op/nilCheck.the method's receiver behind this interface value is a nil pointer, or cannot be seen to be none, and the arguments act or may panic (ledger 612)")
          pure (.value (.func (.method name) first captured))
        | _ => pure (.value (.func (.method name) first captured))
      | x => pure (.value x)) := rfl
    rw [hh]
    simp only
    generalize e x = p at hx ⊢
    generalize e' x = q at hx ⊢
    cases hx with
    | ptrNil => exact SimAt.toC sim_nilDeref
    | nilIface => exact SimAt.toC sim_nilDeref
    | nilFunc => exact SimAt.toC sim_nilDeref
    | func h h1 h2 h3 h4 =>
      cases h with
      | method n => exact simC_none fun _ => rfl
      | func f => exact simC_ret (.value (.func (.func f) h1 h2 h3 h4))
      | methodOf t n => exact simC_ret (.value (.func (.methodOf t n) h1 h2 h3 h4))
      | via t p f b => exact simC_ret (.value (.func (.via t p f b) h1 h2 h3 h4))
      | yield h => exact simC_ret (.value (.func (.yield h) h1 h2 h3 h4))
    | bool b => exact simC_ret (.value (.bool b))
    | int k n => exact simC_ret (.value (.int k n))
    | float k b => exact simC_ret (.value (.float k b))
    | complex k x y => exact simC_ret (.value (.complex k x y))
    | string s => exact simC_ret (.value (.string s))
    | ptr h => exact simC_ret (.value (.ptr h))
    | sliceNil n c => exact simC_ret (.value (.sliceNil n c))
    | slice n c h hc => exact simC_ret (.value (.slice n c h hc))
    | sliceG n c c' h hn hc hr => exact simC_ret (.value (.sliceG n c c' h hn hc hr))
    | mapNil => exact simC_ret (.value .mapNil)
    | map h => exact simC_ret (.value (.map h))
    | chanNil => exact simC_ret (.value .chanNil)
    | iface t h => exact simC_ret (.value (.iface t h))
    | agg h1 h2 => exact simC_ret (.value (.agg h1 h2))
    | tuple h1 h2 => exact simC_ret (.value (.tuple h1 h2))
  | makeFunc fn a b =>
    have ha : VRs u (a.map e) (a.map e') := rows_of he fun x hx => ok x (by simp [Op.operands]; exact .inl (by simpa using hx))
    have hb : VRs u (b.map e) (b.map e') := rows_of he fun x hx => ok x (by simp [Op.operands]; exact .inr (by simpa using hx))
    have hmap : ∀ (xs : Array Operand), (xs.toList.map e).toArray = xs.map e := fun xs => by rw [← Array.toList_map]
    simp only [hmap]
    cases fn with
    | yield l => exact simC_none fun _ => rfl
    | func f => exact simC_ret (.value (.func (.func f) ha.1 ha.2 hb.1 hb.2))
    | method n => exact simC_ret (.value (.func (.method n) ha.1 ha.2 hb.1 hb.2))
    | methodOf t n => exact simC_ret (.value (.func (.methodOf t n) ha.1 ha.2 hb.1 hb.2))
    | via t p f c => exact simC_ret (.value (.func (.via t p f c) ha.1 ha.2 hb.1 hb.2))
  | makeMap t r =>
    refine sim_val (SimAt.toC (sim_makeMap ?_ t))
    cases r with
    | none => exact .inl ⟨rfl, rfl⟩
    | some x => exact .inr ⟨_, _, rfl, rfl, he x (ok x (by simp [Op.operands]))⟩
  | makeSlice t l c => exact simC_if fun hzk => sim_val (SimAt.toC (sim_makeSlice hzk (he l (ok l (by simp [Op.operands]))) (he c (ok c (by simp [Op.operands])))))
  | slice t x lo hi mx =>
    exact sim_cslice hz (he x (ok x (by simp [Op.operands]))) (vo_of he fun y hy => ok y (by subst hy; simp [Op.operands])) (vo_of he fun y hy => ok y (by subst hy; simp [Op.operands])) (vo_of he fun y hy => ok y (by subst hy; simp [Op.operands])) t
  | fieldAddr s x f => exact sim_val (SimAt.toC (sim_fieldAt (he x (ok x (by simp [Op.operands]))) s f))
  | field s x f => exact sim_val (SimAt.toC (sim_field (he x (ok x (by simp [Op.operands]))) s f))
  | indexAddr t x i => exact sim_val (SimAt.toC (sim_indexAt (he x (ok x (by simp [Op.operands]))) (he i (ok i (by simp [Op.operands]))) t))
  | index t x i => exact sim_val (SimAt.toC (sim_index (he x (ok x (by simp [Op.operands]))) (he i (ok i (by simp [Op.operands]))) t))
  | extract x i => exact sim_val (SimAt.toC (sim_extract (he x (ok x (by simp [Op.operands]))) i))
  | makeInterface t x => exact sim_val (SimAt.toC (sim_makeInterface (he x (ok x (by simp [Op.operands]))) t))
  | call c =>
    have hb := simC_bind (f := fun d h => cinvoke P d h) (g := fun d => invoke d.target d.args) (sim_resolve (N := N) (P := P) he c (fun x hx => ok x hx) type) fun u' e1 a b hab => sim_cinvoke hz hab
    refine simC_mono hb fun x r h => ?_
    simp only at h ⊢
    rw [resolveC_eq]
    cases hcr : resolveC e c type with
    | none => rw [hcr] at h; cases h
    | some y => rw [hcr] at h; exact h
  | defer c =>
    have hb := simC_bind (R := NR) (f := fun d h => some (.ok (Next.defer d), h)) (g := fun d => pure (Next.defer d)) (sim_resolve (N := N) (P := P) he c (fun x hx => ok x hx) type) fun u' e1 a b hab => simC_ret (R := NR) (.defer hab)
    refine simC_mono hb fun x r h => ?_
    simp only at h ⊢
    rw [resolveC_eq]
    cases hcr : resolveC e c type with
    | none => rw [hcr] at h; cases h
    | some y => rw [hcr] at h; exact h
  | panic x =>
    have hx := he x (ok x (by simp [Op.operands]))
    have hh : execOp e' { dst, op := .panic x, type, pos, after, guard } = (do pure (.value (← Instr.panic (e' x)))) := rfl
    rw [hh]
    simp only
    generalize e x = p at hx ⊢
    generalize e' x = q at hx ⊢
    cases hx with
    | iface t hvv =>
      intro h w HH r h' hc
      cases hc
      exact ⟨u, w, Ext.refl u, HH, Keeps.refl _ _, _, rfl, .iface _ hvv⟩
    | _ => exact simC_none fun _ => rfl
  | convert src dst2 x =>
    have hx := he x (ok x (by simp [Op.operands]))
    refine simC_mono (c := fun h => (match P.underlying src, P.underlying dst2, e x with
      | some _, some (.slice t), .string s => (match P.underlying t with | some (.int .u8) => val (cbytes P t s h) | _ => none)
      | some (.slice t), some .string, .slice a n c => (match P.underlying t with | some (.int .u8) => val (crun P (Conv.bytesToString (.slice a n c)) h) | _ => none)
      | _, _, _ => cquiet P e { dst, op := .convert src dst2 x, type, pos, after, guard } h)) ?_ (fun _ _ h => h)
    split
    · rename_i d1 t s h1 h2 h3
      cases h4 : P.underlying t with
      | none => exact simC_none fun _ => rfl
      | some d =>
        cases d with
        | int k =>
          cases k with
          | u8 =>
            rw [h3] at hx
            have hv : e' x = .string s := by generalize e' x = q at hx; cases hx; rfl
            have hh : execOp e' { dst, op := .convert src dst2 x, type, pos, after, guard } = (do pure (.value (← convert src dst2 (e' x)))) := rfl
            rw [hh, hv]
            refine sim_val ?_
            have hcv : ∀ W, (convert src dst2 (.string s)).run P W = (Conv.stringToBytes t s).run P W := by
              intro W
              unfold convert
              rw [bind_ok (run_underlying h1 W), bind_ok (run_underlying h2 W)]
              dsimp only
              rw [bind_ok (run_underlying h4 W)]
            intro h w HH r h' hc
            obtain ⟨u1, w1, e1, H1, b1, F1⟩ := sim_cbytes (N := N) (P := P) (u := u) t s h w HH r h' hc
            refine ⟨u1, w1, e1, H1, b1, ?_⟩
            cases r with
            | ok a => obtain ⟨b, hb, hR⟩ := F1; exact ⟨b, by rw [hcv]; exact hb, hR⟩
            | error a => obtain ⟨b, hb, hR⟩ := F1; exact ⟨b, by rw [hcv]; exact hb, hR⟩
          | _ => exact simC_none fun _ => rfl
        | _ => exact simC_none fun _ => rfl
    · rename_i t a n c h1 h2 h3
      cases h4 : P.underlying t with
      | none => exact simC_none fun _ => rfl
      | some d =>
        cases d with
        | int k =>
          cases k with
          | u8 =>
            rw [h3] at hx
            have hh : execOp e' { dst, op := .convert src dst2 x, type, pos, after, guard } = (do pure (.value (← convert src dst2 (e' x)))) := rfl
            rw [hh]
            refine sim_val ?_
            have hcv : ∀ W, (convert src dst2 (e' x)).run P W = (Conv.bytesToString (e' x)).run P W := by
              intro W
              unfold convert
              rw [bind_ok (run_underlying h1 W), bind_ok (run_underlying h2 W)]
              generalize e' x = q at hx ⊢
              cases hx <;>
              · dsimp only
                rw [bind_ok (run_underlying h4 W)]
            intro h w HH r h' hc
            obtain ⟨u1, w1, e1, H1, b1, F1⟩ := SimAt.toC (sim_bytesToString (N := N) (P := P) hx) h w HH r h' hc
            refine ⟨u1, w1, e1, H1, b1, ?_⟩
            cases r with
            | ok a => obtain ⟨b, hb, hR⟩ := F1; exact ⟨b, by rw [hcv]; exact hb, hR⟩
            | error a => obtain ⟨b, hb, hR⟩ := F1; exact ⟨b, by rw [hcv]; exact hb, hR⟩
          | _ => exact simC_none fun _ => rfl
        | _ => exact simC_none fun _ => rfl
    · exact hq
  | binOp op t x y yt =>
    have hx := he x (ok x (by simp [Op.operands]))
    have hy := he y (ok y (by simp [Op.operands]))
    have hh : execOp e' { dst, op := .binOp op t x y yt, type, pos, after, guard } = (do pure (.value (← (do eqGuard op t x y (e' x) (e' y); binOp op t (e' x) (e' y))))) := rfl
    refine simC_mono (c := fun h => (match op, (P.underlying t).bind fun d => nilEq d (e x) (e y) with
      | .eql, some b => some (.ok (.value (.bool b)), h)
      | .neq, some b => some (.ok (.value (.bool !b)), h)
      | _, _ => cquiet P e { dst, op := .binOp op t x y yt, type, pos, after, guard } h)) ?_ (fun _ _ h => h)
    cases hn : (P.underlying t).bind fun d => nilEq d (e x) (e y) with
    | none => exact simC_mono hq fun _ _ h => by cases op <;> exact h
    | some b =>
      cases hu : P.underlying t with
      | none => rw [hu] at hn; cases hn
      | some d =>
        rw [hu] at hn
        have hr := nilEq_run hx hy hn hu x y
        rw [hh] at hq ⊢
        cases op with
        | eql =>
          intro h w HH r h' hc
          cases hc
          exact ⟨u, w, Ext.refl u, HH, Keeps.refl _ _, _, by rw [bind_ok (hr w).1]; rfl, .value (.bool _)⟩
        | neq =>
          intro h w HH r h' hc
          cases hc
          exact ⟨u, w, Ext.refl u, HH, Keeps.refl _ _, _, by rw [bind_ok (hr w).2]; rfl, .value (.bool _)⟩
        | _ => exact hq
  | _ => exact hq
end
end Go.Proofs.Simul
/-
  A canonical run serves every run. Part M: frames, stacks, schedules.
-/
namespace Go.Proofs.Simul
open Go Go.RowKit

def ins (i : Nat) : List Nat → List Nat
  | [] => [i]
  | j :: l => if i < j then i :: j :: l else j :: ins i l
theorem mem_ins {i j : Nat} : ∀ {l : List Nat}, j ∈ ins i l ↔ j = i ∨ j ∈ l
  | [] => by simp [ins]
  | k :: l => by
    unfold ins
    split
    · simp
    · simp only [List.mem_cons, mem_ins (l := l)]
      constructor
      · rintro (h | h | h) <;> simp [h]
      · rintro (h | h | h) <;> simp [h]
def readyL (ops : Array Oper) (listed : List Nat) : List Nat :=
  (List.range ops.size).filter fun i => !listed.contains i && ((ops[i]?).map (·.after.toList.all fun e => !Region.binds .any e || listed.contains e.on)).getD false
/-- what may be left of an order, when so much has been done -/
inductive Sched (ops : Array Oper) : List Nat → List Nat → Prop
  | done {listed : List Nat} (h : readyL ops listed = []) : Sched ops listed []
  | next {listed rest : List Nat} {i : Nat} (h : i ∈ readyL ops listed) (hs : Sched ops (ins i listed) rest) : Sched ops listed (i :: rest)

def falses : List Bool → Nat
  | [] => 0
  | true :: l => falses l
  | false :: l => falses l + 1
theorem falses_set : ∀ (l : List Bool) (i : Nat), l[i]? = some false → falses (l.set i true) + 1 = falses l
  | [], i, h => by simp at h
  | b :: l, 0, h => by simp at h; subst h; rfl
  | b :: l, i + 1, h => by
    have := falses_set l i (by simpa using h)
    cases b <;> simp only [List.set_cons_succ, falses] <;> omega
theorem falses_zero : ∀ (l : List Bool), falses l = 0 → ∀ i : Nat, l[i]? ≠ some false
  | [], _, i => by simp
  | true :: l, h, i => by
    cases i with
    | zero => simp
    | succ i => simpa using falses_zero l h i
  | false :: l, h, i => by simp [falses] at h
theorem sched_go (ops : Array Oper) : ∀ (fuel t : Nat) (arr : Array Bool) (acc listed : List Nat), arr.size = ops.size → falses arr.toList = fuel → (∀ i : Nat, i < ops.size → (arr.getD i true = listed.contains i)) → (∀ i : Nat, i ∈ listed → i < ops.size) →
    ∃ rest, Region.linearise.go .any ops fuel t arr acc = acc.reverse ++ rest ∧ Sched ops listed rest := by
  intro fuel
  induction fuel with
  | zero =>
    intro t arr acc listed hsz hf hl hb
    refine ⟨[], by simp [Region.linearise.go], .done ?_⟩
    unfold readyL
    rw [List.filter_eq_nil_iff]
    intro i hi
    have hi' : i < ops.size := by simpa using hi
    have h1 := hl i hi'
    have h2 : arr.getD i true = true := by
      have := falses_zero _ hf i
      rw [Array.getD_eq_getD_getElem?, Array.getElem?_eq_getElem (by omega)]
      have h3 : arr.toList[i]? = some arr[i] := by simp [Array.getElem?_eq_getElem (show i < arr.size by omega)]
      rw [h3] at this
      cases hx : arr[i] with
      | true => simp
      | false => rw [hx] at this; exact (this rfl).elim
    rw [h2] at h1
    have h4 : i ∈ listed := by simpa using h1.symm
    simp [h4]
  | succ fuel ih =>
    intro t arr acc listed hsz hf hl hb
    have hrs : ((List.range ops.size).filter fun i => !arr.getD i true && ((ops[i]?).map (·.after.all fun e => !Region.binds .any e || arr.getD e.on false)).getD false) = readyL ops listed := by
      unfold readyL
      apply List.filter_congr
      intro i hi
      have hi' : i < ops.size := by simpa using hi
      rw [hl i hi']
      congr 1
      cases ho : ops[i]? with
      | none => rfl
      | some o =>
        simp only [Option.map_some, Option.getD_some]
        have key : ∀ e : Edge, arr.getD e.on false = listed.contains e.on := fun e => by
          by_cases he : e.on < ops.size
          · rw [← hl e.on he, Array.getD_eq_getD_getElem?, Array.getD_eq_getD_getElem?, Array.getElem?_eq_getElem (by omega)]; rfl
          · rw [Array.getD_eq_getD_getElem?, Array.getElem?_eq_none (by omega)]
            have : ¬ e.on ∈ listed := fun h => he (hb _ h)
            simp [this]
        simp only [key]
        rw [Array.all_toList]
    unfold Region.linearise.go
    simp only
    rw [hrs]
    cases hx : (readyL ops listed)[t % (readyL ops listed).length]? with
    | none =>
      have hnil : readyL ops listed = [] := by
        rcases hr : readyL ops listed with _ | ⟨a, l⟩
        · rfl
        · rw [hr] at hx
          have := List.getElem?_eq_none_iff.1 hx
          have h2 := Nat.mod_lt t (show 0 < (a :: l).length by simp)
          omega
      exact ⟨[], by simp, .done hnil⟩
    | some i =>
      have hmem : i ∈ readyL ops listed := List.mem_of_getElem? hx
      have hi' : i < ops.size ∧ listed.contains i = false := by
        unfold readyL at hmem
        rw [List.mem_filter] at hmem
        simp only [List.mem_range, Bool.and_eq_true, Bool.not_eq_true'] at hmem
        exact ⟨hmem.1, hmem.2.1⟩
      have hfi : arr.toList[i]? = some false := by
        have h1 := hl i hi'.1
        rw [hi'.2, Array.getD_eq_getD_getElem?, Array.getElem?_eq_getElem (by omega)] at h1
        have h3 : arr.toList[i]? = some arr[i] := by simp [Array.getElem?_eq_getElem (show i < arr.size by omega)]
        rw [h3]; simpa using h1
      obtain ⟨rest, h1, h2⟩ := ih (t / (readyL ops listed).length) (arr.setIfInBounds i true) (i :: acc) (ins i listed) (by simpa using hsz)
        (by have := falses_set _ i hfi; rw [Array.toList_setIfInBounds]; omega)
        (fun j hj => by
          rw [Array.getD_eq_getD_getElem?, Array.getElem?_setIfInBounds]
          by_cases e : i = j
          · subst e
            rw [if_pos rfl, if_pos (by omega)]
            simp [mem_ins]
          · rw [if_neg e, ← Array.getD_eq_getD_getElem?, hl j hj]
            simp only [List.contains_eq_mem, mem_ins, decide_eq_decide]
            constructor
            · exact .inr
            · rintro (h | h)
              · exact (e h.symm).elim
              · exact h)
        (fun j hj => by
          rcases mem_ins.1 hj with rfl | h
          · exact hi'.1
          · exact hb j h)
      exact ⟨i :: rest, by simp only; rw [h1]; simp, .next hmem h2⟩
theorem falses_replicate : ∀ n : Nat, falses (List.replicate n false) = n
  | 0 => rfl
  | n + 1 => by simp only [List.replicate_succ, falses, falses_replicate n]
theorem sched_linearise (ops : Array Oper) (t : Nat) : Sched ops [] (Region.linearise .any ops t) := by
  unfold Region.linearise
  obtain ⟨rest, h1, h2⟩ := sched_go ops ops.size t (Array.replicate ops.size false) [] [] (by simp) (by simp [falses_replicate]) (fun i hi => by simp [Array.getD_eq_getD_getElem?, hi]) (fun i h => by simp at h)
  rw [h1]; simpa using h2

/-- what is left to do, both sides; a region whose order is open stands canonically behind the number of its operations -/
inductive IR (u : Ren) : Item → Item → Prop
  | code (c : Code) : IR u (.code c) (.code c)
  | inBlock (id : Nat) : IR u (.inBlock id) (.inBlock id)
  | inLoop (c : Code) : IR u (.inLoop c) (.inLoop c)
  | inScope (c : Code) : IR u (.inScope c) (.inScope c)
  | inRegion (ops : Array Oper) (l : List Nat) (hl : ∀ j ∈ l, j ≠ ops.size) : IR u (.inRegion ops l) (.inRegion ops l)
  | inAny (ops : Array Oper) (pre : List Nat) {listed rest : List Nat} (hp : ∀ j ∈ pre, j ≠ ops.size) (h : Sched ops listed rest) : IR u (.inRegion ops (pre ++ ops.size :: listed)) (.inRegion ops (pre ++ rest))
  | inRangeFunc {l m : Nat} (h : RR u l m) : IR u (.inRangeFunc l) (.inRangeFunc m)
  | endRangeFunc {l m : Nat} (h : RR u l m) : IR u (.endRangeFunc l) (.endRangeFunc m)
  | beginRound : IR u .beginRound .beginRound
inductive TL (u : Ren) : List Item → List Item → Prop
  | nil : TL u [] []
  | cons {x y : Item} {l m : List Item} (h : IR u x y) (hs : TL u l m) : TL u (x :: l) (y :: m)
inductive ML (u : Ren) : List PanicEntry → List PanicEntry → Prop
  | nil : ML u [] []
  | cons {x y : PanicEntry} {l m : List PanicEntry} (hv : VR u x.v y.v) (hr : y.recovered = x.recovered) (hg : y.goexit = x.goexit) (hs : ML u l m) : ML u (x :: l) (y :: m)
inductive MR (u : Ren) : FrameMode → FrameMode → Prop
  | run : MR u .run .run
  | returning : MR u .returning .returning
  | panicking {l m : List PanicEntry} (h : ML u l m) : MR u (.panicking l) (.panicking m)
inductive OpR (u : Ren) : Option Nat → Option Nat → Prop
  | none : OpR u none none
  | some {r s : Nat} (h : RR u r s) : OpR u (some r) (some s)
structure FR (u : Ren) (f g : Frame) : Prop where
  fn : g.fn = f.fn
  tmps : VRs u f.tmps g.tmps
  todo : TL u f.todo g.todo
  defers : DRs u f.defers g.defers
  mode : MR u f.mode g.mode
  kind : g.kind = f.kind
  roundOf : OpR u f.roundOf g.roundOf
/-- the callers, both sides; below them whatever callers -/
inductive CR (u : Ren) (base : List Frame) : List Frame → List Frame → Prop
  | nil : CR u base [] base
  | cons {f g : Frame} {l m : List Frame} (h : FR u f g) (hs : CR u base l m) : CR u base (f :: l) (g :: m)

theorem IR.ext {u u' : Ren} {x y : Item} (h : IR u x y) (he : Ext u u') : IR u' x y := by
  cases h with
  | code c => exact .code c
  | inBlock id => exact .inBlock id
  | inLoop c => exact .inLoop c
  | inScope c => exact .inScope c
  | inRegion ops l hl => exact .inRegion ops l hl
  | inAny ops pre hp h => exact .inAny ops pre hp h
  | inRangeFunc h => exact .inRangeFunc (h.ext he)
  | endRangeFunc h => exact .endRangeFunc (h.ext he)
  | beginRound => exact .beginRound
theorem TL.ext {u u' : Ren} {x y : List Item} (h : TL u x y) (he : Ext u u') : TL u' x y := by
  induction h with
  | nil => exact .nil
  | cons h hs ih => exact .cons (h.ext he) ih
theorem ML.ext {u u' : Ren} {x y : List PanicEntry} (h : ML u x y) (he : Ext u u') : ML u' x y := by
  induction h with
  | nil => exact .nil
  | cons hv hr hg hs ih => exact .cons (hv.ext he) hr hg ih
theorem MR.ext {u u' : Ren} {x y : FrameMode} (h : MR u x y) (he : Ext u u') : MR u' x y := by
  cases h with
  | run => exact .run
  | returning => exact .returning
  | panicking h => exact .panicking (h.ext he)
theorem OpR.ext {u u' : Ren} {x y : Option Nat} (h : OpR u x y) (he : Ext u u') : OpR u' x y := by
  cases h with
  | none => exact .none
  | some h => exact .some (h.ext he)
theorem FR.ext {u u' : Ren} {f g : Frame} (h : FR u f g) (he : Ext u u') : FR u' f g :=
  ⟨h.fn, h.tmps.ext he, h.todo.ext he, h.defers.ext he, h.mode.ext he, h.kind, h.roundOf.ext he⟩
theorem CR.ext {u u' : Ren} {base l m : List Frame} (h : CR u base l m) (he : Ext u u') : CR u' base l m := by
  induction h with
  | nil => exact .nil
  | cons h hs ih => exact .cons (h.ext he) ih
theorem ML.append {u : Ren} {a b c d : List PanicEntry} (h : ML u a b) (k : ML u c d) : ML u (a ++ c) (b ++ d) := by
  induction h with
  | nil => exact k
  | cons hv hr hg hs ih => exact .cons hv hr hg ih
theorem FR.eval {u : Ren} {f g : Frame} (h : FR u f g) : ER u f.eval g.eval := fun x hx => by
  cases x with
  | tmp t => exact h.tmps.getD (VR.undef u) t
  | const v => exact VR.of_closed (d := 6) hx
  | global g => simp [opOK] at hx
  | func f => exact .func (.func f) rfl (fun i a b h => by simp at h) rfl (fun i a b h => by simp at h)
theorem FR.raise {u : Ren} {f g : Frame} (h : FR u f g) {l m : List PanicEntry} (hl : ML u l m) : FR u (f.raise l) (g.raise m) := by
  unfold Frame.raise
  have hm := h.mode
  generalize hfm : f.mode = fm at hm ⊢
  generalize hgm : g.mode = gm at hm ⊢
  cases hm with
  | run => exact ⟨h.fn, h.tmps, h.todo, h.defers, .panicking hl, h.kind, h.roundOf⟩
  | returning => exact ⟨h.fn, h.tmps, h.todo, h.defers, .panicking hl, h.kind, h.roundOf⟩
  | panicking hc => exact ⟨h.fn, h.tmps, h.todo, h.defers, .panicking (hl.append hc), h.kind, h.roundOf⟩
end Go.Proofs.Simul
/-
  A canonical run serves every run. Part N: one step of the canonical machine.
-/
namespace Go.Proofs.Simul
open Go Go.RowKit

theorem arr_ext' {xs ys : Array Value} (h : xs.toList = ys.toList) : xs = ys := by cases xs; cases ys; simp_all
/-- a canonical state -/
structure CS where
  fr : Frame
  cs : List Frame
  h : World

/-- a frame, by lists -/
def enterC (P : Program) (f : FuncId) (args : Array Value) (kind : CallKind) : Frame :=
  let fn := P.funcs[f]?
  { fn := f, tmps := (args.toList ++ List.replicate ((fn.map (·.ntmps)).getD 0 - args.size) undef).toArray,
    todo := [.code ((fn.bind (·.body)).getD (.refuse "unsupported: a function without a Go body is entered"))], defers := [], mode := .run, kind }
theorem enterC_eq (P : Program) (f : FuncId) (args : Array Value) (kind : CallKind) : enterC P f args kind = Frame.enter P f args kind := by
  unfold enterC Frame.enter
  dsimp only
  congr 1
  apply arr_ext'
  simp
/-- results, by lists -/
def resultsL (fn : Func) (tmps : Array Value) : Sem Value := do
  let vs ← fn.results.toList.mapM fun
    | .tmp t => pure (tmps.getD t undef)
    | .cell a t => do loadVar t (← asAddr (tmps.getD a undef))
  pure (match vs with
    | [v] => v
    | vs => .tuple vs.toArray)
theorem resultsL_eq (fn : Func) (tmps : Array Value) : results fn tmps = resultsL fn tmps := by
  unfold results resultsL
  rw [Array.mapM_eq_mapM_toList]
  simp only [map_eq_pure_bind, bind_assoc, pure_bind]
  congr 1
  funext vs
  congr 1
  match vs with
  | [] => rfl
  | [v] => rfl
  | a :: b :: l => simp
def finOK (f : Frame) : Bool :=
  match f.todo with
  | .inRegion ops (i :: _) :: _ => decide (i < ops.size)
  | .inRangeFunc _ :: _ | .beginRound :: _ => true
  | _ => false
def cret (fr : Frame) (cs : List Frame) (v : Value) (h : World) : Option (List CS) :=
  match cs with
  | [] => none
  | c :: rest =>
    match fr.kind with
    | .normal => if finOK c then some [⟨c.finish v, rest, h⟩] else none
    | .deferred =>
      some [⟨(match c.mode with
        | .panicking ({ recovered := true, .. } :: older) =>
          (match older.dropWhile (!·.goexit) with
          | [] => { c with mode := .returning }
          | rest => { c with mode := .panicking rest })
        | _ => c), rest, h⟩]
    | _ => none
def endsFrame : Option Code → Bool
  | none | some .ret => true
  | _ => false
def cleave (P : Program) (s : CS) (jump : Option Code) : Option (List CS) :=
  match s.fr.roundOf with
  | none => if endsFrame jump then some [⟨{ s.fr with mode := .returning }, s.cs, s.h⟩] else none
  | some l => match crun P (Instr.endRound l jump) s.h with
    | some (.ok v, h1) => cret s.fr s.cs v h1
    | _ => none
def capply (P : Program) (fr : Frame) (cs : List Frame) : Option (Except Value Next × World) → Option (List CS)
  | some (.ok (.value v), h) => if finOK fr then some [⟨fr.finish v, cs, h⟩] else none
  | some (.ok .skip, h) => if finOK fr then some [⟨fr.finish undef, cs, h⟩] else none
  | some (.ok (.enter f args), h) => some [⟨enterC P f args .normal, fr :: cs, h⟩]
  | some (.ok (.round l f tmps assign body), h) => some [⟨Frame.round l f tmps assign body .normal, fr :: cs, h⟩]
  | some (.ok (.defer d), h) => if finOK fr then some [⟨{ fr with defers := d :: fr.defers }.finish undef, cs, h⟩] else none
  | some (.ok .recover, h) =>
    if fr.roundOf.isNone && finOK fr then
      (match fr.kind, cs with
      | .normal, _ => some [⟨fr.finish .nilIface, cs, h⟩]
      | .deferred, _ :: _ => (match tryRecover fr cs with
        | some (v, cs') => some [⟨fr.finish v, cs', h⟩]
        | none => some [⟨fr.finish .nilIface, cs, h⟩])
      | _, _ => none)
    else none
  | some (.error v, h) => some [⟨fr.raise [{ v, recovered := false }], cs, h⟩]
  | _ => none
def isNil : Target → Bool
  | .nil => true
  | _ => false
def cdefer (P : Program) (fr : Frame) (cs : List Frame) : Option (Except Value Next × World) → Option (List CS)
  | some (.ok (.enter f args), h) => some [⟨enterC P f args .deferred, fr :: cs, h⟩]
  | some (.ok (.value _), h) => some [⟨fr, cs, h⟩]
  | some (.error v, h) => some [⟨fr.raise [{ v, recovered := false }], cs, h⟩]
  | _ => none
def cunwind (P : Program) (s : CS) : Option (List CS) :=
  let fr := s.fr
  match fr.defers with
  | { target := .collected b, .. } :: ds =>
    (match crun P (Instr.takeDeferred b) s.h with
    | some (.ok calls, h1) => some [⟨{ fr with defers := calls ++ ds }, s.cs, h1⟩]
    | _ => none)
  | d :: ds =>
    if isNil d.target then none else cdefer P { fr with defers := ds } s.cs (cinvoke P d s.h)
  | [] =>
    match fr.mode with
    | .run => none
    | .panicking chain => if (P.funcs[fr.fn]?).isSome then (match s.cs with
      | c :: rest => some [⟨c.raise chain, rest, s.h⟩]
      | [] => none) else none
    | .returning =>
      match P.funcs[fr.fn]? with
      | none => none
      | some fn => (match crun P (resultsL fn fr.tmps) s.h with
        | some (.ok v, h1) => cret fr s.cs v h1
        | _ => none)
def cstep (P : Program) (s : CS) : Option (List CS) :=
  let fr := s.fr
  let to (todo : List Item) : Option (List CS) := some [⟨{ fr with todo }, s.cs, s.h⟩]
  match fr.mode with
  | .run =>
    match fr.todo with
    | [] => cleave P s none
    | .code c :: k =>
      (match c with
      | .ret => cleave P s (some .ret)
      | .skip | .label _ => to k
      | .seq a b => to (.code a :: .code b :: k)
      | .cond c a b => if opOK c then (match fr.eval c with | .bool t => to (.code (if t then a else b) :: k) | _ => none) else none
      | .block id body => to (.code body :: .inBlock id :: k)
      | .loop body => to (.code body :: .inLoop body :: k)
      | .scope body => to (.code body :: .inScope body :: k)
      | .exit id => (match exitTo id k with | some k' => to k' | none => cleave P s (some (.exit id)))
      | .goto l => (match gotoIn l k with | some k' => to k' | none => cleave P s (some (.goto l)))
      | .region id ops draw => if draw then to (.inRegion ops [ops.size] :: k) else to (.inRegion ops (List.range ops.size) :: k)
      | .rangeFunc f params assign body =>
        if opOK f then
          (match crun P (Instr.enterLoop fr.fn fr.tmps params assign body fr.roundOf) s.h with
          | some (.ok (l, mark), h1) =>
            let fr := { fr with todo := .inRangeFunc l :: k, defers := mark ++ fr.defers }
            (match crun P (Deferred.ofValue (fr.eval f) #[.func (.yield l) #[] #[]]) h1 with
            | some (.ok d, h2) => capply P fr s.cs (cinvoke P d h2)
            | _ => none)
          | _ => none)
        else none
      | .refuse _ => none)
    | .inBlock _ :: k | .inScope _ :: k => to k
    | .inLoop body :: k => to (.code body :: .inLoop body :: k)
    | .inRegion ops [] :: k => to k
    | .inRegion ops (i :: rest) :: k =>
      if i = ops.size then
        (match readyL ops rest with
        | [] => to k
        | rs => some (rs.map fun j => ⟨{ fr with todo := .inRegion ops (j :: ops.size :: ins j rest) :: k }, s.cs, s.h⟩))
      else if i < ops.size then
        (match ops[i]? with
        | none => none
        | some o =>
          if Region.wanted o (yielded ops fr.tmps) then
            (match fr.roundOf, o.op with
            | some l, .defer c => if o.op.operands.toList.all opOK then
              (match crun P (do Instr.deferInRound l (← resolve fr.eval c o.type); pure Next.skip) s.h with
              | some r => capply P fr s.cs (some r)
              | none => none) else none
            | _, _ => capply P fr s.cs (cop P fr.eval o s.h))
          else some [⟨fr.finish undef, s.cs, s.h⟩])
      else none
    | .beginRound :: _ => (match fr.roundOf with
      | some l => capply P fr s.cs (crun P (do Instr.beginRound l; pure Next.skip) s.h)
      | none => none)
    | .endRangeFunc l :: k => (match crun P (Instr.endLoop l) s.h with
      | some (.ok jump, h1) => some [⟨{ fr with todo := (jump.map Item.code).toList ++ k }, s.cs, h1⟩]
      | some (.error v, h1) => some [⟨fr.raise [{ v, recovered := false }], s.cs, h1⟩]
      | none => none)
    | _ => none
  | _ => cunwind P s

section
variable {P : Program} {N : Nat → Prop} {u : Ren}
theorem FR.finish {f g : Frame} (h : FR u f g) (hok : finOK f = true) {v v' : Value} (hv : VR u v v') : FR u (f.finish v) (g.finish v') := by
  obtain ⟨ffn, ftmps, ftodo, fdefers, fmode, fkind, fround⟩ := f
  obtain ⟨gfn, gtmps, gtodo, gdefers, gmode, gkind, ground⟩ := g
  obtain ⟨h1, h2, h3, h4, h5, h6, h7⟩ := h
  simp only at h1 h2 h3 h4 h5 h6 h7
  have tm : ∀ (ops : Array Oper) (i : Nat), VRs u (match (ops[i]?).bind (·.dst) with | some d => ftmps.setIfInBounds d v | none => ftmps) (match (ops[i]?).bind (·.dst) with | some d => gtmps.setIfInBounds d v' | none => gtmps) := by
    intro ops i
    split
    · exact h2.set hv _
    · exact h2
  cases h3 with
  | nil => simp [finOK] at hok
  | cons hi hs =>
    cases hi with
    | inRegion ops l hl =>
      cases l with
      | nil => simp [finOK] at hok
      | cons i rest => exact ⟨h1, tm ops i, .cons (.inRegion ops rest fun j hj => hl j (by simp [hj])) hs, h4, h5, h6, h7⟩
    | inAny ops pre hp hsch =>
      cases pre with
      | nil => simp [finOK] at hok
      | cons i pre => exact ⟨h1, tm ops i, .cons (.inAny ops pre (fun j hj => hp j (by simp [hj])) hsch) hs, h4, h5, h6, h7⟩
    | inRangeFunc h => exact ⟨h1, h2, .cons (.endRangeFunc h) hs, h4, h5, h6, h7⟩
    | beginRound => exact ⟨h1, h2, hs, h4, h5, h6, h7⟩
    | _ => simp [finOK] at hok
theorem FR.enter (f : FuncId) {as bs : Array Value} (h : VRs u as bs) (k : CallKind) : FR u (Frame.enter P f as k) (Frame.enter P f bs k) := by
  unfold Frame.enter
  refine ⟨rfl, ?_, .cons (.code _) .nil, .nil, .run, rfl, .none⟩
  simp only
  rw [← h.1]
  exact h.append (VRs.replicate (VR.undef u) _)
theorem FR.enterC (f : FuncId) {as bs : Array Value} (h : VRs u as bs) (k : CallKind) : FR u (Simul.enterC P f as k) (Frame.enter P f bs k) := by rw [enterC_eq]; exact FR.enter f h k
theorem FR.round_ {l m : Nat} (h : RR u l m) (f : FuncId) {ts us : Array Value} (ht : VRs u ts us) (a b : Code) (k : CallKind) : FR u (Frame.round l f ts a b k) (Frame.round m f us a b k) :=
  ⟨rfl, ht, .cons (.code _) (.cons .beginRound (.cons (.code _) .nil)), .nil, .run, rfl, .some h⟩
/-- both machines -/
structure StR (P : Program) (N : Nat → Prop) (u : Ren) (base : List Frame) (s : CS) (fr : Frame) (cs : List Frame) (w : World) : Prop where
  fr : FR u s.fr fr
  cs : CR u base s.cs cs
  h : HR P N u s.h w
theorem StR.ext {base : List Frame} {s : CS} {fr : Frame} {cs : List Frame} {w : World} (h : StR P N u base s fr cs w) {u' : Ren} {w' : World} {h' : World} (he : Ext u u') (hh : HR P N u' h' w') : StR P N u' base ⟨s.fr, s.cs, h'⟩ fr cs w' :=
  ⟨h.1.ext he, h.2.ext he, hh⟩
/-- whoever stands as the canonical machine does goes where it goes -/
def Goes (P : Program) (N : Nat → Prop) (u : Ren) (base : List Frame) (m : Machine) (w : World) (outs : List CS) : Prop :=
  ∃ s ∈ outs, ∃ u' fr' cs' w', Ext u u' ∧ Steps P m (lone fr' cs' w') ∧ StR P N u' base s fr' cs' w' ∧ Keeps N w w'
theorem stp {fr fr' : Frame} {cs cs' : List Frame} {w w' : World}
    (h : (stepG P true { frame := fr, callers := cs, status := .running, dying := none } w).bare = .go { frame := fr', callers := cs', status := .running, dying := none } w') : Steps P (lone fr cs w) (lone fr' cs' w') :=
  .one (step_lone_go h)
end
end Go.Proofs.Simul
/-
  A canonical run serves every run. Part O: a step of the one is a step of the other.
-/
namespace Go.Proofs.Simul
open Go Go.RowKit

section
variable {P : Program} {N : Nat → Prop} {u : Ren}
theorem TL.exitTo {l m : List Item} (h : TL u l m) (id : Nat) : (exitTo id l = none ∧ exitTo id m = none) ∨ ∃ x y, exitTo id l = some x ∧ exitTo id m = some y ∧ TL u x y := by
  induction h with
  | nil => exact .inl ⟨rfl, rfl⟩
  | @cons x y l m hi hs ih =>
    cases hi with
    | inBlock id' =>
      unfold Go.exitTo
      by_cases e : (id' == id) = true
      · simp only [e, if_true]; exact .inr ⟨_, _, rfl, rfl, hs⟩
      · simp only [e]; exact ih
    | _ => exact ih
theorem TL.gotoIn {l m : List Item} (h : TL u l m) (id : Nat) : (gotoIn id l = none ∧ gotoIn id m = none) ∨ ∃ x y, gotoIn id l = some x ∧ gotoIn id m = some y ∧ TL u x y := by
  induction h with
  | nil => exact .inl ⟨rfl, rfl⟩
  | @cons x y l m hi hs ih =>
    cases hi with
    | inScope b =>
      unfold Go.gotoIn
      cases findLabel b id with
      | none => exact ih
      | some r => exact .inr ⟨_, _, rfl, rfl, .cons (.code r) (.cons (.inScope b) hs)⟩
    | _ => exact ih
theorem sim_endRound {l m : Nat} (h : RR u l m) (j : Option Code) : SimAt P N u (Instr.endRound l j) (Instr.endRound m j) VR := by
  unfold Instr.endRound
  refine sim_bind (sim_getLoop h) ?_
  intro u1 e1 x y hxy
  refine sim_bind (sim_setObj (h.ext e1) (.loop ⟨rfl, rfl, hxy.fn, hxy.tmps, hxy.params, hxy.assign, hxy.body, hxy.defers⟩) trivial) ?_
  intro u2 e2 _ _ _
  exact sim_ret (.bool _)
theorem sim_beginRound {l m : Nat} (h : RR u l m) : SimAt P N u (Instr.beginRound l) (Instr.beginRound m) (fun _ _ _ => True) := by
  unfold Instr.beginRound
  refine sim_bind (sim_getLoop h) ?_
  intro u1 e1 x y hxy
  refine sim_bind (sim_setObj (h.ext e1) (.loop ⟨rfl, hxy.pending, hxy.fn, hxy.tmps, hxy.params, hxy.assign, hxy.body, hxy.defers⟩) trivial) ?_
  intro u2 e2 _ _ _
  rw [hxy.state]
  cases x.state with
  | ready => exact sim_ret trivial
  | busy => exact sim_error _
  | done => exact sim_error _
  | exhausted => exact sim_error _
theorem sim_endLoop {l m : Nat} (h : RR u l m) : SimAt P N u (Instr.endLoop l) (Instr.endLoop m) (fun _ a b => a = b) := by
  unfold Instr.endLoop
  refine sim_bind (sim_getLoop h) ?_
  intro u1 e1 x y hxy
  rw [hxy.state]
  extract_lets j1 j2
  have hj : SimAt P N u1 (j1 ()) (j2 ()) (fun _ a b => a = b) := by
    refine sim_bind (sim_setObj (h.ext e1) (.loop ⟨rfl, hxy.pending, hxy.fn, hxy.tmps, hxy.params, hxy.assign, hxy.body, hxy.defers⟩) trivial) ?_
    intro u2 e2 _ _ _
    exact sim_ret hxy.pending.symm
  split
  · exact sim_bind (S := fun _ _ _ => False) (sim_error _) fun _ _ _ _ h => h.elim
  · exact hj
theorem sim_takeDeferred {l m : Nat} (h : RR u l m) : SimAt P N u (Instr.takeDeferred l) (Instr.takeDeferred m) DRs := by
  unfold Instr.takeDeferred
  refine sim_bind (sim_getObj h) ?_
  rintro u1 e1 o o' ⟨ho, _⟩
  cases ho with
  | deferred hd =>
    refine sim_bind (sim_setObj (h.ext e1) .deferredNone trivial) ?_
    intro u2 e2 _ _ _
    exact sim_ret (hd.ext e2)
  | _ => exact sim_stuck
theorem sim_deferInRound {l m : Nat} (h : RR u l m) {d e : Deferred} (hd : DR u d e) : SimAt P N u (Instr.deferInRound l d) (Instr.deferInRound m e) (fun _ _ _ => True) := by
  unfold Instr.deferInRound
  refine sim_bind (sim_getLoop h) ?_
  intro u1 e1 x y hxy
  refine sim_bind (sim_getObj hxy.defers) ?_
  rintro u2 e2 o o' ⟨ho, _⟩
  cases ho with
  | deferred hs => exact sim_setObj (hxy.defers.ext e2) (.deferred (.cons ((hd.ext e1).ext e2) hs)) trivial
  | deferredNone => exact sim_none fun _ => rfl
  | _ => exact sim_stuck
theorem sim_enterLoop (fn : FuncId) {ts us : Array Value} (ht : VRs u ts us) (ps : Array Tmp) (a b : Code) {r s : Option Nat} (hr : OpR u r s) :
    SimAt P N u (Instr.enterLoop fn ts ps a b r) (Instr.enterLoop fn us ps a b s) (fun u x y => RR u x.1 y.1 ∧ DRs u x.2 y.2) := by
  unfold Instr.enterLoop
  extract_lets j1 j2
  have hj : ∀ u1, Ext u u1 → ∀ d d' m m', RR u1 d d' → DRs u1 m m' → SimAt P N u1 (j1 (d, m)) (j2 (d', m')) (fun u x y => RR u x.1 y.1 ∧ DRs u x.2 y.2) := by
    intro u1 e1 d d' m m' hd hm
    refine sim_bind (sim_new 0 0 (fun r => .loop ⟨rfl, rfl, rfl, (ht.ext e1).ext (Ext.snoc _ _), rfl, rfl, rfl, hd.ext (Ext.snoc _ _)⟩) (fun c e fz h => by cases h)) ?_
    intro u2 e2 l l' hl
    exact sim_ret ⟨hl, hm.ext e2⟩
  cases hr with
  | none =>
    refine sim_bind (sim_new 0 0 (fun r => .deferred .nil) (fun c e fz h => by cases h)) ?_
    intro u2 e2 l l' hl
    exact hj u2 e2 _ _ _ _ hl (.cons ⟨.collected hl, VRs.nil _⟩ .nil)
  | some h =>
    refine sim_bind (sim_getLoop h) ?_
    intro u1 e1 x y hxy
    exact hj u1 e1 _ _ _ _ hxy.defers .nil
theorem sim_ofValue {v v' : Value} (hv : VR u v v') {as bs : Array Value} (ha : VRs u as bs) : SimAt P N u (Deferred.ofValue v as) (Deferred.ofValue v' bs) DR := by
  cases hv with
  | func hfn h1 h2 h3 h4 => exact sim_ret ⟨.fn hfn ⟨h3, h4⟩, VRs.append ⟨h1, h2⟩ ha⟩
  | nilFunc => exact sim_ret ⟨.nil, ha⟩
  | _ => exact sim_stuck
theorem sim_results (fn : Func) {ts us : Array Value} (ht : VRs u ts us) : SimAt P N u (results fn ts) (results fn us) VR := by
  have each : ∀ (l : List ResultVar) (u1 : Ren), Ext u u1 → SimAt P N u1
      (l.mapM fun | .tmp t => pure (ts.getD t undef) | .cell a t => do loadVar t (← asAddr (ts.getD a undef)))
      (l.mapM fun | .tmp t => pure (us.getD t undef) | .cell a t => do loadVar t (← asAddr (us.getD a undef))) VL := by
    intro l
    induction l with
    | nil => intro u1 e1; simp only [List.mapM_nil]; exact sim_ret .nil
    | cons x l ih =>
      intro u1 e1
      simp only [List.mapM_cons]
      refine sim_bind (S := VR) ?_ ?_
      · cases x with
        | tmp t => exact sim_ret ((ht.ext e1).getD (VR.undef _) t)
        | cell a t =>
          refine sim_bind (sim_asAddr ((ht.ext e1).getD (VR.undef _) a)) ?_
          intro u2 e2 p q hpq
          exact sim_loadVar hpq t
      · intro u2 e2 p q hpq
        refine sim_bind (ih u2 (e1.trans e2)) ?_
        intro u3 e3 ps qs hps
        exact sim_ret (.cons (hpq.ext e3) hps)
  unfold results
  rw [Array.mapM_eq_mapM_toList, Array.mapM_eq_mapM_toList]
  refine sim_bind (sim_map (each fn.results.toList u (Ext.refl u)) (R := VRs) (fun u' a b _ h => h.array)) ?_
  intro u1 e1 cs ds hcd
  refine sim_ret ?_
  by_cases h1 : cs.size = 1
  · have h2 : ds.size = 1 := by rw [← hcd.1]; exact h1
    simp only [h1, h2, dite_true]
    exact hcd.2 0 _ _ (Array.getElem?_eq_getElem _) (Array.getElem?_eq_getElem _)
  · have h2 : ¬ ds.size = 1 := by rw [← hcd.1]; exact h1
    simp only [h1, h2, dite_false]
    exact .tuple hcd.1 hcd.2
end
end Go.Proofs.Simul
/-
  A canonical run serves every run. Part P: what an operation's result does to the machine.
-/
namespace Go.Proofs.Simul
open Go Go.RowKit

def noCall : List Item → Bool
  | .call .. :: _ => false
  | _ => true
section
variable {P : Program} {N : Nat → Prop} {u : Ren}
theorem TL.noCall {l m : List Item} (h : TL u l m) : noCall m = true := by
  cases h with
  | nil => rfl
  | cons hi hs => cases hi <;> rfl
theorem kind_of {fr : Frame} (h : noCall fr.todo = true) : (match fr.todo with | .call _ true _ _ :: _ => CallKind.wrapped | _ => .normal) = .normal := by
  cases ht : fr.todo with
  | nil => rfl
  | cons x l => cases x <;> simp_all [Simul.noCall]
theorem apply_next {fr : Frame} {cs : List Frame} {t : Sem Next} {w w1 : World} {n : Next} (hk : noCall fr.todo = true) (h : t.run P w = .ok n w1) :
    (stepG.apply P true fr cs none t w).bare = (match n with
      | .value v => .go { frame := fr.finish v, callers := cs, status := .running, dying := none } w1
      | .skip => .go { frame := fr.finish undef, callers := cs, status := .running, dying := none } w1
      | .enter f args => .go { frame := Frame.enter P f args .normal, callers := fr :: cs, status := .running, dying := none } w1
      | .round l f tmps assign body => .go { frame := Frame.round l f tmps assign body .normal, callers := fr :: cs, status := .running, dying := none } w1
      | .defer d => .go { frame := { fr with defers := d :: fr.defers }.finish undef, callers := cs, status := .running, dying := none } w1
      | n => (stepG.apply P true fr cs none t w).bare) := by
  obtain ⟨fn, tmps, todo, defers, mode, kind, roundOf⟩ := fr
  cases n with
  | value v => unfold stepG.apply; simp only [Sem.runT_eq, h, if_true]; simp
  | skip => unfold stepG.apply; simp only [Sem.runT_eq, h, if_true]; simp
  | enter f args =>
    unfold stepG.apply; simp only [Sem.runT_eq, h, if_true]
    cases todo with
    | nil => simp
    | cons x l => cases x <;> simp_all [Simul.noCall]
  | round l f tmps a b =>
    unfold stepG.apply; simp only [Sem.runT_eq, h, if_true]
    cases todo with
    | nil => simp
    | cons x l => cases x <;> simp_all [Simul.noCall]
  | defer d => unfold stepG.apply; simp only [Sem.runT_eq, h, if_true]; simp
  | _ => rfl
theorem apply_recover {fr : Frame} {cs : List Frame} {t : Sem Next} {w w1 : World} (hr : fr.roundOf = none) (h : t.run P w = .ok .recover w1) :
    (stepG.apply P true fr cs none t w).bare = (match tryRecover fr cs with
        | some (v, callers) => .go { frame := fr.finish v, callers, status := .running, dying := none } w1
        | none => .go { frame := fr.finish .nilIface, callers := cs, status := .running, dying := none } w1) := by
  unfold stepG.apply
  simp only [Sem.runT_eq, h, if_true, GStep.bare_after, hr]
  cases tryRecover fr cs with
  | none => simp
  | some x => obtain ⟨a, b⟩ := x; simp
theorem apply_panic {fr : Frame} {cs : List Frame} {t : Sem Next} {w w1 : World} {v : Value} (h : t.run P w = .halt (.panic v) w1) :
    (stepG.apply P true fr cs none t w).bare = .go { frame := fr.raise [{ v, recovered := false }], callers := cs, status := .running, dying := none } w1 := by
  unfold stepG.apply
  simp only [Sem.runT_eq, h, if_true]
  simp
theorem DRs.cons' {d e : Deferred} {ds es : List Deferred} (h : DR u d e) (hs : DRs u ds es) : DRs u (d :: ds) (e :: es) := .cons h hs
theorem CR.recover {base : List Frame} {f g : Frame} (hf : FR u f g) {c c' : Frame} {l m : List Frame} (hc : FR u c c') (hs : CR u base l m) (hk : f.kind = .deferred) :
    (tryRecover f (c :: l) = none ∧ tryRecover g (c' :: m) = none) ∨ ∃ v v' x y, tryRecover f (c :: l) = some (v, x) ∧ tryRecover g (c' :: m) = some (v', y) ∧ VR u v v' ∧ CR u base x y := by
  have hk2 : g.kind = .deferred := by rw [hf.kind, hk]
  unfold tryRecover
  rw [hk, hk2]
  have hm := hc.mode
  simp only
  generalize hfm : c.mode = fm at hm ⊢
  generalize hgm : c'.mode = gm at hm ⊢
  cases hm with
  | run => exact .inl ⟨rfl, rfl⟩
  | returning => exact .inl ⟨rfl, rfl⟩
  | panicking hp =>
    cases hp with
    | nil => exact .inl ⟨rfl, rfl⟩
    | @cons x y l m hv hr hg hs' =>
      obtain ⟨xv, xr, xg⟩ := x
      obtain ⟨yv, yr, yg⟩ := y
      simp only at hv hr hg
      subst hr; subst hg
      cases yr <;> cases yg
      · refine .inr ⟨_, _, _, _, rfl, rfl, hv, .cons ⟨hc.fn, hc.tmps, hc.todo, hc.defers, .panicking (.cons hv rfl rfl hs'), hc.kind, hc.roundOf⟩ hs⟩
      · exact .inl ⟨rfl, rfl⟩
      · exact .inl ⟨rfl, rfl⟩
      · exact .inl ⟨rfl, rfl⟩
/-- the machine goes on with what the operation gives -/
theorem capply_sound {base : List Frame} {c : World → Option (Except Value Next × World)} {t : Sem Next} (hs : SimC P N u c t NR) {f g : Frame} {cs cs' : List Frame} {h w : World} (hf : FR u f g) (hc : CR u base cs cs') (hh : HR P N u h w)
    {outs : List CS} (ho : capply P f cs (c h) = some outs) {fr0 : Frame} {w0 : World} (hst : (stepG P true { frame := fr0, callers := cs', status := .running, dying := none } w0).bare = (stepG.apply P true g cs' none t w).bare) :
    Goes P N u base (lone fr0 cs' w0) w outs := by
  have hk := hf.todo.noCall
  cases hch : c h with
  | none => rw [hch] at ho; cases ho
  | some x =>
    obtain ⟨r, h1⟩ := x
    rw [hch] at ho
    obtain ⟨u1, w1, e1, H1, b1, F1⟩ := hs h w hh r h1 hch
    have hf1 := hf.ext e1
    have hc1 := hc.ext e1
    cases r with
    | error v =>
      obtain ⟨v', hv', hV⟩ := F1
      cases ho
      exact ⟨_, .head _, u1, _, cs', w1, e1, stp (hst.trans (apply_panic hv')), ⟨hf1.raise (.cons hV rfl rfl .nil), hc1, H1⟩, b1⟩
    | ok n =>
      obtain ⟨n', hn', hN⟩ := F1
      have hap := apply_next (fr := g) (cs := cs') hk hn'
      cases hN with
      | @value v v' hv =>
        simp only [capply] at ho
        split at ho
        case isFalse => cases ho
        rename_i hfin
        cases ho
        exact ⟨_, .head _, u1, _, cs', w1, e1, stp (hst.trans hap), ⟨hf1.finish hfin hv, hc1, H1⟩, b1⟩
      | skip =>
        simp only [capply] at ho
        split at ho
        case isFalse => cases ho
        rename_i hfin
        cases ho
        exact ⟨_, .head _, u1, _, cs', w1, e1, stp (hst.trans hap), ⟨hf1.finish hfin (VR.undef _), hc1, H1⟩, b1⟩
      | enter k ha =>
        cases ho
        exact ⟨_, .head _, u1, _, _, w1, e1, stp (hst.trans hap), ⟨FR.enterC k ha .normal, .cons hf1 hc1, H1⟩, b1⟩
      | round hl k ht a b =>
        cases ho
        exact ⟨_, .head _, u1, _, _, w1, e1, stp (hst.trans hap), ⟨FR.round_ hl k ht a b .normal, .cons hf1 hc1, H1⟩, b1⟩
      | defer hd =>
        simp only [capply] at ho
        split at ho
        case isFalse => cases ho
        rename_i hfin
        cases ho
        have hf2 : FR u1 { f with defers := _ :: f.defers } { g with defers := _ :: g.defers } := ⟨hf1.fn, hf1.tmps, hf1.todo, .cons hd hf1.defers, hf1.mode, hf1.kind, hf1.roundOf⟩
        exact ⟨_, .head _, u1, _, cs', w1, e1, stp (hst.trans hap), ⟨hf2.finish hfin (VR.undef _), hc1, H1⟩, b1⟩
      | recover =>
        simp only [capply] at ho
        split at ho
        case isFalse => cases ho
        rename_i hcond
        simp only [Bool.and_eq_true] at hcond
        obtain ⟨hro, hfin⟩ := hcond
        have hgr : g.roundOf = none := by
          have := hf.roundOf
          generalize f.roundOf = a at this hro
          generalize g.roundOf = b at this
          cases this with
          | none => rfl
          | some h => simp at hro
        have hap := apply_recover (cs := cs') hgr hn'
        split at ho
        · rename_i hkind
          cases ho
          have hgk : g.kind = .normal := by rw [hf.kind]; exact hkind
          have : tryRecover g cs' = none := by unfold tryRecover; rw [hgk]
          rw [this] at hap
          exact ⟨_, .head _, u1, _, cs', w1, e1, stp (hst.trans hap), ⟨hf1.finish hfin .nilIface, hc1, H1⟩, b1⟩
        · rename_i cc rest hkind
          cases hc1 with
          | @cons _ c' _ m hcf hcs =>
            rcases CR.recover hf1 hcf hcs hkind with ⟨r1, r2⟩ | ⟨v, v', x, y, r1, r2, hv, hxy⟩
            · rw [r1] at ho; rw [r2] at hap
              cases ho
              exact ⟨_, .head _, u1, _, _, w1, e1, stp (hst.trans hap), ⟨hf1.finish hfin .nilIface, .cons hcf hcs, H1⟩, b1⟩
            · rw [r1] at ho; rw [r2] at hap
              cases ho
              exact ⟨_, .head _, u1, _, _, w1, e1, stp (hst.trans hap), ⟨hf1.finish hfin hv, hxy, H1⟩, b1⟩
        · cases ho
end
end Go.Proofs.Simul
/-
  A canonical run serves every run. Part Q: the step.
-/
namespace Go.Proofs.Simul
open Go Go.RowKit

section
variable {P : Program} {N : Nat → Prop} {u : Ren} {base : List Frame}
theorem goes_one {m : Machine} {w : World} {s : CS} {fr' : Frame} {cs' : List Frame} (hs : Steps P m (lone fr' cs' w)) (hr : StR P N u base s fr' cs' w) : Goes P N u base m w [s] :=
  ⟨s, .head _, u, fr', cs', w, Ext.refl u, hs, hr, Keeps.refl _ _⟩
theorem dropWhile_rel {l m : List PanicEntry} (h : ML u l m) : ML u (l.dropWhile (!·.goexit)) (m.dropWhile (!·.goexit)) := by
  induction h with
  | nil => exact .nil
  | @cons x y l m hv hr hg hs ih =>
    rw [List.dropWhile_cons, List.dropWhile_cons, hg]
    split
    · exact ih
    · exact .cons hv hr hg hs
theorem cret_sound {f g : Frame} {cs cs' : List Frame} {h w : World} {v v' : Value} (hf : FR u f g) (hc : CR u base cs cs') (hh : HR P N u h w) (hv : VR u v v') {outs : List CS} (ho : cret f cs v h = some outs)
    {fr0 : Frame} {cs0 : List Frame} {w0 : World} (hst : (stepG P true { frame := fr0, callers := cs0, status := .running, dying := none } w0).bare = (doReturn P true g cs' none v' w).bare) :
    ∃ s ∈ outs, ∃ fr' cs'', Steps P (lone fr0 cs0 w0) (lone fr' cs'' w) ∧ StR P N u base s fr' cs'' w := by
  unfold cret at ho
  cases hc with
  | nil => cases ho
  | @cons c c' l m hcf hcs =>
    simp only at ho
    split at ho
    · rename_i hk
      split at ho
      case isFalse => cases ho
      rename_i hfin
      cases ho
      have hgk : g.kind = .normal := by rw [hf.kind]; exact hk
      refine ⟨_, .head _, c'.finish v', m, stp (hst.trans ?_), ⟨hcf.finish hfin hv, hcs, hh⟩⟩
      unfold doReturn; simp [hgk]
    · rename_i hk
      cases ho
      have hgk : g.kind = .deferred := by rw [hf.kind]; exact hk
      have hcm := hcf.mode
      have key : ∃ d, (doReturn P true g (c' :: m) none v' w).bare = .go { frame := d, callers := m, status := .running, dying := none } w ∧ FR u (match c.mode with
        | .panicking ({ recovered := true, .. } :: older) =>
          (match older.dropWhile (!·.goexit) with
          | [] => { c with mode := .returning }
          | rest => { c with mode := .panicking rest })
        | _ => c) d := by
        unfold doReturn
        rw [hgk]
        simp only [GStep.bare_go]
        refine ⟨_, rfl, ?_⟩
        generalize hfm : c.mode = fm at hcm ⊢
        generalize hgm : c'.mode = gm at hcm ⊢
        cases hcm with
        | run => exact hcf
        | returning => exact hcf
        | panicking hp =>
          cases hp with
          | nil => exact hcf
          | @cons x y l2 m2 hv2 hr hg hs' =>
            obtain ⟨xv, xr, xg⟩ := x
            obtain ⟨yv, yr, yg⟩ := y
            simp only at hv2 hr hg
            subst hr; subst hg
            cases yr with
            | false => exact hcf
            | true =>
              simp only
              have hd := dropWhile_rel hs'
              generalize l2.dropWhile (!·.goexit) = a at hd ⊢
              generalize m2.dropWhile (!·.goexit) = b at hd ⊢
              cases hd with
              | nil => exact ⟨hcf.fn, hcf.tmps, hcf.todo, hcf.defers, .returning, hcf.kind, hcf.roundOf⟩
              | cons a b c d => exact ⟨hcf.fn, hcf.tmps, hcf.todo, hcf.defers, .panicking (.cons a b c d), hcf.kind, hcf.roundOf⟩
      obtain ⟨d, hd1, hd2⟩ := key
      exact ⟨_, .head _, d, m, stp (hst.trans hd1), ⟨hd2, hcs, hh⟩⟩
    · cases ho
theorem goes_of {m : Machine} {w w1 : World} {outs : List CS} {u1 : Ren} (e1 : Ext u u1) (b1 : Keeps N w w1) (h : ∃ s ∈ outs, ∃ fr' cs'', Steps P m (lone fr' cs'' w1) ∧ StR P N u1 base s fr' cs'' w1) : Goes P N u base m w outs := by
  obtain ⟨s, hs, fr', cs'', h1, h2⟩ := h
  exact ⟨s, hs, u1, fr', cs'', w1, e1, h1, h2, b1⟩
/-- where a frame ends -/
theorem cleave_sound {s : CS} {fr : Frame} {cs : List Frame} {w : World} (st : StR P N u base s fr cs w) {jump : Option Code} {outs : List CS} (ho : cleave P s jump = some outs)
    (hst : (stepG P true { frame := fr, callers := cs, status := .running, dying := none } w).bare = (match fr.roundOf with
      | none => if endsFrame jump then GStep.go { frame := { fr with mode := .returning }, callers := cs, status := .running, dying := none } w else .ended (.stuck "exit, goto: no such block or label" (fr.pos P)) w
      | some l => (match (Instr.endRound l jump).run P w with
        | .ok v w => (doReturn P true fr cs none v w).bare
        | .halt _ w => .ended (.stuck "range over a function: no such loop" (fr.pos P)) w))) : Goes P N u base (lone fr cs w) w outs := by
  unfold cleave at ho
  have hro := st.fr.roundOf
  generalize hfr : s.fr.roundOf = a at hro ho
  generalize hgr : fr.roundOf = b at hro
  rw [hgr] at hst
  cases hro with
  | none =>
    simp only at ho hst
    split at ho
    case isFalse => cases ho
    rename_i hj
    cases ho
    refine goes_one (fr' := { fr with mode := .returning }) (stp (hst.trans ?_)) ⟨⟨st.fr.fn, st.fr.tmps, st.fr.todo, st.fr.defers, .returning, st.fr.kind, st.fr.roundOf⟩, st.cs, st.h⟩
    rw [if_pos hj, hgr]
  | some hl =>
    simp only at ho hst
    split at ho
    case h_2 => cases ho
    rename_i v h1 hc
    obtain ⟨u1, w1, e1, H1, b1, v', hv', hV⟩ := sim_endRound hl jump s.h w st.h _ _ hc
    rw [hv'] at hst
    exact goes_of e1 b1 (cret_sound (st.fr.ext e1) (st.cs.ext e1) H1 hV ho hst)
theorem TL.append {l m l' m' : List Item} (h : TL u l m) (h' : TL u l' m') : TL u (l ++ l') (m ++ m') := by
  induction h with
  | nil => exact h'
  | cons hi hs ih => exact .cons hi ih
theorem cunwind_sound (hz : Fine P) {s : CS} {fr : Frame} {cs : List Frame} {w : World} (st : StR P N u base s fr cs w) (hmode : fr.mode = .returning ∨ ∃ c, fr.mode = .panicking c) {outs : List CS} (ho : cunwind P s = some outs) :
    Goes P N u base (lone fr cs w) w outs := by
  have hun : (stepG P true { frame := fr, callers := cs, status := .running, dying := none } w).bare = (unwind P true fr cs none w).bare := by
    rcases hmode with h | ⟨c, h⟩ <;> simp [stepG, h]
  unfold cunwind at ho
  dsimp only at ho
  have hd := st.fr.defers
  generalize hfd : s.fr.defers = a at hd ho
  generalize hgd : fr.defers = b at hd
  cases hd with
  | nil =>
    dsimp only at ho
    have hm := st.fr.mode
    generalize hfm : s.fr.mode = fm at hm ho
    generalize hgm : fr.mode = gm at hm
    cases hm with
    | run => rcases hmode with h | ⟨c, h⟩ <;> (rw [hgm] at h; cases h)
    | returning =>
      simp only at ho
      split at ho
      · cases ho
      · rename_i fn hfn
        split at ho
        case h_2 => cases ho
        rename_i v h1 hc
        have hgfn : P.funcs[fr.fn]? = some fn := by rw [st.fr.fn]; exact hfn
        obtain ⟨u1, w1, e1, H1, b1, v', hv', hV⟩ := sim_results fn st.fr.tmps s.h w st.h _ _ (by rw [resultsL_eq]; exact hc)
        refine goes_of e1 b1 (cret_sound (st.fr.ext e1) (st.cs.ext e1) H1 hV ho (hun.trans ?_))
        unfold unwind
        simp [hgd, hgm, hgfn, hv']
    | panicking hp =>
      simp only at ho
      split at ho
      case isFalse => cases ho
      rename_i hfn
      have hcs := st.cs
      generalize hfc : s.cs = fc at hcs ho
      cases hcs with
      | nil => cases ho
      | @cons c c' l m hcf hcs =>
        cases ho
        refine goes_one (fr' := c'.raise _) (cs' := m) (stp (hun.trans ?_)) ⟨hcf.raise hp, hcs, st.h⟩
        have hgfn : (P.funcs[fr.fn]?).isSome = true := by rw [st.fr.fn]; exact hfn
        obtain ⟨fn, hfn2⟩ := Option.isSome_iff_exists.1 hgfn
        unfold unwind
        simp [hgd, hgm, Frame.catches, hfn2]
  | @cons d e ds es hde hds =>
    obtain ⟨dt, da⟩ := d
    obtain ⟨et, ea⟩ := e
    have hde' := hde
    obtain ⟨ht, ha⟩ := hde
    simp only at ht ha
    -- a call
    have call : ∀ (hnc : ∀ b, et ≠ .collected b) (hnn : et ≠ .nil) (ho : cdefer P { s.fr with defers := ds } s.cs (cinvoke P ⟨dt, da⟩ s.h) = some outs), Goes P N u base (lone fr cs w) w outs := by
      intro hnc hnn ho
      have hcd : (unwind P true fr cs none w).bare = (callDeferred P { fr with defers := es } cs none ⟨et, ea⟩ w).bare := by
        unfold unwind
        rw [hgd]
        cases et with
        | collected b => exact absurd rfl (hnc b)
        | _ => rfl
      have hfd : ∀ u1, Ext u u1 → FR u1 { s.fr with defers := ds } { fr with defers := es } := fun u1 e1 =>
        ⟨st.fr.fn, st.fr.tmps.ext e1, st.fr.todo.ext e1, hds.ext e1, st.fr.mode.ext e1, st.fr.kind, st.fr.roundOf.ext e1⟩
      unfold cdefer at ho
      split at ho
      · rename_i f args h1 hc
        cases ho
        obtain ⟨u1, w1, e1, H1, b1, n', hn', hN⟩ := sim_cinvoke hz hde' s.h w st.h _ _ hc
        cases hN with
        | enter _ has =>
          refine ⟨_, .head _, u1, _, _, w1, e1, stp (hun.trans (hcd.trans ?_)), ⟨FR.enterC f has .deferred, .cons (hfd u1 e1) (st.cs.ext e1), H1⟩, b1⟩
          unfold callDeferred
          simp [hn']
      · rename_i v h1 hc
        cases ho
        obtain ⟨u1, w1, e1, H1, b1, n', hn', hN⟩ := sim_cinvoke hz hde' s.h w st.h _ _ hc
        cases hN with
        | value hv =>
          refine ⟨_, .head _, u1, _, _, w1, e1, stp (hun.trans (hcd.trans ?_)), ⟨hfd u1 e1, st.cs.ext e1, H1⟩, b1⟩
          unfold callDeferred
          simp [hn']
      · rename_i v h1 hc
        cases ho
        obtain ⟨u1, w1, e1, H1, b1, v', hn', hV⟩ := sim_cinvoke hz hde' s.h w st.h _ _ hc
        refine ⟨_, .head _, u1, ({ fr with defers := es } : Frame).raise [{ v := v', recovered := false }], cs, w1, e1, stp (hun.trans (hcd.trans ?_)), ⟨(hfd u1 e1).raise (.cons hV rfl rfl .nil), st.cs.ext e1, H1⟩, b1⟩
        unfold callDeferred
        simp [hn']
      · cases ho
    cases ht with
    | @collected r r' h =>
      dsimp only at ho
      split at ho
      case h_2 => cases ho
      rename_i calls h1 hc
      cases ho
      obtain ⟨u1, w1, e1, H1, b1, calls', hv', hV⟩ := sim_takeDeferred h s.h w st.h _ _ hc
      refine ⟨_, .head _, u1, { fr with defers := calls' ++ es }, cs, w1, e1, stp (hun.trans ?_), ⟨⟨st.fr.fn, st.fr.tmps.ext e1, st.fr.todo.ext e1, hV.append (hds.ext e1), st.fr.mode.ext e1, st.fr.kind, st.fr.roundOf.ext e1⟩, st.cs.ext e1, H1⟩, b1⟩
      unfold unwind
      simp [hgd, hv']
    | nil => cases ho
    | fn hf hcd => exact call (fun b h => by cases h) (fun h => by cases h) ho
    | builtin b ts t c => exact call (fun b h => by cases h) (fun h => by cases h) ho
end
end Go.Proofs.Simul
/-
  A canonical run serves every run. Part R: the step, all of it.
-/
namespace Go.Proofs.Simul
open Go Go.RowKit

section
variable {P : Program} {N : Nat → Prop} {u : Ren} {base : List Frame}
theorem simAt_tag {α β : Type} {s : Sem α} {t : Sem β} {n : Next} (hn : ∀ u', NR u' n n) (hs : SimAt P N u s t (fun _ _ _ => True)) : SimAt P N u (do let _ ← s; pure n) (do let _ ← t; pure n) NR :=
  sim_bind hs fun u' e a b _ => sim_ret (hn u')
theorem yielded_eq {ts us : Array Value} (h : VRs u ts us) (ops : Array Oper) : yielded ops us = yielded ops ts := by
  funext j
  unfold yielded
  cases hd : (ops[j]?).bind (·.dst) with
  | none => rfl
  | some d =>
    simp only [Option.bind_some]
    cases ht : (ts[d]? : Option Value) with
    | none => rw [h.get_none ht]
    | some v =>
      obtain ⟨v', hv', hV⟩ := h.get ht
      rw [hv']
      cases hV <;> rfl
theorem exec_op {fn : FuncId} {us : Array Value} {ops : Array Oper} {i : Nat} {R : List Nat} {k' : List Item} {es : List Deferred} {kd : CallKind} {ro' : Option Nat} {cs : List Frame} {w : World} {o : Oper} (ho : ops[i]? = some o) (hw : Region.wanted o (yielded ops us) = true) :
    (stepG P true { frame := ⟨fn, us, .inRegion ops (i :: R) :: k', es, .run, kd, ro'⟩, callers := cs, status := .running, dying := none } w).bare =
      (match ro', o.op with
        | some l, .defer c => (stepG.apply P true ⟨fn, us, .inRegion ops (i :: R) :: k', es, .run, kd, ro'⟩ cs none (do Instr.deferInRound l (← resolve (Frame.eval ⟨fn, us, .inRegion ops (i :: R) :: k', es, .run, kd, ro'⟩) c o.type); pure .skip) w).bare
        | _, _ => (stepG.apply P true ⟨fn, us, .inRegion ops (i :: R) :: k', es, .run, kd, ro'⟩ cs none (execOp (Frame.eval ⟨fn, us, .inRegion ops (i :: R) :: k', es, .run, kd, ro'⟩) o) w).bare) := by
  show (stepG.exec P true true ⟨fn, us, .inRegion ops (i :: R) :: k', es, .run, kd, ro'⟩ cs none w).bare = _
  unfold stepG.exec
  simp only [ho, Option.map_some, Option.getD_some, hw, if_true]
  unfold stepG.oper
  simp only [Frame.oper?, ho]
  cases ro' with
  | none => rfl
  | some l => cases o.op <;> rfl
theorem exec_skip {fn : FuncId} {us : Array Value} {ops : Array Oper} {i : Nat} {R : List Nat} {k' : List Item} {es : List Deferred} {kd : CallKind} {ro' : Option Nat} {cs : List Frame} {w : World} {o : Oper} (ho : ops[i]? = some o) (hw : Region.wanted o (yielded ops us) = false) :
    (stepG P true { frame := ⟨fn, us, .inRegion ops (i :: R) :: k', es, .run, kd, ro'⟩, callers := cs, status := .running, dying := none } w).bare =
      .go { frame := Frame.finish ⟨fn, us, .inRegion ops (i :: R) :: k', es, .run, kd, ro'⟩ undef, callers := cs, status := .running, dying := none } w := by
  show (stepG.exec P true true ⟨fn, us, .inRegion ops (i :: R) :: k', es, .run, kd, ro'⟩ cs none w).bare = _
  unfold stepG.exec
  simp only [ho, Option.map_some, Option.getD_some, hw, Bool.false_eq_true, if_false]
  rfl
/-- one operation of a region -/
theorem oper_sound (hz : Fine P) {fn : FuncId} {ts us : Array Value} {ops : Array Oper} {i : Nat} {L R : List Nat} {k k' : List Item} {ds es : List Deferred} {kd : CallKind} {ro ro' : Option Nat} {scs cs : List Frame} {h w : World}
    (hf : FR u ⟨fn, ts, .inRegion ops (i :: L) :: k, ds, .run, kd, ro⟩ ⟨fn, us, .inRegion ops (i :: R) :: k', es, .run, kd, ro'⟩) (hc : CR u base scs cs) (hh : HR P N u h w) (hi : i ≠ ops.size) {outs : List CS}
    (ho : cstep P ⟨⟨fn, ts, .inRegion ops (i :: L) :: k, ds, .run, kd, ro⟩, scs, h⟩ = some outs) : Goes P N u base (lone ⟨fn, us, .inRegion ops (i :: R) :: k', es, .run, kd, ro'⟩ cs w) w outs := by
  unfold cstep at ho
  dsimp only at ho
  rw [if_neg hi] at ho
  split at ho
  case isFalse => cases ho
  rename_i hlt
  split at ho
  · cases ho
  rename_i o hoo
  have hy := yielded_eq hf.tmps ops
  simp only at hy
  split at ho
  · rename_i hw
    rw [← hy] at hw
    have hst := exec_op (P := P) (fn := fn) (R := R) (k' := k') (es := es) (kd := kd) (ro' := ro') (cs := cs) (w := w) hoo hw
    have hro := hf.roundOf
    simp only at hro
    have he := hf.eval
    have plain : capply P ⟨fn, ts, .inRegion ops (i :: L) :: k, ds, .run, kd, ro⟩ scs (cop P (Frame.eval ⟨fn, ts, .inRegion ops (i :: L) :: k, ds, .run, kd, ro⟩) o h) = some outs →
        (stepG P true { frame := ⟨fn, us, .inRegion ops (i :: R) :: k', es, .run, kd, ro'⟩, callers := cs, status := .running, dying := none } w).bare = (stepG.apply P true ⟨fn, us, .inRegion ops (i :: R) :: k', es, .run, kd, ro'⟩ cs none (execOp (Frame.eval ⟨fn, us, .inRegion ops (i :: R) :: k', es, .run, kd, ro'⟩) o) w).bare →
        Goes P N u base (lone ⟨fn, us, .inRegion ops (i :: R) :: k', es, .run, kd, ro'⟩ cs w) w outs := fun h1 h2 =>
      capply_sound (sim_cop hz he o) hf hc hh h1 h2
    cases hro with
    | none => exact plain ho hst
    | @some l m hl =>
      generalize hop : o.op = op at ho hst
      cases op with
      | defer c =>
        dsimp only at ho hst
        split at ho
        case isFalse => cases ho
        rename_i hall
        have hdd : SimAt P N u (do Instr.deferInRound l (← resolve (Frame.eval ⟨fn, ts, .inRegion ops (i :: L) :: k, ds, .run, kd, some l⟩) c o.type); pure Next.skip)
            (do Instr.deferInRound m (← resolve (Frame.eval ⟨fn, us, .inRegion ops (i :: R) :: k', es, .run, kd, some m⟩) c o.type); pure Next.skip) NR := by
          refine sim_bind (sim_resolve he c (fun x hx => mem_ops hall hx) _) ?_
          intro u1 e1 d e hde
          refine sim_bind (sim_deferInRound (hl.ext e1) hde) ?_
          intro u2 e2 _ _ _
          exact sim_ret .skip
        refine capply_sound (SimAt.toC hdd) hf hc hh ?_ hst
        split at ho
        · rename_i r hr; rw [hr]; exact ho
        · cases ho
      | _ => exact plain (by simpa only [hop] using ho) hst
  · rename_i hw
    cases ho
    have hw' : Region.wanted o (yielded ops us) = false := by rw [hy]; simpa using hw
    exact goes_one (stp (exec_skip hoo hw')) ⟨hf.finish (by simpa [finOK] using hlt) (VR.undef u), hc, hh⟩
theorem run_sound (hz : Fine P) (hm : P.follows .mixedOrders = true) {s : CS} {fr : Frame} {cs : List Frame} {w : World} (st : StR P N u base s fr cs w) (hsm : s.fr.mode = .run) {outs : List CS} (ho : cstep P s = some outs) :
    Goes P N u base (lone fr cs w) w outs := by
  have hmode : fr.mode = .run := by
    have := st.fr.mode
    rw [hsm] at this
    generalize fr.mode = m at this ⊢
    cases this; rfl
  have hfn := st.fr.fn
  have hkd := st.fr.kind
  obtain ⟨⟨fn, ts, ft, ds, smode, kd, ro⟩, scs, sh⟩ := s
  obtain ⟨fn', us, gt, es, fmode, kd', ro'⟩ := fr
  simp only at hsm hmode hfn hkd
  subst hsm; subst hmode; subst hfn; subst hkd
  have htd := st.fr.todo
  have hts := st.fr.tmps
  have hds := st.fr.defers
  have hro := st.fr.roundOf
  have hcs := st.cs
  have hh := st.h
  simp only at htd hts hds hro hcs hh
  have to : ∀ {todo todo' : List Item}, TL u todo todo' → (stepG P true { frame := ⟨fn', us, gt, es, .run, kd', ro'⟩, callers := cs, status := .running, dying := none } w).bare = .go { frame := ⟨fn', us, todo', es, .run, kd', ro'⟩, callers := cs, status := .running, dying := none } w →
      ∀ {o : List CS}, some [CS.mk ⟨fn', ts, todo, ds, .run, kd', ro⟩ scs sh] = some o → Goes P N u base (lone ⟨fn', us, gt, es, .run, kd', ro'⟩ cs w) w o := by
    intro todo todo' ht hst o hoo
    cases hoo
    exact goes_one (fr' := ⟨fn', us, todo', es, .run, kd', ro'⟩) (cs' := cs) (stp hst) ⟨⟨rfl, hts, ht, hds, .run, rfl, hro⟩, hcs, hh⟩
  have hex : (stepG P true { frame := ⟨fn', us, gt, es, .run, kd', ro'⟩, callers := cs, status := .running, dying := none } w).bare = (stepG.exec P true true ⟨fn', us, gt, es, .run, kd', ro'⟩ cs none w).bare := rfl
  unfold stepG.exec at hex
  have ho0 := ho
  unfold cstep at ho
  dsimp only at ho hex
  cases htd with
  | nil =>
    refine cleave_sound st ho (hex.trans ?_)
    cases ro' with
    | none => simp [endsFrame]
    | some l => simp only [Sem.runT_eq, GStep.bare_after]; cases (Instr.endRound l none).run P w <;> rfl
  | @cons x y k k' hi hs =>
    cases hi with
    | code c =>
      cases c with
      | skip => exact to hs (by rw [hex]; rfl) ho
      | label l => exact to hs (by rw [hex]; rfl) ho
      | seq a b => exact to (.cons (.code a) (.cons (.code b) hs)) (by rw [hex]; rfl) ho
      | block id b => exact to (.cons (.code b) (.cons (.inBlock id) hs)) (by rw [hex]; rfl) ho
      | loop b => exact to (.cons (.code b) (.cons (.inLoop b) hs)) (by rw [hex]; rfl) ho
      | scope b => exact to (.cons (.code b) (.cons (.inScope b) hs)) (by rw [hex]; rfl) ho
      | refuse x => cases ho
      | ret =>
        refine cleave_sound st ho (hex.trans ?_)
        cases ro' with
        | none => simp [endsFrame]
        | some l => simp only [Sem.runT_eq, GStep.bare_after]; cases (Instr.endRound l (some .ret)).run P w <;> rfl
      | cond c a b =>
        simp only at ho
        split at ho
        case isFalse => cases ho
        rename_i hok
        have he := st.fr.eval c hok
        simp only at he
        generalize hev : Frame.eval (Frame.mk fn' ts _ ds .run kd' ro) c = p at he ho
        generalize hgv : Frame.eval (Frame.mk fn' us _ es .run kd' ro') c = q at he
        cases he with
        | bool t => exact to (.cons (.code _) hs) (by rw [hex]; simp only [hgv]; rfl) ho
        | _ => cases ho
      | exit id =>
        rcases hs.exitTo id with ⟨h1, h2⟩ | ⟨a, b, h1, h2, h3⟩
        · simp only [h1] at ho
          refine cleave_sound st ho (hex.trans ?_)
          simp only [h2, Option.elim]
          cases ro' with
          | none => simp [endsFrame]
          | some l => simp only [Sem.runT_eq, GStep.bare_after]; cases (Instr.endRound l (some (.exit id))).run P w <;> rfl
        · simp only [h1] at ho
          exact to h3 (by rw [hex]; simp only [h2, Option.elim]; rfl) ho
      | goto id =>
        rcases hs.gotoIn id with ⟨h1, h2⟩ | ⟨a, b, h1, h2, h3⟩
        · simp only [h1] at ho
          refine cleave_sound st ho (hex.trans ?_)
          simp only [h2, Option.elim]
          cases ro' with
          | none => simp [endsFrame]
          | some l => simp only [Sem.runT_eq, GStep.bare_after]; cases (Instr.endRound l (some (.goto id))).run P w <;> rfl
        · simp only [h1] at ho
          exact to h3 (by rw [hex]; simp only [h2, Option.elim]; rfl) ho
      | region id ops draw =>
        simp only at ho
        cases draw with
        | false => exact to (.cons (.inRegion ops _ fun j hj => by simp at hj; omega) hs) (by rw [hex]; rfl) ho
        | true =>
          simp only [if_true] at ho
          cases ho
          have hch : (choose (.order fn' id)).run P w = .ok (w.tape w.drawn (.order fn' id)) { w with drawn := w.drawn + 1 } := by simp [choose, Sem.run, Question.forced, Question.cut]
          have hsch : Region.schedule (P.follows .mixedOrders) ops (w.tape w.drawn (.order fn' id)) = Region.linearise .any ops (w.tape w.drawn (.order fn' id)) := by
            unfold Region.schedule; rw [hm]; simp
          refine ⟨_, .head _, u, ⟨fn', us, .inRegion ops (Region.linearise .any ops (w.tape w.drawn (.order fn' id))) :: k', es, .run, kd', ro'⟩, cs, { w with drawn := w.drawn + 1 }, Ext.refl u, stp (hex.trans ?_), ⟨⟨rfl, hts, .cons (.inAny ops [] (fun j hj => by simp at hj) (sched_linearise ops _)) hs, hds, .run, rfl, hro⟩, hcs, hh.heap rfl rfl⟩, ⟨rfl, rfl, rfl, Nat.le_refl _, fun _ _ => rfl⟩⟩
          simp only [hch, hsch]
          simp
      | rangeFunc f ps a b =>
        dsimp only at ho
        split at ho
        case isFalse => cases ho
        rename_i hok
        split at ho
        case h_2 => cases ho
        rename_i l mark h1 hc
        obtain ⟨u1, w1, e1, H1, b1, ⟨l', mark'⟩, hrun, hl, hmark⟩ := sim_enterLoop fn' hts ps a b hro sh w hh _ _ hc
        simp only at hl hmark
        have hf : FR u1 ⟨fn', ts, .inRangeFunc l :: k, mark ++ ds, .run, kd', ro⟩ ⟨fn', us, .inRangeFunc l' :: k', mark' ++ es, .run, kd', ro'⟩ :=
          ⟨rfl, hts.ext e1, .cons (.inRangeFunc hl) (hs.ext e1), hmark.append (hds.ext e1), .run, rfl, hro.ext e1⟩
        have hargs : VRs u1 #[Value.func (.yield l) #[] #[]] #[Value.func (.yield l') #[] #[]] :=
          (VRs.nil u1).push (.func (.yield hl) rfl (fun i a b h => by simp at h) rfl (fun i a b h => by simp at h))
        have hcall := simC_bind (R := NR) (f := fun d h => cinvoke P d h) (g := fun d => invoke d.target d.args) (sim_ofValue (N := N) (P := P) (hf.eval f hok) hargs) fun u' e1 a b hab => sim_cinvoke hz hab
        have hgo : Goes P N u1 base (lone ⟨fn', us, .code (.rangeFunc f ps a b) :: k', es, .run, kd', ro'⟩ cs w) w1 outs := by
          split at ho
          case h_2 => cases ho
          rename_i d h2 hc2
          refine capply_sound hcall hf (hcs.ext e1) H1 (by simp only [hc2]; exact ho) (hex.trans ?_)
          have hres : resolve (Frame.eval ⟨fn', us, .inRangeFunc l' :: k', mark' ++ es, .run, kd', ro'⟩) { callee := .value f, args := #[.const (.func (.yield l') #[] #[])], argTypes := #[] } 0 = Deferred.ofValue (Frame.eval ⟨fn', us, .inRangeFunc l' :: k', mark' ++ es, .run, kd', ro'⟩ f) #[.func (.yield l') #[] #[]] := by
            unfold resolve
            simp [Frame.eval]
          simp only [Sem.runT_eq, GStep.bare_after, hrun]
          rw [hres]
        obtain ⟨s', hs', u2, fr'', cs'', w2, e2, hst, hr, hb⟩ := hgo
        exact ⟨s', hs', u2, fr'', cs'', w2, e1.trans e2, hst, hr, b1.trans hb⟩
    | inBlock id => exact to hs (by rw [hex]; rfl) ho
    | inScope b => exact to hs (by rw [hex]; rfl) ho
    | inLoop b => exact to (.cons (.code b) (.cons (.inLoop b) hs)) (by rw [hex]; rfl) ho
    | inRegion ops l hl =>
      cases l with
      | nil => exact to hs (by rw [hex]; rfl) ho
      | cons i rest =>
        have hf : FR u ⟨fn', ts, .inRegion ops (i :: rest) :: k, ds, .run, kd', ro⟩ ⟨fn', us, .inRegion ops (i :: rest) :: k', es, .run, kd', ro'⟩ := ⟨rfl, hts, .cons (.inRegion ops (i :: rest) hl) hs, hds, .run, rfl, hro⟩
        exact oper_sound hz hf hcs hh (hl i (by simp)) ho0
    | @inAny ops pre listed rest hp hsch =>
      cases pre with
      | nil =>
        simp only [List.nil_append, if_true] at ho
        split at ho
        · rename_i hnil
          cases hsch with
          | done h => exact to hs (by rw [hex]; rfl) ho
          | next h hs => rw [hnil] at h; cases h
        · rename_i hne
          cases ho
          cases hsch with
          | done h => exact (hne h).elim
          | @next _ rest' i h hs' =>
            have hi : i ≠ ops.size := by
              unfold readyL at h
              rw [List.mem_filter] at h
              have := List.mem_range.1 h.1
              omega
            refine ⟨_, List.mem_map.2 ⟨i, h, rfl⟩, u, _, cs, w, Ext.refl u, Steps.refl _ _, ⟨⟨rfl, hts, .cons (.inAny ops [i] (fun j hj => by simp at hj; subst hj; exact hi) hs') hs, hds, .run, rfl, hro⟩, hcs, hh⟩, Keeps.refl _ _⟩
      | cons i pre =>
        have hf : FR u ⟨fn', ts, .inRegion ops (i :: (pre ++ ops.size :: listed)) :: k, ds, .run, kd', ro⟩ ⟨fn', us, .inRegion ops (i :: (pre ++ rest)) :: k', es, .run, kd', ro'⟩ := ⟨rfl, hts, .cons (.inAny ops (i :: pre) hp hsch) hs, hds, .run, rfl, hro⟩
        exact oper_sound hz hf hcs hh (hp i (by simp)) ho0
    | inRangeFunc h => cases ho
    | @endRangeFunc l m h =>
      dsimp only at ho
      split at ho
      · rename_i jump h1 hc
        cases ho
        obtain ⟨u1, w1, e1, H1, b1, j', hj', hJ⟩ := sim_endLoop h sh w hh _ _ hc
        subst hJ
        have hjl : TL u1 (jump.map Item.code).toList (jump.map Item.code).toList := by cases jump with | none => exact .nil | some c => exact .cons (.code c) .nil
        refine ⟨_, .head _, u1, ⟨fn', us, (jump.map Item.code).toList ++ k', es, .run, kd', ro'⟩, cs, w1, e1, stp (hex.trans ?_), ⟨⟨rfl, hts.ext e1, hjl.append (hs.ext e1), hds.ext e1, .run, rfl, hro.ext e1⟩, hcs.ext e1, H1⟩, b1⟩
        simp [hj']
      · rename_i v h1 hc
        cases ho
        obtain ⟨u1, w1, e1, H1, b1, v', hj', hV⟩ := sim_endLoop h sh w hh _ _ hc
        have hf : FR u1 ⟨fn', ts, .endRangeFunc l :: k, ds, .run, kd', ro⟩ ⟨fn', us, .endRangeFunc m :: k', es, .run, kd', ro'⟩ := ⟨rfl, hts.ext e1, .cons (.endRangeFunc (h.ext e1)) (hs.ext e1), hds.ext e1, .run, rfl, hro.ext e1⟩
        refine ⟨_, .head _, u1, Frame.raise ⟨fn', us, .endRangeFunc m :: k', es, .run, kd', ro'⟩ [{ v := v', recovered := false }], cs, w1, e1, stp (hex.trans ?_), ⟨hf.raise (.cons hV rfl rfl .nil), hcs.ext e1, H1⟩, b1⟩
        simp [hj']
      · cases ho
    | beginRound =>
      cases hro with
      | none => cases ho
      | @some l m hl =>
        dsimp only at ho hex
        refine capply_sound (SimAt.toC (simAt_tag (fun _ => .skip) (sim_beginRound hl))) (f := ⟨fn', ts, .beginRound :: k, ds, .run, kd', some l⟩) (g := ⟨fn', us, .beginRound :: k', es, .run, kd', some m⟩) ⟨rfl, hts, .cons .beginRound hs, hds, .run, rfl, .some hl⟩ hcs hh ho (hex.trans rfl)
end
end Go.Proofs.Simul
