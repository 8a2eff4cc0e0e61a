/- Part of a proof by a machine of ones own: see the text with the theorem. -/
import Derived.Test.YtanpablcoimajaaDoorSh19
set_option linter.unusedVariables false
namespace Go.Sh
open Go
variable {P : Program} {φ : Inj} {A : AW} {w : World}

/-! ## Calls -/
/-- a frame that leaves: with a value, or in a panic -/
def OutOk (P : Program) (f : FuncId) (kind : CallKind) (φ : Inj) (w : World) (fr : Frame) (o : Out) : Prop :=
  fr.fn = f ∧ fr.kind = kind ∧ fr.defers = [] ∧ ∃ fn, P.funcs[f]? = some fn ∧
    match o with
    | .ret v => fr.mode = .returning ∧ ∃ v', VR φ v v' ∧ (results fn fr.tmps).run P w = .ok v' w
    | .panic v => ∃ v', fr.mode = .panicking [{ v := v', recovered := false }] ∧ VR φ v v'
def CallOk (P : Program) (f : FuncId) (F : List Value → AW → Ctx → RO) : Prop :=
  ∀ (φ : Inj) (A : AW) (w : World) (args args' : List Value) (x : Ctx) (kind : CallKind) (cs : List Frame), MR P φ A w → LR φ args args' → CtxR φ x kind none cs →
    match F args A x with
    | .fail => True
    | .ok o A' x' => ∃ φ' w' cs' fr', MR P φ' A' w' ∧ Ext φ A w φ' A' w' ∧ CtxR φ' x' kind none cs' ∧ (CsR (isPan x) cs cs' ∧ isPan x' = isPan x) ∧ OutOk P f kind φ' w' fr' o ∧
        Steps P (lone (Frame.enter P f ⟨args'⟩ kind) cs w) (lone fr' cs' w')
structure RecOk (P : Program) (r : Rec) : Prop where
  call : ∀ f, CallOk P f (r.call f)
  code : ∀ n c, DoesOk P n [.code c] (r.code n c)
/-- a call of a frame that goes on: what comes back -/
theorem call_back {r : Rec} (hR : RecOk P r) (hM : MR P φ A w) (f : FuncId) {args args' : List Value} (ha : LR φ args args') (fr : Frame) (cs : List Frame) :
    match r.call f args A .none with
    | .fail => True
    | .ok (.ret v) A' _ => ∃ φ' w' v', MR P φ' A' w' ∧ Ext φ A w φ' A' w' ∧ VR φ' v v' ∧ Steps P (lone (Frame.enter P f ⟨args'⟩ .normal) (fr :: cs) w) (lone (fr.finish v') cs w')
    | .ok (.panic v) A' _ => ∃ φ' w' v', MR P φ' A' w' ∧ Ext φ A w φ' A' w' ∧ VR φ' v v' ∧ Steps P (lone (Frame.enter P f ⟨args'⟩ .normal) (fr :: cs) w) (lone (fr.raise [{ v := v', recovered := false }]) cs w') := by
  have h := hR.call f φ A w args args' .none .normal (fr :: cs) hM ha (.none _)
  cases hy : r.call f args A .none with
  | fail => exact trivial
  | ok o A' x' =>
    rw [hy] at h
    obtain ⟨φ', w', cs', fr', h1, h2, h3, h4, h5, h6⟩ := h
    have hcs : cs' = fr :: cs := h4.1.eq
    subst hcs
    obtain ⟨g1, g2, g3, fn, g4, g5⟩ := h5
    cases o with
    | ret v =>
      obtain ⟨g6, v', g7, g8⟩ := g5
      refine ⟨φ', w', v', h1, h2, g7, h6.trans (go1 ?_)⟩
      simp [stepG, unwind, doReturn, g1, g2, g3, g4, g6, g8]
    | panic v =>
      obtain ⟨v', g6, g7⟩ := g5
      refine ⟨φ', w', v', h1, h2, g7, h6.trans (go1 ?_)⟩
      simp [stepG, unwind, Frame.catches, g1, g3, g4, g6]

theorem DsR.none {ds' : List Deferred} (h : DsR φ [] ds' []) : ds' = [] := by cases h; rfl

/-! ## Rounds of a loop over a function -/
theorem loopAt_some {l : Nat} {lp : ALoop} (h : loopAt A l = some lp) : A.heap.get l = some (.loop lp) := by
  unfold loopAt at h
  cases hg : A.heap.get l with
  | none => rw [hg] at h; cases h
  | some o =>
    rw [hg] at h
    cases o with
    | loop lp' => cases h; rfl
    | _ => cases h
theorem loop_there (hM : MR P φ A w) {l l' : Nat} (hl : BlkR φ l l') {lp : ALoop} (h : loopAt A l = some lp) : ∃ n s d L, φ l = some (.at_ l' n s d) ∧ w.heap[l']? = some (.loop L) ∧ LoopR φ lp L := by
  obtain ⟨n, s, d, oc, h1, h2, L, rfl, h3⟩ := hM.objB hl (loopAt_some h)
  exact ⟨n, s, d, L, h1, h2, h3⟩
theorem run_getLoop {l : Nat} {L : Loop} (h : w.heap[l]? = some (.loop L)) : (Instr.getLoop l).run P w = .ok L w := by
  simp [Instr.getLoop, run_getObj h (by intro a b c h; cases h)]
theorem run_setLoop {l : Nat} {L : Loop} (h : w.heap[l]? = some (.loop L)) (o : Obj) : (setObj l o).run P w = .ok () (setBlk w l o) := by
  unfold setObj
  simp only [Sem.run, h]
  rfl
theorem setParams_ok {n : Nat} : ∀ {ps : List Tmp} {args args' : List Value} {t : Tm} {a : Array Value}, (∀ d ∈ ps, dstOk n (some d) = true) → LR φ args args' → TR φ n t a →
    TR φ n (setParams ps args t) ((ps.zip args').foldl (fun tmps (p : Tmp × Value) => tmps.setIfInBounds p.1 p.2) a)
  | [], _, _, t, a, _, _, h => by simpa [setParams] using h
  | p :: ps, _, _, t, a, _, .nil, h => by simpa [setParams] using h
  | p :: ps, _, _, t, a, hd, .cons hv k, h => by
    have h1 := hd p (List.mem_cons_self ..)
    simp only [dstOk, Bool.and_eq_true] at h1
    have e1 : p < n := by simpa [Nat.blt_eq] using h1.1
    have e2 : n ≤ 60000 := Nat.le_of_ble_eq_true h1.2
    simp only [setParams, List.zip_cons_cons, List.foldl_cons]
    exact setParams_ok (fun d hd' => hd d (List.mem_cons_of_mem _ hd')) k (h.set e1 e2 hv)
/-- a round begins -/
theorem yieldG_ok {r : Rec} (hR : RecOk P r) {l l' n : Nat} (hl : BlkR φ l l') {body : Code} {lo : Nat} {t : Tm} {ds : List Deferred} {a : Av} {cs : List Frame} {k : List Item} (hM : MR P φ A w) (hH : Held φ w n lo t ds a) (hlo : lo ≤ w.heap.size)
    (hr : a.roundOf = some l') : RcOk P n lo φ A w false a cs (a.at (.beginRound :: .code body :: k)) k (yieldG r l n body t ds A .round) := by
  unfold yieldG
  cases hlp : loopAt A l with
  | none => exact trivial
  | some lp =>
    simp only
    cases hrd : isReady lp.state with
    | false => exact trivial
    | true =>
      obtain ⟨nn, s, d, L, h1, h2, h3⟩ := loop_there hM hl hlp
      have hst : L.state = .ready := by
        rw [h3.state]
        unfold isReady at hrd
        split at hrd
        · rename_i hs; exact hs
        · cases hrd
      simp only [cond_true]
      cases hp : putO A l (busyA lp) with
      | none => exact trivial
      | some A1 =>
        obtain ⟨hlim, rfl⟩ := putO_some hp
        obtain ⟨s1, s2⟩ := hM.set (o := busyA lp) (oc := .loop { L with state := .busy }) h1 hlim (n' := nn) (s' := s) (d' := d) ⟨_, rfl, ⟨rfl, h3.pending, h3.params, h3.assign, h3.body, h3.tmps, h3.dst⟩⟩ ⟨rfl, rfl, rfl⟩
        have hstep : Steps P (lone (a.at (.beginRound :: .code body :: k)) cs w) (lone (a.at (.code body :: k)) cs (setBlk w l' (.loop { L with state := .busy }))) := by
          refine go1 ?_
          have hb : (Instr.beginRound l').run P w = .ok () (setBlk w l' (.loop { L with state := .busy })) := by
            simp [Instr.beginRound, run_getLoop h2, run_setLoop h2, hst]
          simp [stepG, stepG.exec, stepG.apply, Av.at, hr, hb, Frame.finish]
        refine RcOk.after s2 (.refl a) (.same _ _) hstep ?_
        exact hR.code n body _ _ _ lo t ds .round a cs k s1 (hH.ext s2) (by simpa [setBlk] using hlo) (by rw [hr]; exact .round _ _ _)
/-- what a round comes to, for the function that hands over -/
theorem yield_ok {r : Rec} (hR : RecOk P r) (hM : MR P φ A w) {l l' : Nat} (hl : BlkR φ l l') {args args' : List Value} (ha : LR φ args args') (fr : Frame) (cs : List Frame) :
    match yieldA r l args A with
    | .fail => True
    | .val b A' => ∃ fn tmps assign body φ' w', (Instr.yield l' ⟨args'⟩).run P w = .ok (.round l' fn tmps assign body) w ∧ MR P φ' A' w' ∧ Ext φ A w φ' A' w' ∧
        Steps P (lone (Frame.round l' fn tmps assign body .normal) (fr :: cs) w) (lone (fr.finish (.bool b)) cs w')
    | .panic v A' => ∃ fn tmps assign body φ' w' v', (Instr.yield l' ⟨args'⟩).run P w = .ok (.round l' fn tmps assign body) w ∧ MR P φ' A' w' ∧ Ext φ A w φ' A' w' ∧ VR φ' v v' ∧
        Steps P (lone (Frame.round l' fn tmps assign body .normal) (fr :: cs) w) (lone (fr.raise [{ v := v', recovered := false }]) cs w') := by
  unfold yieldA yieldB
  cases hlp : loopAt A l with
  | none => exact trivial
  | some lp =>
    simp only [lenL0]
    cases hlen : Nat.beq args.length lp.params.length with
    | false => exact trivial
    | true =>
      have hlen := Nat.eq_of_beq_eq_true hlen
      obtain ⟨nn, s, d, L, h1, h2, h3⟩ := loop_there hM hl hlp
      have hsz : args'.length = L.params.size := by rw [← ha.length, hlen, ← h3.params]; simp
      have hrun : (Instr.yield l' ⟨args'⟩).run P w = .ok (.round l' L.fn ((L.params.zip ⟨args'⟩).foldl (fun tmps (p : Tmp × Value) => tmps.setIfInBounds p.1 p.2) L.tmps) L.assign L.body) w := by
        have hsz' : ¬ ((⟨args'⟩ : Array Value).size ≠ L.params.size) := by simp [hsz]
        unfold Instr.yield
        simp only [Sem.run_bind, run_getLoop h2, Result.andThen_ok, if_neg hsz']
        rfl
      have htmps : TR φ lp.n (setParams lp.params args lp.tmps) ((L.params.zip ⟨args'⟩).foldl (fun tmps (p : Tmp × Value) => tmps.setIfInBounds p.1 p.2) L.tmps) := by
        have := setParams_ok h3.dst ha h3.tmps
        rw [← h3.params] at this ⊢
        have e : (L.params.zip ⟨args'⟩).toList = L.params.toList.zip args' := by simp
        rw [← Array.foldl_toList, e]
        exact this
      generalize htm : ((L.params.zip ⟨args'⟩).foldl (fun tmps (p : Tmp × Value) => tmps.setIfInBounds p.1 p.2) L.tmps) = tm at hrun htmps
      simp only [cond_true]
      -- the round's frame
      have key : RcOk P lp.n w.heap.size φ A w false ⟨L.fn, tm, [], .normal, some l'⟩ (fr :: cs) ((⟨L.fn, tm, [], .normal, some l'⟩ : Av).at [.code L.assign, .beginRound, .code L.body]) [] (seqK (yieldG r l lp.n lp.body) (r.code lp.n lp.assign (setParams lp.params args lp.tmps) [] A .round)) := by
        have hH : Held φ w lp.n w.heap.size (setParams lp.params args lp.tmps) [] ⟨L.fn, tm, [], .normal, some l'⟩ := ⟨htmps, [], .nil, List.nodup_nil, by simp, fun _ => rfl⟩
        have h := hR.code lp.n lp.assign φ A w w.heap.size (setParams lp.params args lp.tmps) [] .round ⟨L.fn, tm, [], .normal, some l'⟩ (fr :: cs) [.beginRound, .code L.body] hM hH (Nat.le_refl _) (.round _ _ _)
        rw [h3.assign]
        rw [h3.body] at h ⊢
        cases hy : r.code lp.n lp.assign (setParams lp.params args lp.tmps) [] A .round with
        | fail => exact trivial
        | ok ex t1 ds1 A1 x1 =>
          rw [hy] at h
          obtain ⟨φ1, w1, a1, cs1, fr1, g1, g2, g3, g4, g5, g6, g7, g8⟩ := h
          cases ex with
          | normal =>
            have g7 : fr1 = a1.at [.beginRound, .code lp.body] := g7
            subst g7
            have hx1 : x1 = .round := by
              have hk := g5
              cases hk with
              | round => rfl
            subst hx1
            refine RcOk.after g2 g4 g6.1 g8 ?_
            have hl1 : BlkR φ1 l l' := hl.mono g2.le
            exact yieldG_ok hR hl1 g1 g3 g2.size (by rw [g4.round])
          | exit id =>
            obtain ⟨j, q1, q2⟩ := g7
            exact ⟨φ1, w1, a1, cs1, fr1, g1, g2, g3, g4, g5, g6, ⟨j, q1, by rw [q2]; rfl⟩, g8⟩
          | ret => exact ⟨φ1, w1, a1, cs1, fr1, g1, g2, g3, g4, g5, g6, g7, g8⟩
          | panic v => exact ⟨φ1, w1, a1, cs1, fr1, g1, g2, g3, g4, g5, g6, g7, g8⟩
      cases hy : seqK (yieldG r l lp.n lp.body) (r.code lp.n lp.assign (setParams lp.params args lp.tmps) [] A .round) with
      | fail => exact trivial
      | ok ex t1 ds1 A1 x1 =>
        rw [hy] at key
        obtain ⟨φ1, w1, a1, cs1, fr1, g1, g2, g3, g4, g5, g6, g7, g8⟩ := key
        have hcs : cs1 = fr :: cs := g6.1.eq
        subst hcs
        have hl1 : BlkR φ1 l l' := hl.mono g2.le
        -- the round ends
        have fin : ∀ (j : Option Code), (fr1 = a1.at (match j with | none => [] | some c => c |> fun c => []) → True) → (∀ (L1 : Loop), w1.heap[l']? = some (.loop L1) → Steps P (lone fr1 (fr :: cs) w1) (lone (fr.finish (.bool j.isNone)) cs (setBlk w1 l' (.loop { L1 with state := if j.isNone then .ready else .done, pending := j })))) →
            match yieldE l A1 j (loopAt A1 l) with
            | .fail => True
            | .val b A' => ∃ fn tmps assign body φ' w', (Instr.yield l' ⟨args'⟩).run P w = .ok (.round l' fn tmps assign body) w ∧ MR P φ' A' w' ∧ Ext φ A w φ' A' w' ∧
                Steps P (lone (Frame.round l' fn tmps assign body .normal) (fr :: cs) w) (lone (fr.finish (.bool b)) cs w')
            | .panic v A' => True := by
          intro j _ hend
          cases hlp1 : loopAt A1 l with
          | none => exact trivial
          | some lp1 =>
            obtain ⟨n1, s1, d1, L1, q1, q2, q3⟩ := loop_there g1 hl1 hlp1
            simp only [yieldE]
            cases hp : putO A1 l (.loop ⟨lp1.n, lp1.tmps, lp1.params, lp1.assign, lp1.body, j, bif j.isNone then .ready else .done⟩) with
            | none => exact trivial
            | some A2 =>
              obtain ⟨hlim, rfl⟩ := putO_some hp
              obtain ⟨u1, u2⟩ := g1.set (o := .loop ⟨lp1.n, lp1.tmps, lp1.params, lp1.assign, lp1.body, j, bif j.isNone then .ready else .done⟩) (oc := .loop { L1 with state := if j.isNone then .ready else .done, pending := j }) q1 hlim (n' := n1) (s' := s1) (d' := d1) ⟨_, rfl, ⟨by cases j <;> rfl, rfl, q3.params, q3.assign, q3.body, q3.tmps, q3.dst⟩⟩ ⟨rfl, rfl, rfl⟩
              exact ⟨_, _, _, _, φ1, _, hrun, u1, g2.trans u2, g8.trans (hend L1 q2)⟩
        have hend : ∀ (j : Option Code) (L1 : Loop), w1.heap[l']? = some (.loop L1) → (Instr.endRound l' j).run P w1 = .ok (.bool j.isNone) (setBlk w1 l' (.loop { L1 with state := if j.isNone then .ready else .done, pending := j })) := by
          intro j L1 q
          simp [Instr.endRound, run_getLoop q, run_setLoop q]
        have hk : a1.kind = .normal := g4.kind
        have hro : a1.roundOf = some l' := g4.round
        cases ex with
        | normal =>
          have g7 : fr1 = a1.at [] := g7
          subst g7
          simp only [yieldF, jumpOf]
          cases ds1 with
          | cons => exact trivial
          | nil =>
            have := fin none (fun _ => trivial) fun L1 q => go1 (by simp [stepG, stepG.exec, Av.at, hro, hend none L1 q, doReturn, hk])
            cases hyE : yieldE l A1 none (loopAt A1 l) with
            | fail => exact trivial
            | val b A' => rw [hyE] at this; exact this
            | panic v A' =>
              exfalso
              unfold yieldE at hyE
              split at hyE
              · cases hyE
              · split at hyE <;> cases hyE
        | exit id =>
          obtain ⟨j, q1, q2⟩ := g7
          subst q1
          have q2 : exitTo id j = none := q2
          simp only [yieldF, jumpOf]
          cases ds1 with
          | cons => exact trivial
          | nil =>
            have := fin (some (.exit id)) (fun _ => trivial) fun L1 q => go1 (by simp [stepG, stepG.exec, Av.at, hro, hend (some (.exit id)) L1 q, doReturn, hk, q2])
            cases hyE : yieldE l A1 (some (.exit id)) (loopAt A1 l) with
            | fail => exact trivial
            | val b A' => rw [hyE] at this; exact this
            | panic v A' =>
              exfalso
              unfold yieldE at hyE
              split at hyE
              · cases hyE
              · split at hyE <;> cases hyE
        | ret =>
          obtain ⟨j, q1⟩ := g7
          subst q1
          simp only [yieldF, jumpOf]
          cases ds1 with
          | cons => exact trivial
          | nil =>
            have := fin (some .ret) (fun _ => trivial) fun L1 q => go1 (by simp [stepG, stepG.exec, Av.at, hro, hend (some .ret) L1 q, doReturn, hk])
            cases hyE : yieldE l A1 (some .ret) (loopAt A1 l) with
            | fail => exact trivial
            | val b A' => rw [hyE] at this; exact this
            | panic v A' =>
              exfalso
              unfold yieldE at hyE
              split at hyE
              · cases hyE
              · split at hyE <;> cases hyE
        | panic v =>
          obtain ⟨j, v', q1, q2, q3⟩ := g7
          subst q1
          simp only [yieldF]
          cases ds1 with
          | cons => exact trivial
          | nil =>
            obtain ⟨rs, e1, e2, e3, e4⟩ := g3.defers
            have hrs := e4 (by rw [hro]; simp)
            subst hrs
            have hdef : a1.defers = [] := e1.none
            refine ⟨_, _, _, _, φ1, w1, v', hrun, g1, g2, q2, g8.trans (go1 ?_)⟩
            have hcatch : (a1.pan j v').catches P = false := by
              unfold Frame.catches
              split
              · rename_i hq; exact absurd hq (q3 _ _ _ _ _)
              · rfl
            simp only [Av.pan, Av.at, hdef] at hcatch
            simp [stepG, unwind, Av.pan, Av.at, hdef, hcatch]
end Go.Sh
