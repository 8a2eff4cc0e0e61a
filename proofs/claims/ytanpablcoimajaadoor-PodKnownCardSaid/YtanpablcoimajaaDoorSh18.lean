/- Part of a proof by a machine of ones own: see the text with the theorem. -/
import Derived.Test.YtanpablcoimajaaDoorSh17
namespace Go.Sh
open Go
variable {P : Program} {φ : Inj} {A : AW} {w : World}

/-! an operation of the program -/
theorem OpOk.cast {y : R} {r r' : Result Next} (h : OpOk P φ A w y r) (e : r' = r) : OpOk P φ A w y r' := e ▸ h
theorem fnA_ok (hP : NoCount P) (hM : MR P φ A w) {f f' : Fn} {c c' args args' : List Value} (hf : FnR φ f f') (hc : LR φ c c') (ha : LR φ args args') :
    OpOk P φ A w (fnA P A f c args) ((invoke (.fn f' ⟨c'⟩) ⟨args'⟩).run P w) := by
  rcases hf with ⟨rfl, hy⟩ | ⟨l, l', rfl, rfl, hb⟩
  · cases f with
    | func f =>
      simp only [fnA, appL_eq]
      have h := callFn_ok hP hM f (ha.append hc)
      have e : (⟨args'⟩ ++ ⟨c'⟩ : Array Value) = ⟨args' ++ c'⟩ := by apply Array.ext'; simp
      refine h.cast ?_
      show (callFunc f (⟨args'⟩ ++ ⟨c'⟩ : Array Value)).run P w = _
      rw [e]
    | yield l => exact absurd rfl (hy l)
    | _ => exact trivial
  · exact ⟨rfl, l', args', hb, ha, rfl⟩
theorem callV_ok (hP : NoCount P) (hM : MR P φ A w) {f f' : Value} {args args' : List Value} (hf : VR φ f f') (ha : LR φ args args') :
    OpOk P φ A w (callV P A f args) ((do let d ← Deferred.ofValue f' ⟨args'⟩; invoke d.target d.args : Sem Next).run P w) := by
  cases hf with
  | func hf hx hy =>
    rename_i f f' x x' y y'
    simp only [callV, appL_eq]
    refine (fnA_ok hP hM hf hy (hx.append ha)).cast ?_
    have e : (⟨x'⟩ ++ ⟨args'⟩ : Array Value) = ⟨x' ++ args'⟩ := by apply Array.ext'; simp
    simp only [Deferred.ofValue, Sem.run_bind, Sem.run_pure, Result.andThen_ok, e]
  | _ => exact trivial
theorem findM_eq (name : String) : ∀ l : List Method, findM name l = l.find? (fun m => m.name == name)
  | [] => rfl
  | m :: l => by
    unfold findM
    rw [List.find?_cons, findM_eq name l]
    cases m.name == name <;> rfl
theorem methA_run {t : TypeId} {name : String} {f : FuncId} (h : methA P t name = some f) (v : Value) (n : Nat) (w : World) : (method (n + 1) t v name).run P w = .ok (f, v) w := by
  unfold methA at h
  cases hi : P.info? t with
  | none => rw [hi] at h; cases h
  | some i =>
    rw [hi] at h
    simp only at h
    cases hm : findM name i.methods.toList with
    | none => rw [hm] at h; cases h
    | some m =>
      rw [hm] at h
      simp only [methF] at h
      have hm' : i.methods.find? (fun m => m.name == name) = some m := by rw [← Array.find?_toList, ← findM_eq]; exact hm
      cases hf : m.func with
      | none => rw [hf] at h; cases h
      | some p =>
        obtain ⟨g, ptr⟩ := p
        rw [hf] at h
        simp only at h
        cases hq : isPtrT P t with
        | none => rw [hq] at h; cases h
        | some b =>
          rw [hq] at h
          simp only at h
          cases hc : (m.path.toList.isEmpty && (ptr == b)) with
          | false => rw [hc] at h; cases h
          | true =>
            rw [hc] at h
            simp only [cond_true, Option.some.injEq] at h
            subst h
            rw [Bool.and_eq_true] at hc
            obtain ⟨h1, h2⟩ := hc
            have h1 : m.path.toList = [] := by simpa using h1
            have h2 : ptr = b := by simpa using h2
            subst h2
            have hr : ∀ wr, (receiverAt t (.val v) ptr wr).run P w = .ok v w := by
              intro wr
              unfold isPtrT at hq
              cases hu : P.underlying t with
              | none => rw [hu] at hq; cases hq
              | some d =>
                rw [hu] at hq
                cases d <;> (simp only [Option.some.injEq] at hq; subst hq; simp [receiverAt, run_underlying' hu, Place.get])
            simp [method, typeInfo, hi, hm', h1, follow, hf, hr]
theorem callM_ok (hP : NoCount P) (hM : MR P φ A w) {v v' : Value} (name : String) {args args' : List Value} (hv : VR φ v v') (ha : LR φ args args') :
    OpOk P φ A w (callM P A v name args) ((invoke (.fn (.method name) #[]) ⟨v' :: args'⟩).run P w) := by
  cases hv with
  | iface t hv =>
    rename_i u u'
    simp only [callM]
    cases hm : methA P t name with
    | none => exact trivial
    | some f =>
      refine (callFn_ok hP hM f (.cons hv ha)).cast ?_
      have e : (#[u'] ++ (⟨Value.iface t u' :: args'⟩ : Array Value).extract 1 (Value.iface t u' :: args').length : Array Value) = ⟨u' :: args'⟩ := by apply Array.ext'; simp
      have hmr := methA_run hm u' (P.types.size + Made.depth - 1)
      have hd : P.types.size + Made.depth - 1 + 1 = P.types.size + Made.depth := by have : Made.depth = Made.depth := rfl; unfold Made.depth; omega
      rw [hd] at hmr
      simp [invoke, callMethod, hmr]
  | _ => exact trivial
theorem deferV_ok (_hM : MR P φ A w) {f f' : Value} {args args' : List Value} (hf : VR φ f f') (ha : LR φ args args') :
    OpOk P φ A w (deferV A f args) ((do pure (.defer (← Deferred.ofValue f' ⟨args'⟩)) : Sem Next).run P w) := by
  cases hf with
  | func hf hx hy =>
    rename_i f f' x x' y y'
    simp only [deferV, appL_eq]
    have e : (⟨x'⟩ ++ ⟨args'⟩ : Array Value) = ⟨x' ++ args'⟩ := by apply Array.ext'; simp
    exact ⟨rfl, { target := .fn f' ⟨y'⟩, args := ⟨x' ++ args'⟩ }, ⟨.fn hf hy, hx.append ha⟩, by simp only [Deferred.ofValue, Sem.run_bind, Sem.run_pure, Result.andThen_ok, e]⟩
  | _ => exact trivial

/-! operands -/
theorem global_VR (hM : MR P φ A w) {g : Nat} (h : g < P.globals.size) : VR φ (.pointer (some ⟨g, 0, none⟩)) (.pointer (some ⟨g, 0, none⟩)) := by
  rcases hM.globals g h with h1 | ⟨n, s, h1⟩
  · exact .ptr (.inl h1)
  · exact .ptr (.inr ⟨g, n, s, 0, h1, rfl, rfl, rfl⟩)
theorem tmp_eq (k : Nat) (t : Tm) : (getS 16 k).val t = tget t k := rfl
theorem evS_ok (hM : MR P φ A w) {n : Nat} {t : Tm} {fr : Frame} (hT : TR φ n t fr.tmps) (x : Operand) (hc : constOk P x = true) : VR φ ((evS x).val t) (fr.eval x) := by
  cases x with
  | tmp k => exact hT.2 k
  | const v => exact ground_VR 3 v hc
  | global g => exact global_VR hM (by have h : Nat.blt g P.globals.size = true := hc; simpa [Nat.blt_eq] using h)
  | func f => exact .func (.inl ⟨rfl, fun l h => by cases h⟩) .nil .nil
theorem evL_ok (hM : MR P φ A w) {n : Nat} {t : Tm} {fr : Frame} (hT : TR φ n t fr.tmps) : ∀ l : List Operand, (∀ x ∈ l, constOk P x = true) → LR φ ((evL l).val t) (l.map fr.eval)
  | [], _ => .nil
  | x :: l, h => .cons (evS_ok hM hT x (h x (List.mem_cons_self ..))) (evL_ok hM hT l fun y hy => h y (List.mem_cons_of_mem _ hy))
theorem evP_ok (hM : MR P φ A w) {n : Nat} {t : Tm} {fr : Frame} (hT : TR φ n t fr.tmps) : ∀ l : List (Nat × Operand), (∀ x ∈ l.map (·.2), constOk P x = true) → PR φ ((evP l).val t) (l.map fun p => (p.1, fr.eval p.2))
  | [], _ => .nil
  | p :: l, h => .cons p.1 (evS_ok hM hT p.2 (h p.2 (List.mem_cons_self ..))) (evP_ok hM hT l fun y hy => h y (List.mem_cons_of_mem _ hy))
theorem evO_ok (hM : MR P φ A w) {n : Nat} {t : Tm} {fr : Frame} (hT : TR φ n t fr.tmps) (x : Option Operand) (h : ∀ y, x = some y → constOk P y = true) : OVR φ ((evO x).val t) (x.map fr.eval) := by
  cases x with
  | none => exact trivial
  | some y => exact evS_ok hM hT y (h y rfl)
theorem op_ok (hP : NoCount P) (hM : MR P φ A w) {n : Nat} {t : Tm} {fr : Frame} (hT : TR φ n t fr.tmps) (o : Oper) (hc : ∀ x ∈ o.op.operands.toList, constOk P x = true) :
    OpOk P φ A w ((opS P o.type o.op).val t A) ((execOp fr.eval o).run P w) := by
  have hS : ∀ x, x ∈ o.op.operands.toList → VR φ ((evS x).val t) (fr.eval x) := fun x hx => evS_ok hM hT x (hc x hx)
  obtain ⟨dst, op, type, pos, after, guard⟩ := o
  simp only at hc hS ⊢
  cases op with
  | move x => exact OpOk.same hM (hS x (by simp [Op.operands])) rfl
  | assign x => exact OpOk.same hM (hS x (by simp [Op.operands])) rfl
  | pick c a b => exact pick_ok hM (hS c (by simp [Op.operands])) (hS a (by simp [Op.operands])) (hS b (by simp [Op.operands]))
  | alloc e => exact alloc_ok hM e
  | box e x => exact box_ok hM e (hS x (by simp [Op.operands]))
  | build ty parts =>
    have h := build_ok hM ty (evP_ok hM hT parts.toList fun x hx => hc x (by simpa [Op.operands] using hx))
    have e : (⟨parts.toList.map fun p => (p.1, fr.eval p.2)⟩ : Array (Nat × Value)) = parts.map fun p => (p.1, fr.eval p.2) := by apply Array.ext'; simp
    rw [e] at h
    exact h
  | buildSlice ty len parts =>
    have h := buildSlice_ok hM ty len (evP_ok hM hT parts.toList fun x hx => hc x (by simpa [Op.operands] using hx))
    have e : (⟨parts.toList.map fun p => (p.1, fr.eval p.2)⟩ : Array (Nat × Value)) = parts.map fun p => (p.1, fr.eval p.2) := by apply Array.ext'; simp
    rw [e] at h
    exact h
  | load ty a => exact load_ok hM ty (hS a (by simp [Op.operands]))
  | store ty a x => exact store_ok hM ty (hS a (by simp [Op.operands])) (hS x (by simp [Op.operands]))
  | nilCheck x => exact nilCheck_ok hM (ρ := fr.eval) (o := ⟨dst, .nilCheck x, type, pos, after, guard⟩) rfl (hS x (by simp [Op.operands]))
  | binOp op ty x y yt => exact binW_ok hM op ty x y (hS x (by simp [Op.operands])) (hS y (by simp [Op.operands]))
  | unOp op ty x => exact vR_ok hM fun v hv => un_ok op (hS x (by simp [Op.operands])) hv
  | convert s d x => exact convert_ok hM s d (hS x (by simp [Op.operands]))
  | makeInterface ty x => exact iface_ok hM ty (hS x (by simp [Op.operands]))
  | makeFunc fn a b =>
    have ha := evL_ok hM hT a.toList fun x hx => hc x (by simp [Op.operands]; exact .inl (by simpa using hx))
    have hb := evL_ok hM hT b.toList fun x hx => hc x (by simp [Op.operands]; exact .inr (by simpa using hx))
    have ea : (⟨a.toList.map fr.eval⟩ : Array Value) = a.map fr.eval := by apply Array.ext'; simp
    have eb : (⟨b.toList.map fr.eval⟩ : Array Value) = b.map fr.eval := by apply Array.ext'; simp
    have key : (∀ l, fn ≠ .yield l) → OpOk P φ A w (.val (.func fn ⟨(evL a.toList).val t⟩ ⟨(evL b.toList).val t⟩) A) ((do pure (.value (← Instr.makeFunc fn (a.map fr.eval) (b.map fr.eval))) : Sem Next).run P w) := by
      intro h
      have := makeFunc_ok hM (.inl ⟨rfl, h⟩ : FnR φ fn fn) ha hb
      rw [ea, eb] at this
      exact this
    cases fn with
    | yield l => exact trivial
    | _ => exact key (fun l h => by cases h)
  | makeMap ty r => cases r with
    | none => exact makeMap_ok hM ty
    | some x => exact trivial
  | makeSlice ty l c => exact makeSlice_ok hM ty (hS l (by simp [Op.operands])) (hS c (by simp [Op.operands]))
  | slice ty x lo hi mx =>
    exact slice_ok hM ty (hS x (by simp [Op.operands])) (evO_ok hM hT lo fun y hy => hc y (by subst hy; simp [Op.operands])) (evO_ok hM hT hi fun y hy => hc y (by subst hy; simp [Op.operands])) (evO_ok hM hT mx fun y hy => hc y (by subst hy; simp [Op.operands]))
  | fieldAddr s x f => exact fieldAddr_ok hM s f (hS x (by simp [Op.operands]))
  | field ty x f => exact field_ok hM ty f (hS x (by simp [Op.operands]))
  | indexAddr ty x i => exact indexAddr_ok hM ty (hS x (by simp [Op.operands])) (hS i (by simp [Op.operands]))
  | index ty x i => exact index_ok hM ty (hS x (by simp [Op.operands])) (hS i (by simp [Op.operands]))
  | lookup ty x k ok => exact lookup_ok hM ty ok (hS x (by simp [Op.operands])) (hS k (by simp [Op.operands]))
  | mapUpdate ty m k x => exact mapUpdate_ok hM ty (hS m (by simp [Op.operands])) (hS k (by simp [Op.operands])) (hS x (by simp [Op.operands]))
  | insert ty m k x => exact mapUpdate_ok hM ty (hS m (by simp [Op.operands])) (hS k (by simp [Op.operands])) (hS x (by simp [Op.operands]))
  | mapEntry ty m k => exact mapEntry_ok hM ty (hS m (by simp [Op.operands])) (hS k (by simp [Op.operands]))
  | entryStore ty m s x => exact entryStore_ok hM ty (hS m (by simp [Op.operands])) (hS s (by simp [Op.operands])) (hS x (by simp [Op.operands]))
  | range ty x => exact range_ok hM ty (hS x (by simp [Op.operands]))
  | next it str => exact next_ok hM str type (hS it (by simp [Op.operands]))
  | typeAssert x xt ty ok => exact typeAssert_ok hM xt ty ok (hS x (by simp [Op.operands]))
  | extract x i => exact extract_ok hM i (hS x (by simp [Op.operands]))
  | panic x => exact panicB_ok hM (hS x (by simp [Op.operands]))
  | call c =>
    obtain ⟨callee, args, ats⟩ := c
    have ea : (⟨args.toList.map fr.eval⟩ : Array Value) = args.map fr.eval := by apply Array.ext'; simp
    cases callee with
    | builtin b =>
      have ha := evL_ok hM hT args.toList fun x hx => hc x (by simp [Op.operands, Call.operands]; first | exact .inr (by simpa using hx) | simpa using hx)
      have h := builtin_ok hM b ats type (args.map fun | .const _ => true | _ => false) ha
      rw [ea] at h
      exact h
    | invoke recv name =>
      have ha := evL_ok hM hT args.toList fun x hx => hc x (by simp [Op.operands, Call.operands]; first | exact .inr (by simpa using hx) | simpa using hx)
      have h := callM_ok hP hM name (hS recv (by simp [Op.operands, Call.operands])) ha
      have e : (⟨fr.eval recv :: args.toList.map fr.eval⟩ : Array Value) = #[fr.eval recv] ++ args.map fr.eval := by apply Array.ext'; simp
      rw [e] at h
      exact h
    | value f =>
      have ha := evL_ok hM hT args.toList fun x hx => hc x (by simp [Op.operands, Call.operands]; first | exact .inr (by simpa using hx) | simpa using hx)
      have h := callV_ok hP hM (hS f (by simp [Op.operands, Call.operands])) ha
      rw [ea] at h
      exact h
  | defer c =>
    obtain ⟨callee, args, ats⟩ := c
    have ea : (⟨args.toList.map fr.eval⟩ : Array Value) = args.map fr.eval := by apply Array.ext'; simp
    cases callee with
    | value f =>
      have ha := evL_ok hM hT args.toList fun x hx => hc x (by simp [Op.operands, Call.operands]; first | exact .inr (by simpa using hx) | simpa using hx)
      have h := deferV_ok hM (hS f (by simp [Op.operands, Call.operands])) ha
      rw [ea] at h
      exact h
    | _ => exact trivial
  | _ => exact trivial
end Go.Sh
