/- Part of a proof by a machine of ones own: see the text with the theorem. -/
import Derived.Test.YtanpablcoimajaaDoorSh26
set_option linter.unusedVariables false
set_option linter.unusedSimpArgs false
namespace Go.Sh
open Go
variable {P : Program} {φ : Inj} {A : AW} {w : World}

/-! ## What an operation hangs on -/
theorem evS_congr {t t' : Tm} {x : Operand} (h : ∀ d, x = .tmp d → tget t d = tget t' d) : (evS x).val t = (evS x).val t' := by
  cases x with
  | tmp d => exact h d rfl
  | _ => rfl
def Same (t t' : Tm) (l : List Operand) : Prop := ∀ x ∈ l, (evS x).val t = (evS x).val t'
theorem evL_congr {t t' : Tm} : ∀ {l : List Operand}, Same t t' l → (evL l).val t = (evL l).val t'
  | [], _ => rfl
  | x :: l, h => by
    show (evS x).val t :: (evL l).val t = (evS x).val t' :: (evL l).val t'
    rw [h x (List.mem_cons_self ..), evL_congr fun y hy => h y (List.mem_cons_of_mem _ hy)]
theorem evP_congr {t t' : Tm} : ∀ {l : List (Nat × Operand)}, Same t t' (l.map (·.2)) → (evP l).val t = (evP l).val t'
  | [], _ => rfl
  | x :: l, h => by
    show (x.1, (evS x.2).val t) :: (evP l).val t = (x.1, (evS x.2).val t') :: (evP l).val t'
    rw [h x.2 (List.mem_cons_self ..), evP_congr fun y hy => h y (List.mem_cons_of_mem _ hy)]
theorem evO_congr {t t' : Tm} {x : Option Operand} (h : ∀ y, x = some y → (evS y).val t = (evS y).val t') : (evO x).val t = (evO x).val t' := by
  cases x with
  | none => rfl
  | some y => show some ((evS y).val t) = some ((evS y).val t'); rw [h y rfl]
theorem opS_congr {t t' : Tm} (ty : TypeId) (o : Op) (A : AW) (h : Same t t' o.operands.toList) : (opS P ty o).val t A = (opS P ty o).val t' A := by
  cases o with
  | move x => show R.val _ A = R.val _ A; rw [h x (by simp [Op.operands])]
  | assign x => show R.val _ A = R.val _ A; rw [h x (by simp [Op.operands])]
  | pick c a b => show pickA A _ _ _ = pickA A _ _ _; rw [h c (by simp [Op.operands]), h a (by simp [Op.operands]), h b (by simp [Op.operands])]
  | alloc e => rfl
  | box e x => show boxA A e _ = boxA A e _; rw [h x (by simp [Op.operands])]
  | build ty parts => show buildA P A ty _ = buildA P A ty _; rw [evP_congr (l := parts.toList) fun x hx => h x (by simpa [Op.operands] using hx)]
  | buildSlice ty len parts => show buildSliceA P A ty len _ = buildSliceA P A ty len _; rw [evP_congr (l := parts.toList) fun x hx => h x (by simpa [Op.operands] using hx)]
  | load ty a => show loadA P A ty _ = loadA P A ty _; rw [h a (by simp [Op.operands])]
  | store ty a x => show storeA P A ty _ _ = storeA P A ty _ _; rw [h a (by simp [Op.operands]), h x (by simp [Op.operands])]
  | nilCheck x => show nilCheckA P A _ = nilCheckA P A _; rw [h x (by simp [Op.operands])]
  | binOp op ty x y yt => show (binW P op ty _).val _ _ A = (binW P op ty _).val _ _ A; rw [h x (by simp [Op.operands]), h y (by simp [Op.operands])]
  | unOp op ty x => show vR A (unS op _) = vR A (unS op _); rw [h x (by simp [Op.operands])]
  | convert s d x => show convertA P A s d _ = convertA P A s d _; rw [h x (by simp [Op.operands])]
  | makeInterface ty x => show ifaceA P A ty _ = ifaceA P A ty _; rw [h x (by simp [Op.operands])]
  | makeFunc fn a b =>
    have ha := evL_congr (l := a.toList) fun x hx => h x (by simp [Op.operands]; exact .inl (by simpa using hx))
    have hb := evL_congr (l := b.toList) fun x hx => h x (by simp [Op.operands]; exact .inr (by simpa using hx))
    cases fn with
    | yield l => rfl
    | _ => show R.val (.func _ ⟨_⟩ ⟨_⟩) A = R.val (.func _ ⟨_⟩ ⟨_⟩) A; rw [ha, hb]
  | makeMap ty r => cases r <;> rfl
  | makeSlice ty l c => show makeSliceA P A ty _ _ = makeSliceA P A ty _ _; rw [h l (by simp [Op.operands]), h c (by simp [Op.operands])]
  | slice ty x lo hi mx =>
    show sliceA P A ty _ _ _ _ = sliceA P A ty _ _ _ _
    rw [h x (by simp [Op.operands]), evO_congr (x := lo) fun y hy => h y (by subst hy; simp [Op.operands]), evO_congr (x := hi) fun y hy => h y (by subst hy; simp [Op.operands]), evO_congr (x := mx) fun y hy => h y (by subst hy; simp [Op.operands])]
  | fieldAddr s x f => show fieldAddrA P A s f _ = fieldAddrA P A s f _; rw [h x (by simp [Op.operands])]
  | field ty x f => show fieldA P A ty f _ = fieldA P A ty f _; rw [h x (by simp [Op.operands])]
  | indexAddr ty x i => show indexAddrA P A ty _ _ = indexAddrA P A ty _ _; rw [h x (by simp [Op.operands]), h i (by simp [Op.operands])]
  | index ty x i => show indexA P A ty _ _ = indexA P A ty _ _; rw [h x (by simp [Op.operands]), h i (by simp [Op.operands])]
  | lookup ty x k ok => show lookupA P A ty _ _ ok = lookupA P A ty _ _ ok; rw [h x (by simp [Op.operands]), h k (by simp [Op.operands])]
  | mapUpdate ty m k x => show mapUpdateA P A ty _ _ _ = mapUpdateA P A ty _ _ _; rw [h m (by simp [Op.operands]), h k (by simp [Op.operands]), h x (by simp [Op.operands])]
  | insert ty m k x => show mapUpdateA P A ty _ _ _ = mapUpdateA P A ty _ _ _; rw [h m (by simp [Op.operands]), h k (by simp [Op.operands]), h x (by simp [Op.operands])]
  | mapEntry ty m k => show mapEntryA P A ty _ _ = mapEntryA P A ty _ _; rw [h m (by simp [Op.operands]), h k (by simp [Op.operands])]
  | entryStore ty m s x => show entryStoreA A _ _ _ = entryStoreA A _ _ _; rw [h m (by simp [Op.operands]), h s (by simp [Op.operands]), h x (by simp [Op.operands])]
  | range ty x => show rangeA P A ty _ = rangeA P A ty _; rw [h x (by simp [Op.operands])]
  | next it str => show nextA A str _ = nextA A str _; rw [h it (by simp [Op.operands])]
  | typeAssert x xt ty ok => show typeAssertA P A ty ok _ = typeAssertA P A ty ok _; rw [h x (by simp [Op.operands])]
  | extract x i => show extractA A _ i = extractA A _ i; rw [h x (by simp [Op.operands])]
  | panic x => show panicB A _ = panicB A _; rw [h x (by simp [Op.operands])]
  | call c =>
    obtain ⟨callee, args, ats⟩ := c
    cases callee with
    | builtin b =>
      show builtinA P A b ats ty _ = builtinA P A b ats ty _
      rw [evL_congr (l := args.toList) fun x hx => h x (by simp [Op.operands, Call.operands]; first | exact .inr (by simpa using hx) | simpa using hx)]
    | invoke recv name =>
      show callM P A _ name _ = callM P A _ name _
      rw [h recv (by simp [Op.operands, Call.operands]), evL_congr (l := args.toList) fun x hx => h x (by simp [Op.operands, Call.operands]; first | exact .inr (by simpa using hx) | simpa using hx)]
    | value f =>
      show callV P A _ _ = callV P A _ _
      rw [h f (by simp [Op.operands, Call.operands]), evL_congr (l := args.toList) fun x hx => h x (by simp [Op.operands, Call.operands]; first | exact .inr (by simpa using hx) | simpa using hx)]
  | defer c =>
    obtain ⟨callee, args, ats⟩ := c
    cases callee with
    | value f =>
      show deferV A _ _ = deferV A _ _
      rw [h f (by simp [Op.operands, Call.operands]), evL_congr (l := args.toList) fun x hx => h x (by simp [Op.operands, Call.operands]; first | exact .inr (by simpa using hx) | simpa using hx)]
    | _ => rfl
  | _ => rfl

/-! ## What touches no memory -/
def Quiet (A B : AW) (y z : R) : Prop := ∀ v A', y = .val v A' → A' = A ∧ z = .val v B
theorem Quiet.val (A B : AW) (v : Value) : Quiet A B (.val v A) (.val v B) := fun u A' h => by cases h; exact ⟨rfl, rfl⟩
theorem Quiet.fail (A B : AW) (z : R) : Quiet A B .fail z := fun u A' h => by cases h
theorem Quiet.pan (A B A1 : AW) (v : Value) (z : R) : Quiet A B (.panic v A1) z := fun u A' h => by cases h
theorem Quiet.vR (A B : AW) (v : Option Value) : Quiet A B (vR A v) (vR B v) := by
  cases v with
  | none => exact .fail _ _ _
  | some v => exact .val _ _ _
theorem pick_quiet (A B : AW) (c a b : Value) : Quiet A B (pickA A c a b) (pickA B c a b) := by
  cases c <;> first | exact .val _ _ _ | exact .fail _ _ _
theorem build_quiet (A B : AW) (t : TypeId) (ps : List (Nat × Value)) : Quiet A B (buildA P A t ps) (buildA P B t ps) := by
  unfold buildA
  cases zeroA P t with
  | none => exact .fail _ _ _
  | some z => cases placeOf P t with
    | none => exact .fail _ _ _
    | some p =>
      simp only
      cases fillA p (cellsOf z) ps with
      | none => exact .fail _ _ _
      | some cs => exact .val _ _ _
theorem nilCheck_quiet (A B : AW) (x : Value) : Quiet A B (nilCheckA P A x) (nilCheckA P B x) := by
  cases x with
  | pointer a => cases a with
    | none => exact .pan _ _ _ _ _
    | some a => exact .val _ _ _
  | nilIface => exact .pan _ _ _ _ _
  | nilFunc => exact .pan _ _ _ _ _
  | func fn a b => cases fn <;> first | exact .fail _ _ _ | exact .val _ _ _
  | iface t v => exact .val _ _ _
  | _ => exact .fail _ _ _
theorem iface_quiet (A B : AW) (t : TypeId) (x : Value) : Quiet A B (ifaceA P A t x) (ifaceA P B t x) := by
  unfold ifaceA
  cases isIface P t with
  | none => exact .fail _ _ _
  | some b => cases b <;> first | exact .val _ _ _ | exact .fail _ _ _
theorem fieldAddr_quiet (A B : AW) (s : TypeId) (f : Nat) (x : Value) : Quiet A B (fieldAddrA P A s f x) (fieldAddrA P B s f x) := by
  cases x with
  | pointer a => cases a with
    | none => exact .fail _ _ _
    | some a =>
      unfold fieldAddrA
      simp only
      cases fieldOf P s f with
      | none => exact .fail _ _ _
      | some f =>
        simp only
        cases szOf P f.type with
        | none => exact .fail _ _ _
        | some n => cases n with
          | zero => exact .fail _ _ _
          | succ n => exact .val _ _ _
  | _ => exact .fail _ _ _
theorem field_quiet (A B : AW) (s : TypeId) (f : Nat) (x : Value) : Quiet A B (fieldA P A s f x) (fieldA P B s f x) := by
  cases x with
  | agg cs =>
    unfold fieldA
    simp only
    cases fieldOf P s f with
    | none => exact .fail _ _ _
    | some f => exact .vR _ _ _
  | _ => exact .fail _ _ _
theorem indexAddrB_quiet (A B : AW) (a : Addr) (n : Nat) (e : TypeId) (i : Int) : Quiet A B (indexAddrB P A a n e i) (indexAddrB P B a n e i) := by
  unfold indexAddrB
  cases idxIn i n with
  | none => exact .pan _ _ _ _ _
  | some i =>
    simp only
    cases szOf P e with
    | none => exact .fail _ _ _
    | some s => exact .val _ _ _
theorem indexAddr_quiet (A B : AW) (t : TypeId) (x ix : Value) : Quiet A B (indexAddrA P A t x ix) (indexAddrA P B t x ix) := by
  cases ix with
  | int k i =>
    unfold indexAddrA
    simp only
    unfold indexAddrC
    cases x with
    | pointer a => cases a with
      | none => exact .fail _ _ _
      | some a =>
        simp only
        cases arrN P t with
        | none => exact .fail _ _ _
        | some p =>
          simp only
          cases Nat.ble p.1 1
          · exact indexAddrB_quiet A B a p.1 p.2 i
          · exact .fail _ _ _
    | slice a n c =>
      simp only
      cases elemA P t with
      | none => exact .fail _ _ _
      | some e => cases a with
        | none => exact .pan _ _ _ _ _
        | some a => exact indexAddrB_quiet A B a n e i
    | _ => exact .fail _ _ _
  | _ => exact .fail _ _ _
theorem index_quiet (A B : AW) (t : TypeId) (x ix : Value) : Quiet A B (indexA P A t x ix) (indexA P B t x ix) := by
  cases ix with
  | int k i =>
    unfold indexA
    simp only
    cases x with
    | agg cs =>
      simp only
      unfold indexArr
      cases arrN P t with
      | none => exact .fail _ _ _
      | some p =>
        simp only
        cases idxIn i p.1 with
        | none => exact .pan _ _ _ _ _
        | some i =>
          simp only
          cases szOf P p.2 with
          | none => exact .fail _ _ _
          | some s => exact .vR _ _ _
    | string s =>
      simp only
      cases P.underlying t with
      | none => exact .fail _ _ _
      | some d =>
        cases d <;> first | exact .fail _ _ _ | skip
        simp only
        unfold indexStr
        cases i with
        | ofNat k =>
          simp only
          cases nth (bytesOf s) k with
          | none => exact .pan _ _ _ _ _
          | some b => exact .val _ _ _
        | negSucc k => exact .pan _ _ _ _ _
    | _ => exact .fail _ _ _
  | _ => exact .fail _ _ _
theorem assertFails_quiet (A B : AW) (t : TypeId) (ok : Bool) : Quiet A B (assertFails P A t ok) (assertFails P B t ok) := by
  unfold assertFails
  cases ok
  · exact .fail _ _ _
  · simp only [cond_true]
    cases zeroA P t with
    | none => exact .fail _ _ _
    | some z => exact .val _ _ _
theorem typeAssert_quiet (A B : AW) (t : TypeId) (ok : Bool) (x : Value) : Quiet A B (typeAssertA P A t ok x) (typeAssertA P B t ok x) := by
  unfold typeAssertA
  cases isIface P t with
  | none => exact .fail _ _ _
  | some b =>
    cases b
    · simp only [cond_false]
      cases x with
      | iface d y =>
        simp only
        cases Nat.beq d t
        · exact assertFails_quiet A B t ok
        · exact .val _ _ _
      | nilIface => exact assertFails_quiet A B t ok
      | _ => exact .fail _ _ _
    · exact .fail _ _ _
theorem extract_quiet (A B : AW) (x : Value) (i : Nat) : Quiet A B (extractA A x i) (extractA B x i) := by
  cases x <;> first | exact .vR _ _ _ | exact .fail _ _ _
theorem convInt_quiet (A B : AW) {s d : TypeId} {k : IntKind} (hd : P.underlying d = some (.int k)) (x : Value) : Quiet A B (convertA P A s d x) (convertA P B s d x) := by
  unfold convertA
  rw [hd]
  cases P.underlying s with
  | none => exact .fail _ _ _
  | some sd =>
    simp only [convTo, convInt]
    cases x <;> first | exact .val _ _ _ | exact .fail _ _ _
theorem min_quiet (A B : AW) (l : List Value) : Quiet A B (minB A l) (minB B l) := by
  cases l with
  | nil => exact .fail _ _ _
  | cons v l => cases v <;> first | exact .vR _ _ _ | exact .fail _ _ _
theorem max_quiet (A B : AW) (l : List Value) : Quiet A B (maxB A l) (maxB B l) := by
  cases l with
  | nil => exact .fail _ _ _
  | cons v l => cases v <;> first | exact .vR _ _ _ | exact .fail _ _ _
theorem cap_quiet (A B : AW) (ts : List TypeId) (l : List Value) : Quiet A B (cap1 P A ts l) (cap1 P B ts l) := by
  cases ts with
  | nil => exact .fail _ _ _
  | cons t ts => cases l with
    | nil => exact .fail _ _ _
    | cons x l =>
      show Quiet A B (capB P A t x) (capB P B t x)
      unfold capB
      cases P.underlying t with
      | none => exact .fail _ _ _
      | some d =>
        cases d <;> first | exact .fail _ _ _ | skip
        simp only
        cases x <;> first | exact .fail _ _ _ | skip
        rename_i a n c
        cases a <;> first | exact .val _ _ _ | exact .fail _ _ _
theorem sliceData_quiet (A B : AW) (l : List Value) : Quiet A B (sliceData1 A l) (sliceData1 B l) := by
  cases l with
  | nil => exact .fail _ _ _
  | cons x l => cases l with
    | cons y l => exact .fail _ _ _
    | nil =>
      show Quiet A B (sliceDataB A x) (sliceDataB B x)
      unfold sliceDataB
      cases x <;> first | exact .fail _ _ _ | skip
      rename_i a n c
      cases a with
      | none => exact .val _ _ _
      | some a =>
        simp only
        cases Nat.beq c 0 <;> first | exact .val _ _ _ | exact .fail _ _ _
theorem binW_quiet (A B : AW) {op : BinOp} (h : kindE op = 0) (ty : TypeId) (c : Bool) (x y : Value) : Quiet A B ((binW P op ty c).val x y A) ((binW P op ty c).val x y B) := by
  cases op <;> first | (cases h; done) | exact .vR _ _ _
theorem quiet_op {o : Op} (h : kindOf P o = 0) (ty : TypeId) (t : Tm) (A B : AW) : Quiet A B ((opS P ty o).val t A) ((opS P ty o).val t B) := by
  cases o with
  | move x => exact .val _ _ _
  | assign x => exact .val _ _ _
  | pick c a b => exact pick_quiet A B _ _ _
  | build ty parts => exact build_quiet A B ty _
  | nilCheck x => exact nilCheck_quiet A B _
  | binOp op ty x y yt => exact binW_quiet A B h ty _ _ _
  | unOp op ty x => exact .vR _ _ _
  | convert s d x =>
    have hk : ∃ k, P.underlying d = some (.int k) := by
      unfold kindOf at h
      simp only at h
      split at h
      · rename_i k hk; exact ⟨k, hk⟩
      · cases h
    obtain ⟨k, hk⟩ := hk
    exact convInt_quiet A B hk _
  | makeInterface ty x => exact iface_quiet A B ty _
  | makeFunc fn a b => cases fn <;> first | exact .val _ _ _ | exact .fail _ _ _
  | fieldAddr s x f => exact fieldAddr_quiet A B s f _
  | field ty x f => exact field_quiet A B ty f _
  | indexAddr ty x i => exact indexAddr_quiet A B ty _ _
  | index ty x i => exact index_quiet A B ty _ _
  | typeAssert x xt ty ok => exact typeAssert_quiet A B ty ok _
  | extract x i => exact extract_quiet A B _ i
  | call c =>
    obtain ⟨callee, args, ats⟩ := c
    cases callee with
    | builtin b =>
      cases b <;> first | (cases h; done) | skip
      · exact cap_quiet A B _ _
      · exact max_quiet A B _
      · exact min_quiet A B _
      · exact sliceData_quiet A B _
    | _ => cases h
  | _ => cases h
end Go.Sh
