/- Part of a proof by a machine of ones own: see the text with the theorem. -/
import Derived.Test.YtanpablcoimajaaDoorSh39
import Derived.Lib.LaidTab
import Derived.ChangeSame
set_option linter.unusedVariables false
set_option linter.unusedSimpArgs false
namespace Go.Sh
open Go Go.ChangeShapes
variable {P : Program}

/-! ## From a row's list of variables -/
theorem laidVars_mem {W : World} {n : String} {d : DataW Unit} : ∀ {laid : List (String × DataW Unit)} {ps : List MemPlace}, DataW.LaidVars P W laid ps → (n, d) ∈ laid →
    ∃ g t cs fuel p, P.globalNamed n = some g ∧ (P.globals[g]?).map (·.type) = some t ∧ W.var? P n = some cs ∧ DataW.trod (fun _ => ()) P W 0 (fun _ => true) false fuel t cs.toList = some (d, p)
  | [], _, _, h => by cases h
  | x :: r, ps, hL, h => by
    obtain ⟨g, t, cs, fuel, p, q, h1, h2, h3, h4, h5, _⟩ := hL
    rcases List.mem_cons.1 h with h | h
    · subst h; exact ⟨g, t, cs, fuel, p, h1, h2, h3, h4⟩
    · exact laidVars_mem h5 h
theorem laid_mem {W : World} {n : String} {d : DataW Unit} {laid : List (String × DataW Unit)} (hL : laidMet P laid W) (h : (n, d) ∈ laid) {g : Nat} {t : TypeId} (hg : P.globalNamed n = some g) (ht : (P.globals[g]?).map (·.type) = some t) :
    ∃ cs fuel p, W.var? P n = some cs ∧ DataW.trod (fun _ => ()) P W 0 (fun _ => true) false fuel t cs.toList = some (d, p) := by
  obtain ⟨ps, hps, _⟩ := hL
  obtain ⟨g', t', cs, fuel, p, h1, h2, h3, h4⟩ := laidVars_mem hps h
  rw [hg] at h1; cases h1
  rw [ht] at h2; cases h2
  exact ⟨cs, fuel, p, h3, h4⟩
theorem var_heap {W : World} {n : String} {g : Nat} {cs : Array Value} (hg : P.globalNamed n = some g) (h : W.var? P n = some cs) : ∃ t fz, W.heap[g]? = some (.cells cs t fz) := by
  unfold World.var? at h
  rw [hg] at h
  simp only [Option.bind_some] at h
  split at h
  · rename_i c t fz hc; cases h; exact ⟨t, fz, hc⟩
  · cases h
/-- the block of a variable, as the program's start lays it -/
def RowOf (P : Program) (g : Nat) (n : Nat) (t : TypeId) : Prop := ∃ zero, ((begin P (fun _ _ => 0) default).world.heap[g]?).bind Obj.row? = some (zero, t) ∧ zero.size = n
theorem RowOf.of {g n : Nat} {t : TypeId} (h : (((begin P (fun _ _ => 0) default).world.heap[g]?).bind Obj.row?).map (fun x => (x.1.size, x.2)) = some (n, t)) : RowOf P g n t := by
  obtain ⟨⟨z, u⟩, h1, h2⟩ := Option.map_eq_some_iff.1 h
  simp only [Prod.mk.injEq] at h2
  obtain ⟨rfl, rfl⟩ := h2
  exact ⟨z, h1, rfl⟩
theorem shape_heap {W : World} (hs : W.ShapedOpen P) {g n : Nat} {t : TypeId} (hg : g < P.globals.size) (h : RowOf P g n t) : ∃ cs, W.heap[g]? = some (.cells cs t) ∧ cs.size = n := by
  obtain ⟨zero, h1, h2⟩ := h
  obtain ⟨cs, h3, h4, _⟩ := hs.1 g zero t hg h1
  exact ⟨cs, h3, h4.trans h2⟩
theorem ints_LR {φ : Inj} (k : IntKind) : ∀ zs : List Int, LR φ (zs.map fun z => Value.int k z) (zs.map fun z => Value.int k z)
  | [] => .nil
  | _ :: zs => .cons (.int _ _) (ints_LR k zs)
/-- a table of integers -/
theorem laid_tab {W : World} (hs : W.ShapedOpen P) {laid : List (String × DataW Unit)} (hL : laidMet P laid W) {n : String} {k : IntKind} {zs : List Int} (hm : (n, Lib.tabData k zs) ∈ laid) {g : Nat} {t e : TypeId} {m : Nat} {t' : TypeId} (hg : P.globalNamed n = some g) (hlt : g < P.globals.size)
    (ht : (P.globals[g]?).map (·.type) = some t) (hu : P.underlying t = some (.array m e)) (he : P.underlying e = some (.int k)) (hce : P.cellsOf e = 1) (hct : P.cellsOf t = m) (hr : RowOf P g m t') :
    g < P.globals.size ∧ ∃ cc, W.heap[g]? = some (.cells ⟨cc⟩ t') ∧ ∀ φ, LR φ (zs.map fun z => Value.int k z) cc := by
  obtain ⟨cs, fuel, p, h1, h2⟩ := laid_mem hL hm hg ht
  obtain ⟨t1, fz, h3⟩ := var_heap hg h1
  obtain ⟨cs', h4, _⟩ := shape_heap hs hlt hr
  rw [h3] at h4
  injection h4 with h4
  injection h4 with e1 e2 e3
  subst e1 e2 e3
  have e := Lib.cells_of_tab hu he hce hct h2
  obtain ⟨cs⟩ := cs
  simp only at e
  subst e
  exact ⟨hlt, _, h3, fun φ => ints_LR k zs⟩
/-- a struct of two integers -/
theorem cells_of_struct2 {W : World} {fuel : Nat} {t : TypeId} {cs : List Value} {fs : Array Field} {f0 f1 : Field} {k0 k1 : IntKind} {z0 z1 : Int} {p : List MemPlace} (ht : P.underlying t = some (.struct fs)) (hfs : fs.toList = [f0, f1])
    (h0 : P.underlying f0.type = some (.int k0)) (h1 : P.underlying f1.type = some (.int k1)) (o0 : f0.offset = 0) (o1 : f1.offset = 1) (c0 : P.cellsOf f0.type = 1) (c1 : P.cellsOf f1.type = 1) (ct : P.cellsOf t = 2)
    (h : DataW.trod (fun _ => ()) P W 0 (fun _ => true) false fuel t cs = some (.agg [.lit (.int k0 z0), .lit (.int k1 z1)], p)) : cs = [.int k0 z0, .int k1 z1] := by
  cases fuel with
  | zero => simp [DataW.trod] at h
  | succ fuel =>
    simp only [DataW.trod, ht, ct, hfs] at h
    split at h
    · rename_i hl
      obtain ⟨xs, hm, hx⟩ := Option.map_eq_some_iff.1 h
      simp only [List.mapM_cons, List.mapM_nil, Option.bind_eq_bind, Option.bind_eq_some_iff, Option.pure_def, Option.some.injEq, o0, o1, c0, c1] at hm
      obtain ⟨x0, hx0, r1, ⟨x1, hx1, r2, rfl, rfl⟩, rfl⟩ := hm
      obtain ⟨n0, e0, rfl, _⟩ := DataW.trod_int h0 hx0
      obtain ⟨n1, e1, rfl, _⟩ := DataW.trod_int h1 hx1
      simp only [List.map_cons, List.map_nil, Prod.mk.injEq, DataW.agg.injEq, List.cons.injEq, DataW.lit.injEq, Lit.int.injEq, true_and, and_true] at hx
      obtain ⟨⟨rfl, rfl⟩, _⟩ := hx
      match cs, hl, e0, e1 with
      | [a, b], _, e0, e1 =>
        simp only [List.drop_zero, List.take_succ_cons, List.take_zero, List.cons.injEq, and_true, List.drop_succ_cons] at e0 e1
        rw [e0, e1]
    · cases h
theorem laid_struct2 {W : World} (hs : W.ShapedOpen P) {laid : List (String × DataW Unit)} (hL : laidMet P laid W) {n : String} {k0 k1 : IntKind} {z0 z1 : Int} (hm : (n, .agg [.lit (.int k0 z0), .lit (.int k1 z1)]) ∈ laid) {g : Nat} {t : TypeId} {t' : TypeId} (hg : P.globalNamed n = some g) (hlt : g < P.globals.size)
    (ht : (P.globals[g]?).map (·.type) = some t) {fs : Array Field} {f0 f1 : Field} (hu : P.underlying t = some (.struct fs)) (hfs : fs.toList = [f0, f1])
    (h0 : P.underlying f0.type = some (.int k0)) (h1 : P.underlying f1.type = some (.int k1)) (o0 : f0.offset = 0) (o1 : f1.offset = 1) (c0 : P.cellsOf f0.type = 1) (c1 : P.cellsOf f1.type = 1) (ct : P.cellsOf t = 2) (hr : RowOf P g 2 t') :
    g < P.globals.size ∧ ∃ cc, W.heap[g]? = some (.cells ⟨cc⟩ t') ∧ ∀ φ, LR φ [.int k0 z0, .int k1 z1] cc := by
  obtain ⟨cs, fuel, p, g1, g2⟩ := laid_mem hL hm hg ht
  obtain ⟨t1, fz, h3⟩ := var_heap hg g1
  obtain ⟨cs', h4, _⟩ := shape_heap hs hlt hr
  rw [h3] at h4
  injection h4 with h4
  injection h4 with e1 e2 e3
  subst e1 e2 e3
  have e := cells_of_struct2 hu hfs h0 h1 o0 o1 c0 c1 ct g2
  obtain ⟨cs⟩ := cs
  simp only at e
  subst e
  exact ⟨hlt, _, h3, fun φ => .cons (.int _ _) (.cons (.int _ _) .nil)⟩
/-- a variable of an interface type, whatever it holds -/
theorem laid_iface {W : World} (hs : W.ShapedOpen P) {laid : List (String × DataW Unit)} (hL : laidMet P laid W) {n : String} {d : DataW Unit} (hm : (n, d) ∈ laid) {g : Nat} {t : TypeId} {t' : TypeId} (hg : P.globalNamed n = some g) (hlt : g < P.globals.size)
    (ht : (P.globals[g]?).map (·.type) = some t) {ms : Array (String × TypeId)} (hu : P.underlying t = some (.interface ms)) (hr : RowOf P g 1 t') :
    g < P.globals.size ∧ ∃ cc, W.heap[g]? = some (.cells ⟨cc⟩ t') ∧ ∀ φ, LR φ [unk] cc := by
  obtain ⟨cs, fuel, p, g1, g2⟩ := laid_mem hL hm hg ht
  obtain ⟨t1, fz, h3⟩ := var_heap hg g1
  obtain ⟨cs', h4, h5⟩ := shape_heap hs hlt hr
  rw [h3] at h4
  injection h4 with h4
  injection h4 with e1 e2 e3
  subst e1 e2 e3
  obtain ⟨cs⟩ := cs
  have hsingle : ∃ v, cs = [v] ∧ single v = true := by
    cases fuel with
    | zero => simp [DataW.trod] at g2
    | succ fuel =>
      match cs, h5 with
      | [v], _ =>
        refine ⟨v, rfl, ?_⟩
        simp only [DataW.trod, hu] at g2
        cases v <;> first | rfl | (simp at g2)
  obtain ⟨v, rfl, hv⟩ := hsingle
  exact ⟨hlt, _, h3, fun φ => .cons (.unk hv) .nil⟩

/-! ## What is to be shown behind the call -/
theorem post_stays {H : Type} {enc : TypeId × Value → H} {f : Func} {s : ChangeSpec} {apart fresh handsOn again : Bool} {W W' : World} {args : Array Value} {v : Value} {ds gs : List (DataW H)} {before pa pv : List MemPlace}
    (hW : DataW.Whole enc P f.params.toList s.vars apart W args.toList ds gs before)
    (hres : ∀ (b : Nat) (sp : Nat → Bool) (hd : Bool), DataW.TrodAll enc P W' b sp hd f.resultTypes.toList (v.resultList f.resultTypes.size) (s.fn H (ds ++ gs)).results [])
    (hargs : ∀ sp : Nat → Bool, (∀ p ∈ before, sp p.block = true) → DataW.TrodAll enc P W' 0 sp true f.params.toList args.toList (s.fn H (ds ++ gs)).args pa)
    (hvars : ∀ sp : Nat → Bool, (∀ p ∈ before, sp p.block = true) → DataW.TrodVars enc P W' sp s.vars (s.fn H (ds ++ gs)).vars pv)
    (hps : before = pa ++ pv) (hk : Stays W W')
    (hok : ∀ (j : Nat) (t : TypeId) (r : Value), f.resultTypes[j]? = some t → (v.resultList f.resultTypes.size)[j]? = some r → Value.okWide P W' .any 0 t r) :
    s.post enc P f apart fresh handsOn again W args v W' := by
  have hold : ∀ p ∈ before, (fun b => decide (b < W.heap.size)) p.block = true := fun p hp => by simpa using hW.lt p hp
  have hlt : ∀ p ∈ before, p.block < W.heap.size := fun p hp => hW.lt p hp
  refine ⟨ds, gs, before, [], pa, pv, hW, hres _ _ _, hargs _ hold, hvars _ hold, World.keptBut_mono (fun p hp => ⟨hp, ?_⟩) (hk.kept (· ∈ before)), fun _ => ?_⟩
  · rw [hps, List.mem_append] at hp
    exact Or.inr hp
  · obtain ⟨_, _, _, _, _, hz, hn⟩ := hW
    refine ⟨hok, _, _, ([] ++ pa) ++ pv, ⟨[] ++ pa, pv, trodAll_append (hargs _ (fun _ _ => rfl)) (hres _ _ _), hvars _ (fun _ _ => rfl), rfl, ?_, ?_⟩, ?_⟩
    · intro b off hp
      have hp' : MemPlace.cell b off ∈ before := by rw [hps]; simpa using hp
      rw [hk.frozen (hlt _ hp')]
      exact hz b off hp'
    · intro ha
      have := hn ha
      rw [hps] at this
      simpa using this
    · intro p hp _
      rw [hps]
      simpa using hp
end Go.Sh
