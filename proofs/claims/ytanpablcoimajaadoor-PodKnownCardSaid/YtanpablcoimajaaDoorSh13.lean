/- Part of a proof by a machine of ones own: see the text with the theorem. -/
import Derived.Test.YtanpablcoimajaaDoorSh12
namespace Go.Sh
open Go
variable {P : Program} {φ : Inj} {A : AW} {w : World}

/-! entries that the model has for functions without a body -/
theorem next_noEscape (fn : Func) (h : fn.name = "internal/abi.NoEscape") (ho : fn.origin = "") : Extern.findNext fn = none := by
  cases fn; simp only at h ho; subst h ho; kernel_rfl
theorem find_noEscape (fn : Func) (h : fn.name = "internal/abi.NoEscape") (ho : fn.origin = "") : Extern.find fn = some Extern.AbiNoEscape.same := by
  cases fn; simp only at h ho; subst h ho; kernel_rfl
theorem next_makeNoZero (fn : Func) (h : fn.name = "internal/bytealg.MakeNoZero") (ho : fn.origin = "") : Extern.findNext fn = none := by
  cases fn; simp only at h ho; subst h ho; kernel_rfl
theorem find_makeNoZero (fn : Func) (h : fn.name = "internal/bytealg.MakeNoZero") (ho : fn.origin = "") : Extern.find fn = some (Extern.BytealgMakeNoZero.makeNoZero fn.params fn.resultTypes) := by
  cases fn; simp only at h ho; subst h ho; kernel_rfl
theorem next_indexByte (fn : Func) (h : fn.name = "internal/bytealg.IndexByteString") (ho : fn.origin = "") : Extern.findNext fn = none := by
  cases fn; simp only at h ho; subst h ho; kernel_rfl
theorem find_indexByte (fn : Func) (h : fn.name = "internal/bytealg.IndexByteString") (ho : fn.origin = "") : Extern.find fn = some Extern.BytealgIndexByte.indexByte := by
  cases fn; simp only at h ho; subst h ho; kernel_rfl
/-- the program has no function of this name -/
def NoCount (P : Program) : Prop := ∀ (f : Nat) (fn : Func), P.funcs[f]? = some fn → (fn.name == "runtime.NumGoroutine") = false
theorem noEscape_ok (hM : MR P φ A w) {args args' : List Value} (ha : LR φ args args') : OpOk P φ A w (noEscapeA A args) ((do pure (.value (← Extern.AbiNoEscape.same ⟨args'⟩) : Next) : Sem Next).run P w) := by
  cases ha with
  | nil => exact trivial
  | cons h k =>
    cases k with
    | nil => exact OpOk.same hM h (run_v rfl)
    | cons => exact trivial
theorem digits_single : ∀ (n t : Nat) (acc : Array Value), (∀ v ∈ acc.toList, single v = true) → ∀ v ∈ (Extern.BytealgMakeNoZero.digits n t acc).toList, single v = true
  | 0, _, _, h => h
  | n + 1, t, acc, h => digits_single n (t / 256) _ (by
      intro v hv
      rw [Array.toList_push, List.mem_append] at hv
      rcases hv with hv | hv
      · exact h v hv
      · simp at hv; subst hv; rfl)
theorem unk_LR : ∀ {l : List Value}, (∀ v ∈ l, single v = true) → LR φ (repl [unk] l.length) l
  | [], _ => .nil
  | v :: _, h => .cons (.unk (h v (List.mem_cons_self ..))) (unk_LR fun u hu => h u (List.mem_cons_of_mem _ hu))
theorem makeNoZero_ok (hM : MR P φ A w) (ps res : Array TypeId) {args args' : List Value} (ha : LR φ args args') : OpOk P φ A w (makeNoZeroA P A res.toList args) ((do pure (.value (← Extern.BytealgMakeNoZero.makeNoZero ps res ⟨args'⟩) : Next) : Sem Next).run P w) := by
  unfold makeNoZeroA
  cases hres : res.toList with
  | nil => exact trivial
  | cons t ts =>
    have h0 : res[0]? = some t := by rw [← Array.getElem?_toList, hres]; rfl
    cases ha with
    | nil => exact trivial
    | cons h k =>
      cases k with
      | cons => exact trivial
      | nil =>
        cases h with
        | int kk n =>
          cases kk with
          | i64 =>
            cases n with
            | negSucc n => exact trivial
            | ofNat n =>
              simp only [makeNoZeroB]
              cases he : elemA P t with
              | none => exact trivial
              | some e =>
                have hu := elemA_some he
                simp only
                cases hc : (Nat.ble n 1000000 && sz1 P e) with
                | false => exact trivial
                | true =>
                  simp only [Bool.and_eq_true] at hc
                  have hn := Nat.le_of_ble_eq_true hc.1
                  have hs := sz1_some hc.2
                  simp only [cond_true]
                  obtain ⟨cap, hcap, hch⟩ := run_choose_cap (P := P) n e w
                  obtain ⟨q, x1, x2, x3, hq, hdef⟩ : ∃ (q : Question) (x1 x2 : Sem Value) (x3 : Sem PUnit), q.forced = false ∧ Extern.BytealgMakeNoZero.makeNoZero ps res ⟨[Value.int .i64 (Int.ofNat n)]⟩ =
                      (do
                        let some t := res[0]? | x1
                        let .slice elem ← underlying t | x2
                        if (Int.ofNat n) < 0 || (Int.ofNat n) > 2 ^ 48 then x3
                        let cap ← choose (.appendCap (Int.ofNat n).toNat 0 elem)
                        askRoom cap
                        let bytes ← choose q
                        let a ← newRow elem (Extern.BytealgMakeNoZero.digits cap bytes #[])
                        pure (.slice (some a) (Int.ofNat n).toNat cap)) := ⟨_, _, _, _, by rfl, rfl⟩
                  obtain ⟨bytes, hby⟩ : ∃ b, (choose q).run P { w with drawn := w.drawn + 1 } = .ok b { w with drawn := w.drawn + 1 + 1 } := ⟨_, by rw [run_choose, hq]; rfl⟩
                  generalize hds : (Extern.BytealgMakeNoZero.digits cap bytes #[]) = ds
                  have hsz : ds.size = cap := by rw [← hds, Lib.size_digits]; simp
                  have hsing : ∀ v ∈ ds.toList, single v = true := by rw [← hds]; exact digits_single _ _ _ (by simp)
                  have n1 : ¬ ((n : Int) < 0 ∨ (n : Int) > 2 ^ 48) := by omega
                  have hrun : (Extern.BytealgMakeNoZero.makeNoZero ps res ⟨[Value.int .i64 (Int.ofNat n)]⟩).run P w = .ok (.slice (some ⟨w.heap.size, 0, none⟩) n cap) (({ w with drawn := w.drawn + 1 + 1 } : World).alloc (.cells ds e)) := by
                    rw [hdef]
                    simp only [h0, Sem.run_bind, run_underlying' hu, Result.andThen_ok]
                    simp only [Int.ofNat_eq_natCast, Int.toNat_natCast, decide_eq_true_eq, Bool.or_eq_true, if_neg n1, Sem.run_bind, hch, Result.andThen_ok, run_askRoom, hby, hds, run_newRow, Sem.run_pure]
                  have hex : ds = ⟨ds.toList.take n ++ ds.toList.drop n⟩ := by apply Array.ext'; simp
                  have hlen : (ds.toList.take n).length = n := by simp; omega
                  obtain ⟨φ', r1, r2, r3, r4⟩ := newCells (hM.drawn (w.drawn + 1 + 1)) (e := e) (c := repl [unk] n) (cc := ds.toList.take n) (by
                    have := unk_LR (φ := φ) (l := ds.toList.take n) (fun v hv => hsing v (List.mem_of_mem_take hv))
                    rw [hlen] at this
                    simpa using this) (ds.toList.drop n) (fz := (0, 0)) (fun off _ => by simp)
                  rw [hex] at hrun
                  refine ⟨φ', _, r1, (Ext.drawn w _).trans r2, .inl ⟨_, run_v hrun, new_row r4 (Nat.le_refl _) hcap ?_⟩⟩
                  rw [hs]
                  simp only [Option.getD_some, List.take_append_drop, Array.length_toList, hsz]
                  omega
          | _ => exact trivial
        | _ => exact trivial
theorem idxByte_eq (s : ByteArray) (c : UInt8) : ∀ (l pre : List UInt8), s.data.toList = pre ++ l →
    idxByte c.toNat l pre.length = match (List.range' pre.length l.length).find? fun i => s[i]! == c with
      | some i => (i : Int)
      | none => -1
  | [], pre, _ => rfl
  | b :: l, pre, h => by
    have hb : s[pre.length]! = b := by
      have h1 : pre.length < s.size := by
        show pre.length < s.data.size
        rw [← Array.length_toList, h]; simp
      have h2 : s.data.toList[pre.length]? = some b := by rw [h]; simp
      rw [getElem!_pos s pre.length h1]
      show s.data[pre.length] = b
      rw [Array.getElem?_toList, Array.getElem?_eq_getElem (show pre.length < s.data.size from h1)] at h2
      injection h2
    simp only [idxByte, List.length_cons, List.range'_succ, List.find?_cons, hb]
    have hbc : Nat.beq b.toNat c.toNat = (b == c) := by
      by_cases e : b = c
      · subst e; simp
      · have : ¬ b.toNat = c.toNat := fun h => e (UInt8.toNat_inj.1 h)
        have h1 : Nat.beq b.toNat c.toNat = false := by
          cases hq : Nat.beq b.toNat c.toNat with
          | false => rfl
          | true => exact absurd (Nat.eq_of_beq_eq_true hq) this
        rw [h1, beq_eq_false_iff_ne.2 e]
    rw [hbc]
    cases hq : (b == c) with
    | true => rfl
    | false =>
      simp only [cond_false]
      have := idxByte_eq s c l (pre ++ [b]) (by rw [h]; simp)
      simpa using this
theorem indexByte_ok (hM : MR P φ A w) {args args' : List Value} (ha : LR φ args args') : OpOk P φ A w (indexByteA A args) ((do pure (.value (← Extern.BytealgIndexByte.indexByte ⟨args'⟩) : Next) : Sem Next).run P w) := by
  cases ha with
  | nil => exact trivial
  | cons h k =>
    cases k with
    | nil => exact trivial
    | cons h2 k =>
      cases k with
      | cons => exact trivial
      | nil =>
        cases h with
        | string s =>
          simp only [indexByteA, indexByteB]
          cases h2 with
          | int kk c =>
            cases kk with
            | u8 =>
              refine OpOk.same hM (.int _ _) (run_v ?_)
              rw [run_indexByte_string]
              have := idxByte_eq s c.toNat.toUInt8 s.data.toList [] rfl
              simp only [List.length_nil] at this
              simp only [bytesOf, this, firstIdx, List.range_eq_range']
              rfl
            | _ => exact trivial
          | _ => exact trivial
        | _ => exact trivial
/-! a function is called -/
theorem bodyOf_some {f : FuncId} {p : Func × Option Code} (h : bodyOf P f = some p) : P.funcs[f]? = some p.1 ∧ p.2 = p.1.body := by
  unfold bodyOf fnOf at h
  rw [nth_eq] at h
  cases hf : P.funcs.toList[f]? with
  | none => rw [hf] at h; cases h
  | some fn =>
    rw [hf] at h
    cases h
    exact ⟨by rw [← Array.getElem?_toList]; exact hf, rfl⟩
theorem extern_ok (hP : NoCount P) {f : FuncId} {fn : Func} (hf : P.funcs[f]? = some fn) (hb : fn.body = none) {e : Array Value → Sem Value} (hn : Extern.findNext fn = none) (he : Extern.find fn = some e) {args' : List Value} {y : R}
    (h : OpOk P φ A w y ((do pure (.value (← e ⟨args'⟩) : Next) : Sem Next).run P w)) : OpOk P φ A w y ((callFunc f ⟨args'⟩).run P w) := by
  rw [run_callFunc_extern hf (hP f fn hf) (by rw [hb]; rfl) hn he]
  rw [Sem.run_bind] at h
  exact h
theorem callFn_ok (hP : NoCount P) (hM : MR P φ A w) (f : FuncId) {args args' : List Value} (ha : LR φ args args') : OpOk P φ A w (callFn P A f args) ((callFunc f ⟨args'⟩).run P w) := by
  unfold callFn
  cases hb : bodyOf P f with
  | none => exact trivial
  | some p =>
    obtain ⟨hf, h2⟩ := bodyOf_some hb
    have hname := hP f p.1 hf
    have h1 : p.1.name ≠ "runtime.NumGoroutine" := by simpa using hname
    simp only
    cases h3 : p.2 with
    | some c =>
      rw [h3] at h2
      exact ⟨rfl, args', by simp [callFunc, hf, h1, ← h2], ha⟩
    | none =>
      rw [h3] at h2
      simp only [externA]
      cases ho : (p.1.origin == "") with
      | false => exact trivial
      | true =>
        have ho : p.1.origin = "" := by simpa using ho
        simp only [cond_true, externB]
        cases q1 : (p.1.name == "internal/abi.NoEscape") with
        | true =>
          have q1 : p.1.name = "internal/abi.NoEscape" := by simpa using q1
          exact extern_ok hP hf h2.symm (next_noEscape _ q1 ho) (find_noEscape _ q1 ho) (noEscape_ok hM ha)
        | false =>
          simp only [cond_false]
          cases q2 : (p.1.name == "internal/bytealg.MakeNoZero") with
          | true =>
            have q2 : p.1.name = "internal/bytealg.MakeNoZero" := by simpa using q2
            exact extern_ok hP hf h2.symm (next_makeNoZero _ q2 ho) (find_makeNoZero _ q2 ho) (makeNoZero_ok hM _ _ ha)
          | false =>
            simp only [cond_false]
            cases q3 : (p.1.name == "internal/bytealg.IndexByteString") with
            | true =>
              have q3 : p.1.name = "internal/bytealg.IndexByteString" := by simpa using q3
              exact extern_ok hP hf h2.symm (next_indexByte _ q3 ho) (find_indexByte _ q3 ho) (indexByte_ok hM ha)
            | false => exact trivial

/-! strings out of rows -/
theorem run_loadBytes : ∀ (ns : List Int) (a : Addr) (acc : ByteArray), (∀ j v, (ns.map (Value.int .u8))[j]? = some v → w.cell? (a.add j) = some v) →
    (Go.loadBytes a acc ns.length).run P w = .ok (ns.foldl (fun r n => r.push (UInt8.ofNat n.toNat)) acc) w
  | [], a, acc, _ => rfl
  | n :: ns, a, acc, h => by
    have h0 := h 0 (.int .u8 n) rfl
    have e0 : a.add 0 = a := rfl
    rw [e0] at h0
    have hr := run_loadBytes ns (a.add 1) (acc.push (UInt8.ofNat n.toNat)) (fun j v hv => by
      have := h (j + 1) v hv
      have e1 : (a.add 1).add j = a.add (j + 1) := by
        cases a; simp [Addr.add, Nat.add_assoc, Nat.add_comm 1]
      rw [e1]; exact this)
    simp only [List.length_cons, Go.loadBytes, Sem.run_bind, run_load, h0, Result.andThen_ok, List.foldl_cons]
    exact hr
theorem byteT_some {t e : TypeId} (h : byteT P t = some e) : P.underlying t = some (.pointer e) ∧ szOf P e = some 1 := by
  unfold byteT at h
  split at h
  · rename_i e' hu
    cases hs : sz1 P e' with
    | false => rw [hs] at h; cases h
    | true => rw [hs] at h; cases h; exact ⟨hu, sz1_some hs⟩
  · cases h
theorem string1_ok (hM : MR P φ A w) (ts : Array TypeId) (ty : TypeId) {args args' : List Value} (ha : LR φ args args') :
    OpOk P φ A w (string1 P A ts.toList args) ((do pure (.value (← Builtin.unsafeString_ ts ty ⟨args'⟩) : Next) : Sem Next).run P w) := by
  unfold string1
  cases hts : ts.toList with
  | nil => exact trivial
  | cons t ts' =>
    have h0 : ts[0]? = some t := by rw [← Array.getElem?_toList, hts]; rfl
    cases ha with
    | nil => exact trivial
    | cons h k =>
      cases k with
      | nil => exact trivial
      | cons h2 k =>
        cases k with
        | cons => exact trivial
        | nil =>
          rename_i p p' n n'
          simp only
          obtain ⟨x1, x2, x3, x4, x5, hdef⟩ : ∃ (x1 : Sem Value) (x2 x3 : Sem PUnit) (x4 x5 : Sem Value), ∀ p n, Builtin.unsafeString_ ts ty ⟨[Value.pointer p, n]⟩ = (do
              let n ← asInt n
              let some pt := ts[0]? | x1
              if n < 0 then x2
              if n > IntKind.i64.max then x3
              match p with
              | none =>
                if n = 0 then pure (.string .empty)
                else x4
              | some a =>
                if n = 0 then pure (.string .empty)
                else if ← variablesAt a (← elemOf pt) n.toNat then do
                  let s ← Go.loadBytes a .empty n.toNat
                  freeze a n.toNat
                  pure (.string s)
                else x5) := ⟨_, _, _, _, _, fun _ _ => rfl⟩
          have hint : ∀ (k : IntKind) (m : Int), (asInt (.int k m)).run P w = .ok m w := fun _ _ => rfl
          cases h with
          | ptrNil =>
            cases h2 with
            | int kk m =>
              cases m with
              | negSucc m => exact trivial
              | ofNat m =>
                simp only [stringB, stringC]
                cases hm : Nat.ble m 1000000 with
                | false => exact trivial
                | true =>
                  simp only [cond_true]
                  cases hz : Nat.beq m 0 with
                  | false => exact trivial
                  | true =>
                    have hz := Nat.eq_of_beq_eq_true hz
                    subst hz
                    refine OpOk.same hM (.string _) (run_v ?_)
                    rw [hdef]
                    simp [h0, hint, empty_string]
            | _ => exact trivial
          | ptr had =>
            rename_i a a'
            cases h2 with
            | int kk m =>
              cases m with
              | negSucc m => exact trivial
              | ofNat m =>
                simp only [stringB, stringC]
                cases hm : Nat.ble m 1000000 with
                | false => exact trivial
                | true =>
                  have hm := Nat.le_of_ble_eq_true hm
                  have n1 : ¬ ((m : Int) < 0) := by omega
                  have n2 : ¬ ((m : Int) > IntKind.i64.max) := by rw [IntKind.max_i64]; omega
                  simp only [cond_true]
                  cases hz : Nat.beq m 0 with
                  | true =>
                    have hz := Nat.eq_of_beq_eq_true hz
                    subst hz
                    refine OpOk.same hM (.string _) (run_v ?_)
                    rw [hdef]
                    simp [h0, hint, empty_string]
                  | false =>
                    have hz0 : m ≠ 0 := by rintro rfl; simp at hz
                    have hz1 : ¬ ((m : Int) = 0) := by omega
                    simp only [cond_false]
                    cases hb : byteT P t with
                    | none => exact trivial
                    | some e =>
                      obtain ⟨hu, hs⟩ := byteT_some hb
                      simp only [freezeA]
                      cases hg : A.heap.get a.block with
                      | none => exact trivial
                      | some o =>
                        cases o with
                        | cells c e' ro =>
                          simp only
                          cases hee : Nat.beq e e' with
                          | false => exact trivial
                          | true =>
                            have hee := Nat.eq_of_beq_eq_true hee
                            subst hee
                            simp only [cond_true, freezeO, lenL0, takeL_eq, dropL_eq]
                            cases hcd : (Nat.ble A.lim a.block && Nat.ble (a.off + m) c.length) with
                            | false => exact trivial
                            | true =>
                              simp only [Bool.and_eq_true] at hcd
                              have hlim := Nat.le_of_ble_eq_true hcd.1
                              have hl := Nat.le_of_ble_eq_true hcd.2
                              simp only [cond_true, strR]
                              cases hst : strOfCells ((c.drop a.off).take m) with
                              | none => exact trivial
                              | some bs =>
                                obtain ⟨cc, fz, n, sz, dd, g1, g2, g3, g4, g5⟩ := hM.cells had hg
                                obtain ⟨ns, h4, h5⟩ := strOfCells_ok (g5.part a.off m hl) hst
                                have hfit := g5.fits
                                have hsz := g5.size
                                have hnl : ns.length = m := by
                                  have := congrArg List.length h4
                                  simp only [List.length_take, List.length_drop, List.length_map] at this
                                  omega
                                have hv := run_variablesAt (P := P) (a := a') (k := a'.off) (n := m) g4 (cellsOf_szOf hs) (by omega) (by omega) (by simp; omega)
                                have hcell : ∀ j v, (ns.map (Value.int .u8))[j]? = some v → w.cell? (a'.add j) = some v := fun j v hj => by
                                  rw [← h4] at hj
                                  have hq := (List.getElem?_eq_some_iff.1 hj).1
                                  rw [add_of_none g3, cell_lit g4, g2]
                                  rw [List.getElem?_take_of_lt (by simp at hq; omega), List.getElem?_drop] at hj
                                  simpa [Nat.add_comm, Nat.add_left_comm, Nat.add_assoc] using hj
                                have hld := run_loadBytes (P := P) ns a' .empty hcell
                                rw [hnl, foldl_push, h5] at hld
                                have hfr : w.freeze a' m = setBlk w a'.block (.cells ⟨cc⟩ e (frz fz a'.off m)) := by
                                  have := freeze_eq (off := a'.off) (sp := none) g4 hz0
                                  rw [← this]
                                  congr 1
                                  cases a'; simp_all
                                have hset := hM.set (o := .cells c e true) (oc := .cells ⟨cc⟩ e (frz fz a'.off m)) g1 hlim (n' := n) (s' := sz) (d' := dd) ⟨_, _, _, rfl, ⟨rfl, g5.size, g5.unit, g5.fits, g5.cells, (fun h => by cases h), g5.mult⟩⟩ ⟨rfl, rfl, rfl⟩
                                refine ⟨φ, _, hset.1, hset.2, .inl ⟨_, run_v ?_, .string _⟩⟩
                                rw [hdef]
                                simp only [h0, Sem.run_bind, hint, Int.ofNat_eq_natCast, Result.andThen_ok, if_neg n1, if_neg n2, if_neg hz1, Sem.run_pure, elemOf, run_underlying' hu, Int.toNat_natCast, hv, if_true, hld, run_freeze, hfr]
                                rfl
                        | _ => exact trivial
            | _ => exact trivial
          | _ => exact trivial
end Go.Sh
