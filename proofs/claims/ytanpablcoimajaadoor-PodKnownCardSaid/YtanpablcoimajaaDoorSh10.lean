/- Part of a proof by a machine of ones own: see the text with the theorem. -/
import Derived.Test.YtanpablcoimajaaDoorSh9
namespace Go.Sh
open Go
variable {P : Program} {φ : Inj} {A : AW} {w : World}

theorem copy_ok (hM : MR P φ A w) {ts : Array TypeId} {t : TypeId} (h0 : ts[0]? = some t) (ty : TypeId) {args : Array Value} {s s' x x' : Value}
    (ha0 : args[0]? = some s') (ha1 : args[1]? = some x') (hs : VR φ s s') (hx : VR φ x x') :
    OpOk P φ A w (copyV P A t s x) ((do pure (.value (← Builtin.copy_ ts ty args) : Next) : Sem Next).run P w) := by
  have key : ∀ (base base' : Option Addr) (n cap cap' : Nat), s = .slice base n cap → s' = .slice base' n cap' →
      ((base = none ∧ base' = none ∧ n = 0) ∨ (∃ a a', base = some a ∧ base' = some a' ∧ (n = 0 ∨ AddrR φ a a'))) →
      OpOk P φ A w (copyV P A t s x) ((do pure (.value (← Builtin.copy_ ts ty args) : Next) : Sem Next).run P w) := by
    rintro base base' n cap cap' rfl rfl hb
    unfold copyV
    simp only
    cases he : elemA P t with
    | none => exact trivial
    | some e =>
      have ht := elemA_some he
      simp only
      cases hsz : szOf P e with
      | none => exact trivial
      | some size =>
        simp only
        cases hl : lenA x with
        | none => exact trivial
        | some m =>
          simp only
          cases hsc : srcCells A size x with
          | none => exact trivial
          | some new =>
            simp only [lenL0]
            cases hc3 : Nat.beq new.length (m * size) with
            | false => exact trivial
            | true =>
              have hc3 := Nat.eq_of_beq_eq_true hc3
              obtain ⟨news, hnews, hlen, hfc⟩ := src_ok hM hx hl hsc hc3
              have hmin : minN m n = Nat.min m n := by
                unfold minN
                by_cases hh : m ≤ n
                · rw [Nat.ble_eq_true_of_le hh]; exact (Nat.min_eq_left hh).symm
                · have h7 : Nat.ble m n = false := by
                    cases h8 : Nat.ble m n with
                    | false => rfl
                    | true => exact absurd (Nat.le_of_ble_eq_true h8) hh
                  rw [h7]
                  exact (Nat.min_eq_right (Nat.le_of_not_le hh)).symm
              simp only [cond_true, hmin]
              obtain ⟨q, q1, q2⟩ := hfc w.drawn (Nat.min m n) (Nat.min_le_left _ _)
              have q1 : (Builtin.firstCells size (Nat.min m n) x').run P w = .ok q w := q1
              have hv : VR φ (intV (Nat.min m n)) (goInt (Nat.min m n : Nat)) := .int _ _
              rcases hb with ⟨rfl, rfl, hn0⟩ | ⟨a, a', rfl, rfl, hb⟩
              · simp only [copyTo]
                have h00 : Nat.min m n = 0 := by rw [hn0]; exact Nat.min_zero m
                rw [h00] at q1 q2 hv
                refine OpOk.same hM hv (run_v ?_)
                simp [Builtin.copy_, h0, ha0, ha1, run_underlying' ht, hlen, run_sizeOf hsz, hn0, q1]
              · simp only [copyTo, takeL_eq]
                cases hk : Nat.beq (Nat.min m n) 0 with
                | true =>
                  have hk := Nat.eq_of_beq_eq_true hk
                  rw [hk] at q1 q2 hv
                  have hq : q = #[] := Array.ext' (by rw [q2]; simp)
                  subst hq
                  have hk' : min m n = 0 := hk
                  refine OpOk.same hM hv (run_v ?_)
                  simp [Builtin.copy_, h0, ha0, ha1, run_underlying' ht, hlen, run_sizeOf hsz, hk', q1, storeCells]
                | false =>
                  simp only [cond_false]
                  cases hw : wr A a.block a.off (new.take (Nat.min m n * size)) with
                  | none => exact trivial
                  | some A' =>
                    simp only [wR]
                    have hlr := hnews.take (Nat.min m n * size)
                    rcases hb with hn | hadd
                    · subst hn
                      have h00 : Nat.min m 0 = 0 := Nat.min_zero m
                      rw [h00] at hk; cases hk
                    · obtain ⟨w', r1, r2, r3⟩ := wr_ok hM hadd hlr hw
                      refine ⟨φ, w', r2, r3, .inl ⟨_, run_v (x := goInt (Nat.min m n : Nat)) ?_, .int _ _⟩⟩
                      have q1' : (Builtin.firstCells size (min m n) x').run P w = .ok q w := q1
                      have r1' : (storeCells a' q.toList).run P w = .ok () w' := by rw [q2]; exact r1
                      simp [Builtin.copy_, h0, ha0, ha1, run_underlying' ht, hlen, run_sizeOf hsz, q1', r1']
  cases hs with
  | slNil => exact key none none 0 0 0 rfl rfl (.inl ⟨rfl, rfl, rfl⟩)
  | sl ha hl hc hr => exact key _ _ _ _ _ rfl rfl (.inr ⟨_, _, rfl, rfl, .inr ha⟩)
  | sl0 ha => exact key _ _ 0 0 0 rfl rfl (.inr ⟨_, _, rfl, rfl, .inl rfl⟩)
  | _ => exact trivial
theorem getElem_toList {α : Type} {ts : Array α} {l : List α} {i : Nat} {t : α} (h : ts.toList = l) (hl : l[i]? = some t) : ts[i]? = some t := by
  rw [← Array.getElem?_toList, h, hl]
/-- a builtin's value -/
theorem len_ok (hM : MR P φ A w) {ts : Array TypeId} (ty : TypeId) {args args' : List Value} (hx : LR φ args args') :
    OpOk P φ A w (len1 P A ts.toList args) ((do pure (.value (← Builtin.len_ ts ty ⟨args'⟩) : Next) : Sem Next).run P w) := by
  cases hts : ts.toList with
  | nil => exact trivial
  | cons t tl =>
    have h0 : ts[0]? = some t := getElem_toList hts rfl
    cases hx with
    | nil => exact trivial
    | cons hx hr =>
      rename_i x x' l l'
      simp only [len1]
      unfold lenB
      cases hu : P.underlying t with
      | none => exact trivial
      | some d =>
        cases d with
        | slice e =>
          cases hx with
          | slNil => exact OpOk.same hM (.int _ _) (run_v (by simp [Builtin.len_, h0, run_underlying' hu]; rfl))
          | sl => exact OpOk.same hM (.int _ _) (run_v (by simp [Builtin.len_, h0, run_underlying' hu]; rfl))
          | sl0 => exact OpOk.same hM (.int _ _) (run_v (by simp [Builtin.len_, h0, run_underlying' hu]; rfl))
          | _ => exact trivial
        | string =>
          cases hx with
          | string s => exact OpOk.same hM (.int _ _) (run_v (by simp [Builtin.len_, h0, run_underlying' hu, lenL0]; rfl))
          | _ => exact trivial
        | map k e =>
          cases hx with
          | mapNil => exact OpOk.same hM (.int _ _) (run_v (by simp [Builtin.len_, h0, run_underlying' hu]; rfl))
          | map h =>
            rename_i r r'
            show OpOk P φ A w (lenOfMap A r) _
            unfold lenOfMap entriesA
            cases hg : A.heap.get r with
            | none => exact trivial
            | some o =>
              cases o with
              | map es c =>
                obtain ⟨n, s, d, oc, g1, g2, es', rfl, g4⟩ := hM.objB h hg
                refine OpOk.same hM (.int _ _) (run_v ?_)
                have hgo : (getObj r').run P w = .ok (.map ⟨es'⟩ c) w := by simp [getObj, Sem.run, g2]
                simp [Builtin.len_, h0, run_underlying' hu, hgo, lenL0, g4.length]
                rfl
              | _ => exact trivial
          | _ => exact trivial
        | array n e => exact OpOk.same hM (.int _ _) (run_v (by simp [Builtin.len_, h0, run_underlying' hu]; rfl))
        | pointer a =>
          simp only
          cases hn : arrN P a with
          | none => exact trivial
          | some p =>
            have hu2 := arrN_some hn
            exact OpOk.same hM (.int _ _) (run_v (by simp [Builtin.len_, h0, run_underlying' hu, run_underlying' hu2]; rfl))
        | _ => exact trivial
theorem cap_ok (hM : MR P φ A w) {ts : Array TypeId} (ty : TypeId) {args args' : List Value} (hx : LR φ args args') :
    OpOk P φ A w (cap1 P A ts.toList args) ((do pure (.value (← Builtin.cap_ ts ty ⟨args'⟩) : Next) : Sem Next).run P w) := by
  cases hts : ts.toList with
  | nil => exact trivial
  | cons t tl =>
    have h0 : ts[0]? = some t := getElem_toList hts rfl
    cases hx with
    | nil => exact trivial
    | cons hx hr =>
      rename_i x x' l l'
      simp only [cap1]
      unfold capB
      cases hu : P.underlying t with
      | none => exact trivial
      | some d =>
        cases d with
        | slice e =>
          cases hx with
          | slNil => exact OpOk.same hM (.int _ _) (run_v (by simp [Builtin.cap_, h0, run_underlying' hu]; rfl))
          | _ => exact trivial
        | _ => exact trivial
theorem least_ok (k : IntKind) : ∀ (l l' : List Value) (a : Int) (v : Value), LR φ l l' → leastB k a l = some v → ∃ v', VR φ v v' ∧ (l'.foldlM Builtin.min2 (.int k a)).run P w = .ok v' w
  | [], l', a, v, h, hv => by
    cases h; cases hv
    exact ⟨_, .int _ _, rfl⟩
  | x :: l, l', a, v, h, hv => by
    cases h with
    | cons hx hr =>
      rename_i x' l'
      simp only [leastB] at hv
      cases x <;> simp only [] at hv <;> try (cases hv; done)
      rename_i j b
      have := VR_int hx
      subst this
      obtain ⟨v', h1, h2⟩ := least_ok k l l' _ v hr hv
      refine ⟨v', h1, ?_⟩
      simp only [List.foldlM_cons, Builtin.min2, Sem.run_bind, Sem.run_pure, Result.andThen_ok]
      rw [intLt_eq] at h2
      by_cases hb : b < a
      · simpa [hb] using h2
      · simpa [hb] using h2
theorem most_ok (k : IntKind) : ∀ (l l' : List Value) (a : Int) (v : Value), LR φ l l' → mostB k a l = some v → ∃ v', VR φ v v' ∧ (l'.foldlM Builtin.max2 (.int k a)).run P w = .ok v' w
  | [], l', a, v, h, hv => by
    cases h; cases hv
    exact ⟨_, .int _ _, rfl⟩
  | x :: l, l', a, v, h, hv => by
    cases h with
    | cons hx hr =>
      rename_i x' l'
      simp only [mostB] at hv
      cases x <;> simp only [] at hv <;> try (cases hv; done)
      rename_i j b
      have := VR_int hx
      subst this
      obtain ⟨v', h1, h2⟩ := most_ok k l l' _ v hr hv
      refine ⟨v', h1, ?_⟩
      simp only [List.foldlM_cons, Builtin.max2, Sem.run_bind, Sem.run_pure, Result.andThen_ok]
      rw [intLt_eq] at h2
      by_cases hb : a < b
      · simpa [hb] using h2
      · simpa [hb] using h2
theorem min_ok (hM : MR P φ A w) (ts : Array TypeId) (ty : TypeId) {args args' : List Value} (hx : LR φ args args') :
    OpOk P φ A w (minB A args) ((do pure (.value (← Builtin.min_ ts ty ⟨args'⟩) : Next) : Sem Next).run P w) := by
  cases hx with
  | nil => exact trivial
  | cons hx hr =>
    rename_i x x' l l'
    unfold minB
    cases x <;> simp only [] <;> try (exact trivial)
    rename_i k a
    have := VR_int hx
    subst this
    cases hl : leastB k a l with
    | none => exact trivial
    | some v =>
      obtain ⟨v', h1, h2⟩ := least_ok (P := P) (w := w) k l l' a v hr hl
      exact OpOk.same hM h1 (run_v (by simpa [Builtin.min_] using h2))
theorem max_ok (hM : MR P φ A w) (ts : Array TypeId) (ty : TypeId) {args args' : List Value} (hx : LR φ args args') :
    OpOk P φ A w (maxB A args) ((do pure (.value (← Builtin.max_ ts ty ⟨args'⟩) : Next) : Sem Next).run P w) := by
  cases hx with
  | nil => exact trivial
  | cons hx hr =>
    rename_i x x' l l'
    unfold maxB
    cases x <;> simp only [] <;> try (exact trivial)
    rename_i k a
    have := VR_int hx
    subst this
    cases hl : mostB k a l with
    | none => exact trivial
    | some v =>
      obtain ⟨v', h1, h2⟩ := most_ok (P := P) (w := w) k l l' a v hr hl
      exact OpOk.same hM h1 (run_v (by simpa [Builtin.max_] using h2))
end Go.Sh
