/- Part of a proof by a machine of ones own: see the text with the theorem. -/
import Derived.Test.YtanpablcoimajaaDoorSh11
import Derived.Laws.BytesString
import Derived.Laws.Externs
import Derived.Room.MakeNoZero
namespace Go.Sh
open Go
variable {P : Program} {φ : Inj} {A : AW} {w : World}

/-! bytes and strings -/
theorem strOfCells_ok : ∀ {cs cs' : List Value}, LR φ cs cs' → ∀ {bs : List UInt8}, strOfCells cs = some bs → ∃ ns : List Int, cs' = ns.map (Value.int .u8) ∧ ns.map (fun n => UInt8.ofNat n.toNat) = bs
  | _, _, .nil, bs, h => by
    simp only [strOfCells] at h
    cases h
    exact ⟨[], rfl, rfl⟩
  | _, _, .cons hv k, bs, h => by
    rename_i v v' l l'
    cases hv with
    | int kk n =>
      simp only [strOfCells] at h
      cases kk with
      | u8 =>
        simp only at h
        cases hr : strOfCells l with
        | none => rw [hr] at h; cases h
        | some r =>
          rw [hr] at h
          cases h
          obtain ⟨ns, h1, h2⟩ := strOfCells_ok k hr
          exact ⟨n :: ns, by rw [h1]; rfl, by rw [← h2]; rfl⟩
      | _ => cases h
    | unk => simp [strOfCells, unk] at h
    | _ => simp [strOfCells] at h
theorem foldl_push : ∀ (ns : List Int) (s : ByteArray), ns.foldl (fun r n => r.push (UInt8.ofNat n.toNat)) s = ⟨⟨s.data.toList ++ ns.map fun n => UInt8.ofNat n.toNat⟩⟩
  | [], s => by
    simp only [List.foldl_nil, List.map_nil, List.append_nil]
  | n :: ns, s => by
    rw [List.foldl_cons, foldl_push ns]
    have : (s.push (UInt8.ofNat n.toNat)).data.toList = s.data.toList ++ [UInt8.ofNat n.toNat] := by
      show (s.data.push _).toList = _
      simp
    rw [this]
    simp
theorem empty_string : ByteArray.empty = ⟨#[]⟩ := rfl
theorem isByte_some {e : TypeId} (h : isByte P e = true) : P.underlying e = some (.int .u8) ∧ szOf P e = some 1 := by
  unfold isByte at h
  split at h
  · rename_i hu
    refine ⟨hu, ?_⟩
    unfold sz1 at h
    cases hs : szOf P e with
    | none => rw [hs] at h; cases h
    | some n => rw [hs] at h; rw [Nat.eq_of_beq_eq_true h]
  · cases h
theorem sz1_some {e : TypeId} (h : sz1 P e = true) : szOf P e = some 1 := by
  unfold sz1 at h
  cases hs : szOf P e with
  | none => rw [hs] at h; cases h
  | some n => rw [hs] at h; rw [Nat.eq_of_beq_eq_true h]
theorem bytesToStr_ok (hM : MR P φ A w) {x x' : Value} (hx : VR φ x x') : OpOk P φ A w (bytesToStr A x) ((do pure (.value (← Conv.bytesToString x') : Next) : Sem Next).run P w) := by
  cases hx with
  | slNil => exact OpOk.same hM (.string _) (run_v (by simp [Conv.bytesToString, empty_string]))
  | sl ha hl hc hr =>
    rename_i a a' l c c'
    simp only [bytesToStr, strR]
    cases hrd : rd A a.block a.off l with
    | none => exact trivial
    | some cs =>
      obtain ⟨cs', h1, h2, h3⟩ := rd_ok hM ha hrd
      simp only
      cases hs : strOfCells cs with
      | none => exact trivial
      | some bs =>
        obtain ⟨ns, h4, h5⟩ := strOfCells_ok h1 hs
        have h6 := run_loadCells_list (P := P) w a' cs' h3
        rw [h2, h4] at h6
        refine OpOk.same hM (.string _) (run_v ?_)
        rw [run_bytesToString w a' l c' ns (by simpa using h6), foldl_push, h5]
        rfl
  | sl0 ha =>
    rename_i a a'
    simp only [bytesToStr, strR]
    cases hrd : rd A a.block a.off 0 with
    | none => exact trivial
    | some cs =>
      obtain ⟨c, e, ro, hg, hl, rfl⟩ := rd_some hrd
      simp only [List.take_zero, strOfCells]
      refine OpOk.same hM (.string _) (run_v ?_)
      rw [run_bytesToString w a' 0 0 [] (by simp [loadCells, loadCellsFrom])]
      rfl
  | _ => exact trivial
/-- what is frozen, behind a freeze -/
def frz (fz : Nat × Nat) (off n : Nat) : Nat × Nat := if fz.1 == fz.2 then (off, off + n) else (min fz.1 off, max fz.2 (off + n))
theorem freeze_eq {w : World} {b off n : Nat} {cc : Array Value} {e : TypeId} {fz : Nat × Nat} {sp : Option Nat} (h : w.heap[b]? = some (.cells cc e fz)) (hn : n ≠ 0) :
    w.freeze ⟨b, off, sp⟩ n = setBlk w b (.cells cc e (frz fz off n)) := by
  unfold World.freeze setBlk
  rw [if_neg hn]
  congr 1
  apply Array.ext_getElem?
  intro i
  rw [Array.getElem?_modify, Array.getElem?_setIfInBounds]
  by_cases hi : b = i
  · subst hi
    have hlt := lt_of_heap h
    simp only [if_true, h, hlt]
    rfl
  · rw [if_neg hi, if_neg hi]
theorem setBlk_push (w : World) (o o' : Obj) : setBlk (w.alloc o) w.heap.size o' = w.alloc o' := by
  unfold setBlk World.alloc
  congr 1
  apply Array.ext_getElem?
  intro i
  rw [Array.getElem?_setIfInBounds, Array.getElem?_push, Array.getElem?_push]
  by_cases hi : w.heap.size = i
  · subst hi; simp
  · rw [if_neg hi, if_neg (Ne.symm hi), if_neg (Ne.symm hi)]
theorem freeze_push (w : World) (c : Array Value) (e : TypeId) (n : Nat) : (w.alloc (.cells c e (0, 0))).freeze ⟨w.heap.size, n, none⟩ 1 = w.alloc (.cells c e (n, n + 1)) := by
  rw [freeze_eq (push_same w _) (by decide), setBlk_push]
  rfl
theorem run_choose_cap (n : Nat) (e : TypeId) (w : World) : ∃ cap, n ≤ cap ∧ (choose (.appendCap n 0 e)).run P w = .ok cap { w with drawn := w.drawn + 1 } :=
  ⟨_, Nat.le_add_right _ _, by rw [run_choose]; rfl⟩
theorem byte_LR : ∀ l : List UInt8, LR φ (mapL byteV l) (l.map fun b => Value.int .u8 b.toNat)
  | [] => .nil
  | _ :: l => .cons (.int _ _) (byte_LR l)
theorem mapL_length {α β : Type} (f : α → β) : ∀ l : List α, (mapL f l).length = l.length
  | [] => rfl
  | _ :: l => congrArg Nat.succ (mapL_length f l)
theorem strToBytes_ok (hM : MR P φ A w) (e : TypeId) (s : ByteArray) : OpOk P φ A w (strToBytes P A e s) ((do pure (.value (← Conv.stringToBytes e s) : Next) : Sem Next).run P w) := by
  unfold strToBytes
  cases hb : isByte P e with
  | false => exact trivial
  | true =>
    obtain ⟨hu, hs⟩ := isByte_some hb
    simp only [cond_true, lenL0]
    have hsz : (bytesOf s).length = s.size := Array.length_toList
    obtain ⟨cap, hcap, hch⟩ := run_choose_cap (P := P) s.size e w
    have hrun : (Conv.stringToBytes e s).run P w = .ok (.slice (some ⟨w.heap.size, 0, none⟩) s.size cap)
        ((({ w with drawn := w.drawn + 1 } : World).alloc (.cells (s.data.map (fun b : UInt8 => Value.int .u8 b.toNat) ++ Array.replicate (cap - s.size) (Value.int .u8 0)) e)).freeze ⟨w.heap.size, cap, none⟩ 1) := by
      have h2 : (s.data.map (fun b : UInt8 => Value.int .u8 b.toNat) ++ Array.replicate (cap - s.size) (Value.int .u8 0)).size = cap := by
        have : s.data.size = s.size := rfl
        rw [Array.size_append, Array.size_map, Array.size_replicate, this]; omega
      have h3 : ({ w with drawn := w.drawn + 1 } : World).heap.size = w.heap.size := rfl
      simp only [Conv.stringToBytes, Sem.run_bind, hch, Result.andThen_ok, run_newRow, markStringish, run_shape, World.shape?, push_same, run_freeze, Sem.run_pure, h2]
    generalize hk : w.drawn + 1 = k at hrun
    rw [freeze_push] at hrun
    have hcl : (s.data.map (fun b : UInt8 => Value.int .u8 b.toNat)).toList.length = s.size := by rw [Array.length_toList, Array.size_map]; rfl
    have hex : (s.data.map (fun b : UInt8 => Value.int .u8 b.toNat) ++ Array.replicate (cap - s.size) (Value.int .u8 0) : Array Value) = ⟨(s.data.map (fun b : UInt8 => Value.int .u8 b.toNat)).toList ++ (Array.replicate (cap - s.size) (Value.int .u8 0)).toList⟩ := by
      apply Array.ext'; simp
    obtain ⟨φ', r1, r2, r3, r4⟩ := newCells (hM.drawn k) (e := e) (c := mapL byteV (bytesOf s)) (cc := (s.data.map (fun b : UInt8 => Value.int .u8 b.toNat)).toList) (by simpa [bytesOf] using byte_LR (φ := φ) (bytesOf s)) (Array.replicate (cap - s.size) (Value.int .u8 0)).toList (fz := (cap, cap + 1)) (fun off ho => by rw [List.length_append, hcl, Array.length_toList, Array.size_replicate] at ho; omega)
    rw [hex] at hrun
    refine ⟨φ', _, r1, (Ext.drawn w k).trans r2, .inl ⟨_, run_v hrun, ?_⟩⟩
    rw [hsz]
    refine new_row r4 (Nat.le_refl _) hcap ?_
    rw [hs, List.length_append, hcl, Array.length_toList, Array.size_replicate]
    simp only [Option.getD_some]
    omega
/-! pointers seen as others -/
theorem has1_some {u : TypeId} {n : Nat} (h : has1 P u n = true) : ∃ m, szOf P u = some m ∧ 0 < m ∧ m ≤ n := by
  unfold has1 at h
  cases hs : szOf P u with
  | none => rw [hs] at h; cases h
  | some m =>
    rw [hs] at h
    simp only [Bool.and_eq_true] at h
    exact ⟨m, rfl, by simpa [Nat.blt_eq] using h.1, Nat.le_of_ble_eq_true h.2⟩
theorem run_seenAt {a : Addr} {cc : Array Value} {e : TypeId} {fz : Nat × Nat} (h : w.heap[a.block]? = some (.cells cc e fz)) : (Conv.seenAt a).run P w = .ok a w := by
  simp [Conv.seenAt, viewAt, World.shape?, h]
theorem cellsOf_szOf {t : TypeId} {n : Nat} (h : szOf P t = some n) : P.cellsOf t = n := by
  unfold szOf at h
  unfold Program.cellsOf
  cases hi : P.info? t with
  | none => rw [hi] at h; cases h
  | some i => rw [hi] at h; cases h; rfl
theorem convPtrA_ok (hM : MR P φ A w) {s d t : TypeId} (hs : P.underlying s = some (.pointer t)) (hd : P.underlying d = some .unsafePointer) {x x' : Value} (hx : VR φ x x') :
    OpOk P φ A w (convPtrA P A t x) ((do pure (.value (← convert s d x') : Next) : Sem Next).run P w) := by
  cases hx with
  | ptrNil => exact OpOk.same hM .ptrNil (run_v (by simp [convert, run_underlying' hs, run_underlying' hd, Conv.unsafePointer]))
  | ptr ha =>
    rename_i a a'
    simp only [convPtrA]
    cases hc : cellsAt A a.block with
    | none => exact trivial
    | some c =>
      obtain ⟨e, ro, hg⟩ := cellsAt_some hc
      simp only [lenL0]
      cases hh : has1 P t (c.length - a.off) with
      | false => exact trivial
      | true =>
        obtain ⟨m, h1, h2, h3⟩ := has1_some hh
        obtain ⟨cc, fz, n, sz, dd, g1, g2, g3, g4, g5⟩ := hM.cells ha hg
        have hfit := g5.fits
        have hsz := g5.size
        have hlt : ¬ (a'.off ≥ cc.length) := by omega
        refine OpOk.same hM (.ptr ha) (run_v ?_)
        have hm : ¬ m = 0 := by omega
        simp [convert, run_underlying' hs, run_underlying' hd, Conv.unsafePointer, run_seenAt g4, cellsIn, World.shape?, g4, run_sizeOf h1, hm, hlt]
  | _ => exact trivial
theorem depth_succ (P : Program) : ∃ k, P.depth = k + 1 := ⟨_, rfl⟩
theorem run_variablesAt {a : Addr} {cc : Array Value} {e : TypeId} {fz : Nat × Nat} (h : w.heap[a.block]? = some (.cells cc e fz)) {sz k n : Nat} (hs : P.cellsOf e = sz) (h0 : 0 < sz) (ha : a.off = k * sz) (hn : (k + n) * sz ≤ cc.size) :
    (variablesAt a e n).run P w = .ok true w := by
  obtain ⟨d, hd⟩ := depth_succ P
  have h1 : k * sz % sz = 0 := Nat.mul_mod_left k sz
  have h2 : k * sz / sz = k := Nat.mul_div_cancel k h0
  have h3 : k + n ≤ cc.size / sz := (Nat.le_div_iff_mul_le h0).2 hn
  have h4 : sameLayout P P.depth e e = true := by rw [hd]; simp [sameLayout]
  have h5 : Go.rowAt P (sameLayout P P.depth · e) P.depth e (cc.size / sz) (k * sz) n = true := by
    rw [hd] at h4 ⊢
    simp [Go.rowAt, hs, h1, h2, h3, h4, Nat.ne_of_gt h0]
  have h6 : liesAt P P.depth e (cc.size / sz) (k * sz) e n = true := by
    rw [hd] at h5 ⊢
    simp [liesAt, hd ▸ h5]
  simp [variablesAt, World.shape?, h, hs, ha, h6]
theorem convPtrB_ok (hM : MR P φ A w) {s d u : TypeId} (hs : P.underlying s = some .unsafePointer) (hd : P.underlying d = some (.pointer u)) {x x' : Value} (hx : VR φ x x') :
    OpOk P φ A w (convPtrB P A u x) ((do pure (.value (← convert s d x') : Next) : Sem Next).run P w) := by
  cases hx with
  | ptrNil => exact OpOk.same hM .ptrNil (run_v (by simp [convert, run_underlying' hs, run_underlying' hd, Conv.unsafePointer]))
  | ptr ha =>
    rename_i a a'
    simp only [convPtrB]
    cases hg : A.heap.get a.block with
    | none => exact trivial
    | some o =>
      cases o with
      | cells c e ro =>
        simp only [convPtrC, lenL0]
        cases hcd : (Nat.beq e u && (Nat.beq a.off 0 && has1 P u c.length)) with
        | false => exact trivial
        | true =>
          simp only [Bool.and_eq_true] at hcd
          obtain ⟨q1, q2, q3⟩ := hcd
          have q1 := Nat.eq_of_beq_eq_true q1
          have q2 := Nat.eq_of_beq_eq_true q2
          subst q1
          obtain ⟨m, h1, h2, h3⟩ := has1_some q3
          obtain ⟨cc, fz, n, sz, dd, g1, g2, g3, g4, g5⟩ := hM.cells ha hg
          have hfit := g5.fits
          have hsz := g5.size
          have hun := g5.unit
          rw [h1] at hun
          simp only [Option.getD_some] at hun
          subst hun
          obtain ⟨k, hk⟩ := g5.mult
          have hv := run_variablesAt (P := P) (a := a') (k := k) (n := 1) g4 (cellsOf_szOf h1) h2 (by rw [g2, q2, hk, Nat.zero_add, Nat.mul_comm]) (by
            rw [Nat.add_mul, Nat.mul_comm k, ← hk]; simp; omega)
          refine OpOk.same hM (.ptr ha) (run_v ?_)
          simp [convert, run_underlying' hs, run_underlying' hd, Conv.unsafePointer, run_seenAt g4, run_sizeOf h1, hv]
      | _ => exact trivial
  | _ => exact trivial
theorem convert_ok (hM : MR P φ A w) (s d : TypeId) {x x' : Value} (hx : VR φ x x') :
    OpOk P φ A w (convertA P A s d x) ((do pure (.value (← convert s d x') : Next) : Sem Next).run P w) := by
  unfold convertA
  cases hs : P.underlying s with
  | none => exact trivial
  | some sd =>
    simp only
    cases hd : P.underlying d with
    | none => exact trivial
    | some dd =>
      simp only
      cases dd with
      | int k =>
        simp only [convTo]
        cases hx with
        | int j n => exact OpOk.same hM (by rw [wrapA_eq]; exact .int _ _) (run_v (by cases sd <;> simp [convert, run_underlying' hs, run_underlying' hd, Conv.intToInt]))
        | _ => exact trivial
      | string =>
        simp only [convTo]
        have hrow : ∀ y, convStr P A sd x = convRow P A sd y → VR φ y x' → (∀ e, sd = .slice e → isByte P e = true → (convert s d x').run P w = (Conv.bytesToString x').run P w) → OpOk P φ A w (convStr P A sd x) ((do pure (.value (← convert s d x') : Next) : Sem Next).run P w) := by
          intro y h1 h2 h3
          rw [h1]
          cases sd with
          | slice e =>
            simp only [convRow]
            cases hb : isByte P e with
            | false => exact trivial
            | true =>
              simp only [cond_true]
              have := bytesToStr_ok hM h2
              rw [Sem.run_bind] at this ⊢
              rw [h3 e rfl hb]
              exact this
          | _ => exact trivial
        have hconv : ∀ a l c, ∀ e, sd = .slice e → isByte P e = true → (convert s d (.slice a l c)).run P w = (Conv.bytesToString (.slice a l c)).run P w := by
          rintro a l c e rfl hb
          exact run_convert_bytes_string w s d e a l c hs (isByte_some hb).1 hd
        cases hx with
        | string b => exact OpOk.same hM (.string _) (run_v (by cases sd <;> simp [convert, run_underlying' hs, run_underlying' hd]))
        | int j n => exact OpOk.same hM (.string _) (run_v (by cases sd <;> simp [convert, run_underlying' hs, run_underlying' hd, Conv.intToString]))
        | slNil => exact hrow _ rfl .slNil (hconv _ _ _)
        | sl ha hl hc hr => exact hrow _ rfl (.sl ha hl hc hr) (hconv _ _ _)
        | sl0 ha => exact hrow _ rfl (.sl0 ha) (hconv _ _ _)
        | _ => exact trivial
      | slice e =>
        simp only [convTo]
        cases hx with
        | string b =>
          simp only [convSlice]
          have h1 := strToBytes_ok hM e b
          unfold strToBytes at h1 ⊢
          cases hb : isByte P e with
          | false => exact trivial
          | true =>
            rw [hb] at h1
            have h2 : (convert s d (.string b)).run P w = (Conv.stringToBytes e b).run P w := by
              cases sd <;> simp [convert, run_underlying' hs, run_underlying' hd, run_underlying' (isByte_some hb).1]
            rw [Sem.run_bind] at h1 ⊢
            rw [h2]
            exact h1
        | _ => exact trivial
      | unsafePointer =>
        simp only [convTo]
        cases sd with
        | pointer t => exact convPtrA_ok hM hs hd hx
        | _ => exact trivial
      | pointer u =>
        simp only [convTo]
        cases sd with
        | unsafePointer => exact convPtrB_ok hM hs hd hx
        | _ => exact trivial
      | _ => exact trivial
end Go.Sh
