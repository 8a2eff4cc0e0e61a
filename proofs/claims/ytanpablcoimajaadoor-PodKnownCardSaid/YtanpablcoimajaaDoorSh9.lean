/- Part of a proof by a machine of ones own: see the text with the theorem. -/
import Derived.Test.YtanpablcoimajaaDoorSh8
namespace Go.Sh
open Go
variable {P : Program} {φ : Inj} {A : AW} {w : World}

/-- what is appended, or copied -/
theorem src_ok (hM : MR P φ A w) {x x' : Value} (hx : VR φ x x') {m size : Nat} {new : List Value} (hl : lenA x = some m) (hs : srcCells A size x = some new) (hn : new.length = m * size) :
    ∃ news, LR φ new news ∧ (Builtin.lenOf x').run P w = .ok m w ∧ (∀ k j, j ≤ m → ∃ q, (Builtin.firstCells size j x').run P { w with drawn := k } = .ok q { w with drawn := k } ∧ q.toList = news.take (j * size)) := by
  cases hx with
  | slNil =>
    cases hl; cases hs
    clear hn
    refine ⟨[], .nil, by simp [Builtin.lenOf], fun k j hj => ⟨#[], by simp [Builtin.firstCells], by simp⟩⟩
  | sl ha hl' hc hr =>
    rename_i a a' n c c'
    have e : n = m := opt_some hl
    subst e
    clear hn
    change rd A a.block a.off (n * size) = some new at hs
    obtain ⟨cs', h1, h2, h3⟩ := rd_ok hM ha hs
    refine ⟨cs', h1, by simp [Builtin.lenOf], fun k j hj => ?_⟩
    have h4 : ∀ i v, (cs'.take (j * size))[i]? = some v → ({ w with drawn := k } : World).cell? (a'.add i) = some v := by
      intro i v hv
      have hi := (List.getElem?_eq_some_iff.1 hv).1
      rw [List.getElem?_take_of_lt (by simp at hi; omega)] at hv
      exact h3 i v hv
    have h5 := run_loadCells_list (P := P) { w with drawn := k } a' (cs'.take (j * size)) h4
    have h6 : (cs'.take (j * size)).length = j * size := by
      rw [List.length_take, h2]
      exact Nat.min_eq_left (Nat.mul_le_mul_right _ hj)
    rw [h6] at h5
    exact ⟨_, by simpa [Builtin.firstCells] using h5, by simp⟩
  | sl0 ha =>
    rename_i a a'
    cases hl
    clear hn
    change rd A a.block a.off (0 * size) = some new at hs
    obtain ⟨c, e, ro, _, _, rfl⟩ := rd_some hs
    refine ⟨[], by simp; exact .nil, by simp [Builtin.lenOf], fun k j hj => ⟨#[], ?_, by simp⟩⟩
    have : j = 0 := by omega
    subst this
    simp [Builtin.firstCells, loadCells, loadCellsFrom]
  | string s =>
    simp only [lenA, lenL0] at hl
    cases hl
    simp only [srcCells, mapL_eq] at hs
    cases hs
    refine ⟨(bytesOf s).map byteV, LR_self (fun v hv => ?_), by simp [Builtin.lenOf]; rfl, fun k j hj => ⟨_, by simp [Builtin.firstCells]; rfl, ?_⟩⟩
    · obtain ⟨b, _, rfl⟩ := List.mem_map.1 hv
      exact .int _ _
    · have h1 : (s.extract 0 j).data.toList = (bytesOf s).take j := by simp [bytesOf]
      have h2 : j * size = j := by
        simp only [List.length_map] at hn
        rcases Nat.eq_zero_or_pos (bytesOf s).length with h | h
        · have : j = 0 := by omega
          subst this; simp
        · have : size = 1 := by
            have h3 : (bytesOf s).length * 1 = (bytesOf s).length * size := by omega
            exact (Nat.eq_of_mul_eq_mul_left h h3).symm
          subst this; simp
      rw [h2, ← List.map_take, ← h1]
      simp
      rfl
  | _ => cases hl
theorem addr_add_VR {a a' : Addr} (h : AddrR φ a a') (j : Nat) : (a.add j).block = a.block ∧ (a.add j).off = a.off + j ∧ AddrR φ (a.add j) (a'.add j) := ⟨add_block a j, add_off a j, h.add j⟩
theorem append_ok (hM : MR P φ A w) {ts : Array TypeId} {t u : TypeId} (h0 : ts[0]? = some t) (h1 : ts[1]? = some u) (hu : isList P u = true) (ty : TypeId) {args : Array Value} {s s' x x' : Value}
    (ha0 : args[0]? = some s') (ha1 : args[1]? = some x') (hs : VR φ s s') (hx : VR φ x x') :
    OpOk P φ A w (appendA P A t s x) ((do pure (.value (← Builtin.append_ ts ty args) : Next) : Sem Next).run P w) := by
  obtain ⟨d, hud, hd⟩ := isList_some hu
  -- what the slice is
  have key : ∀ (base base' : Option Addr) (n cap cap' : Nat), s = .slice base n cap → s' = .slice base' n cap' → n ≤ cap → cap ≤ cap' →
      ((base = none ∧ base' = none ∧ n = 0 ∧ cap' = 0) ∨ (∃ a a', base = some a ∧ base' = some a' ∧ BlkR φ a.block a'.block ∧ ((n = 0 ∧ cap' = 0) ∨ (AddrR φ a a' ∧ (a.spot = none → RoomR φ a.block a' cap'))))) →
      OpOk P φ A w (appendA P A t s x) ((do pure (.value (← Builtin.append_ ts ty args) : Next) : Sem Next).run P w) := by
    rintro base base' n cap cap' rfl rfl hnc hcc hb
    unfold appendA
    simp only
    cases he : elemA P t with
    | none => exact trivial
    | some e =>
      have ht := elemA_some he
      simp only
      cases hsz : szOf P e with
      | none => exact trivial
      | some size =>
        simp only
        cases hl : lenA x with
        | none => exact trivial
        | some m =>
          simp only
          cases hsc : srcCells A size x with
          | none => exact trivial
          | some new =>
            simp only [lenL0]
            cases hc : (smallT P e && (Nat.ble (n + m) 1000000 && Nat.beq new.length (m * size))) with
            | false => exact trivial
            | true =>
              simp only [Bool.and_eq_true] at hc
              obtain ⟨hc1, hc2, hc3⟩ := hc
              have hc2 := Nat.le_of_ble_eq_true hc2
              have hc3 := Nat.eq_of_beq_eq_true hc3
              obtain ⟨i, z, g1, g2, g3, g4⟩ := smallT_some hc1
              have hsize : i.size = size := by rw [szOf_info g1] at hsz; exact opt_some hsz
              obtain ⟨news, hnews, hlen, hfc⟩ := src_ok hM hx hl hsc hc3
              have hnl : news.length = m * size := by rw [← hnews.length]; exact hc3
              have hfc' : ∀ k, (Builtin.firstCells i.size m x').run P { w with drawn := k } = .ok ⟨news⟩ { w with drawn := k } := by
                intro k
                obtain ⟨q, q1, q2⟩ := hfc k m (Nat.le_refl _)
                have : q = ⟨news⟩ := by
                  apply Array.ext'
                  rw [q2, ← hnl]
                  exact List.take_length
                rw [hsize, q1, this]
              have hfw : (Builtin.firstCells i.size m x').run P w = .ok ⟨news⟩ w := hfc' w.drawn
              simp only [cond_true, appendB]
              cases hm : Nat.beq m 0 with
              | true =>
                have hm0 := Nat.eq_of_beq_eq_true hm
                subst hm0
                have hn0 : news = [] := List.eq_nil_of_length_eq_zero (by simpa using hnl)
                subst hn0
                have hrun := run_append_at (P := P) (w := w) (ty := ty) h0 h1 hud hd ht g1 ha0 ha1 hlen hfw (by omega)
                simp only [cond_true]
                refine OpOk.same hM hs (run_v ?_)
                rw [hrun]
                cases base' <;> simp [storeCells]
              | false =>
                have hm0 : m ≠ 0 := by rintro rfl; simp at hm
                simp only [cond_false]
                -- new cells
                have grown : ∀ (A0 : AW) (φ0 : Inj) (old : List Value) (oldA : List Value) (cap1 : Nat), cap1 = cap' → MR P φ0 A0 w → Ext φ A w φ0 A0 w → φ.le φ0 → LR φ0 oldA old → old.length = n * size → cap1 < n + m →
                    (∀ k, (Builtin.firstCells i.size n (.slice base' n cap1)).run P { w with drawn := k } = .ok ⟨old⟩ { w with drawn := k }) →
                    OpOk P φ A w (newR A0 (.cells (oldA ++ new) e false) (rowV (n + m))) ((do pure (.value (← Builtin.append_ ts ty args) : Next) : Sem Next).run P w) := by
                  rintro A0 φ0 old oldA cap1 rfl hM0 hE0 hle0 hold holdl hlt hfo
                  obtain ⟨nc, k, q1, q2⟩ := run_append_grown (P := P) (w := w) (ty := ty) h0 h1 hud hd ht g1 g3 ha0 ha1 hlen hfo hfc' hlt hc2 g2
                  have hex : (⟨old⟩ ++ ⟨news⟩ ++ Builtin.zeroCells z.cells (nc - (n + m)) : Array Value) = ⟨(old ++ news) ++ (Builtin.zeroCells z.cells (nc - (n + m))).toList⟩ := by
                    apply Array.ext'; simp
                  obtain ⟨φ', r1, r2, r3, r4⟩ := newCells (hM0.drawn k) (e := e) (c := oldA ++ new) (cc := old ++ news) (by simpa using hold.append (hnews.mono hle0)) (Builtin.zeroCells z.cells (nc - (n + m))).toList (fz := (0, 0)) (fun off _ => by simp)
                  rw [hex] at q2
                  refine ⟨φ', _, r1, hE0.trans ((Ext.drawn w k).trans r2), .inl ⟨_, run_v q2, ?_⟩⟩
                  refine new_row r4 (Nat.le_refl _) q1 ?_
                  rw [hsz]
                  simp only [Option.getD_some, List.length_append, Array.length_toList, size_zeroCells, g4, hsize, holdl, hnl, ← Nat.add_mul]
                  exact Nat.mul_le_mul_right _ (by omega)
                rcases hb with ⟨rfl, rfl, hn, hcap⟩ | ⟨a, a', rfl, rfl, hblk, hb⟩
                · subst hn hcap
                  have := grown A φ [] [] 0 rfl hM (Ext.refl _ _ _) φ.le_refl .nil (by simp) (by omega) (fun k => by simp [Builtin.firstCells])
                  simpa using this
                · simp only
                  cases hle : Nat.ble (n + m) cap with
                  | true =>
                    have hle := Nat.le_of_ble_eq_true hle
                    simp only [cond_true]
                    rcases hb with ⟨rfl, rfl⟩ | ⟨hadd, hroom⟩
                    · omega
                    · obtain ⟨s1, s2, s3⟩ := addr_add_VR hadd (n * size)
                      cases hw : wr A a.block (a.off + n * size) new with
                      | none => exact trivial
                      | some A' =>
                        rw [← s1, ← s2] at hw
                        obtain ⟨w', r1, r2, r3⟩ := wr_ok hM s3 hnews hw
                        have hrun := run_append_at (P := P) (w := w) (ty := ty) h0 h1 hud hd ht g1 ha0 ha1 hlen hfw (by omega)
                        simp only [hsize, r1, Result.andThen_ok] at hrun
                        exact ⟨φ, w', r2, r3, .inl ⟨_, run_v hrun, .sl hadd hle hcc hroom⟩⟩
                  | false =>
                    simp only [cond_false]
                    cases hsp : a.spot with
                    | some q => exact trivial
                    | none =>
                      simp only [Option.isNone_none, cond_true, appendNew]
                      cases hg : A.heap.get a.block with
                      | none => exact trivial
                      | some o =>
                        cases o with
                        | cells c e' ro =>
                          simp only [lenL0]
                          cases hcd : (!ro && (singles new && (Nat.ble A.lim a.block && (Nat.beq (a.off + n * size) c.length && (Nat.beq e e' && Nat.beq (Nat.mod a.off size) 0))))) with
                          | false => exact trivial
                          | true =>
                            simp only [Bool.and_eq_true, Bool.not_eq_true'] at hcd
                            obtain ⟨t1, t2, t3, t4, t5, t6⟩ := hcd
                            have t3 := Nat.le_of_ble_eq_true t3
                            have t4 := Nat.eq_of_beq_eq_true t4
                            have t5 := Nat.eq_of_beq_eq_true t5
                            subst t1 t5
                            simp only [cond_true, appL_eq, dropL_eq]
                            obtain ⟨c1, n1, s1, d1, oc, u1, u2, cc, e2, fz, u3, u4⟩ := hM.live hg hblk.ne
                            have hun := u4.unit
                            rw [hsz] at hun
                            simp only [Option.getD_some] at hun
                            subst hun u3
                            have hc1 : c1 = a'.block := by
                              rcases hblk with h | ⟨n2, s2, d2, h⟩
                              · rw [u1] at h; cases h
                              · rw [u1] at h; injection h with h; injection h
                            subst hc1
                            by_cases hin : n + m ≤ cap'
                            · -- there is room
                              rcases hb with ⟨rfl, rfl⟩ | ⟨hadd, hroom⟩
                              · omega
                              · have hrm := hroom hsp _ _ _ _ u1
                                have hoff : a'.off = a.off + d1 ∧ a'.spot = none := by
                                  rcases hadd with h | ⟨c3, n3, s3, d3, h, _, h5, h6⟩
                                  · rw [u1] at h; cases h
                                  · rw [u1] at h; injection h with h; injection h with _ _ _ h7; subst h7; exact ⟨h5, h6⟩
                                have hms : (n + m) * s1 ≤ cap' * s1 := Nat.mul_le_mul_right _ hin
                                rw [Nat.add_mul] at hms
                                have hcsz := u4.size
                                have hst := run_storeCells (P := P) (a := a'.add (n * s1)) (by rw [add_of_none hoff.2]) (e := e2) (fz := fz) news 0 w cc (by rw [add_block]; exact u2) (singles_LR hnews t2) (by rw [add_off, hnl]; omega) (fun off ho => u4.free rfl off (by omega))
                                have hrun := run_append_at (P := P) (w := w) (ty := ty) h0 h1 hud hd ht g1 ha0 ha1 hlen hfw hin
                                simp only [hsize, hst, Result.andThen_ok] at hrun
                                rw [add_block, add_off] at hrun
                                have hfit := u4.fits
                                have ho : OR P φ (.cells (c.drop a.off ++ new) e false) (.cells ⟨cc.take (a'.off + n * s1 + 0) ++ (news ++ cc.drop (a'.off + n * s1 + 0 + news.length))⟩ e2 fz) n1 s1 a'.off := by
                                  refine ⟨_, _, _, rfl, ⟨u4.elem, ?_, by rw [hsz]; rfl, ?_, ?_, u4.free, by rw [hoff.1]; exact Nat.dvd_add (Nat.dvd_of_mod_eq_zero (Nat.eq_of_beq_eq_true t6)) u4.mult⟩⟩
                                  · simp only [List.length_append, List.length_take, List.length_drop]; omega
                                  · simp only [List.length_append, List.length_drop]; omega
                                  · have e5 : (c.drop a.off ++ new).length = n * s1 + news.length := by simp only [List.length_append, List.length_drop, hc3, hnl]; omega
                                    have e6 : ((cc.take (a'.off + n * s1 + 0) ++ (news ++ cc.drop (a'.off + n * s1 + 0 + news.length))).drop a'.off).take (c.drop a.off ++ new).length = ((cc.drop d1).take c.length).drop a.off ++ news := by
                                      rw [e5]
                                      apply List.ext_getElem?
                                      intro q
                                      have e7 : (((cc.drop d1).take c.length).drop a.off).length = n * s1 := by simp only [List.length_take, List.length_drop]; omega
                                      by_cases hq : q < n * s1 + news.length
                                      · rw [List.getElem?_take_of_lt hq, List.getElem?_drop, app3]
                                        have e8 : (cc.take (a'.off + n * s1 + 0)).length = a'.off + n * s1 := by simp only [List.length_take]; omega
                                        rw [e8]
                                        by_cases hq1 : q < n * s1
                                        · rw [if_pos (by omega), List.getElem?_take_of_lt (by omega), List.getElem?_append_left (by omega), List.getElem?_drop, List.getElem?_take_of_lt (by omega), List.getElem?_drop]
                                          congr 1; omega
                                        · rw [if_neg (by omega), if_pos (by omega), List.getElem?_append_right (by omega), e7]
                                          congr 1; omega
                                      · rw [List.getElem?_eq_none (by simp only [List.length_take]; omega), List.getElem?_eq_none (by simp only [List.length_append, e7]; omega)]
                                    rw [e6]
                                    exact (u4.cells.drop _).append hnews
                                obtain ⟨φ', v1, v2, v3, v4⟩ := hM.move t3 u1 ho
                                refine ⟨φ', _, v1, v2, .inl ⟨_, run_v hrun, ?_⟩⟩
                                refine .sl (.inr ⟨_, _, _, _, v4, rfl, by simp, hoff.2⟩) (Nat.le_refl _) hin fun _ c9 n9 s9 d9 h9 => ?_
                                change φ' A.next = _ at h9
                                rw [v4] at h9
                                injection h9 with h9
                                injection h9 with w1 w2 w3
                                subst w1 w2 w3
                                exact hrm
                            · -- there is none
                              obtain ⟨hK, hE⟩ := hM.kill t3 (by rw [u1]; simp)
                              have hfit := u4.fits
                              have hcsz := u4.size
                              have hdrop : c.drop a.off = (c.drop a.off).take (n * s1) := by rw [List.take_of_length_le]; simp; omega
                              rcases hb with ⟨hn0, hc0⟩ | ⟨hadd, hroom⟩
                              · have hnil : c.drop a.off = [] := by
                                  apply List.eq_nil_of_length_eq_zero
                                  rw [hn0] at t4
                                  simp; omega
                                rw [hnil]
                                have := grown _ _ [] [] cap' rfl hK hE Inj.le_kill .nil (by rw [hn0]; simp) (by omega) (fun k => by rw [hn0]; simp [Builtin.firstCells, loadCells, loadCellsFrom])
                                simpa using this
                              · have hoff : a'.off = a.off + d1 ∧ a'.spot = none := by
                                  rcases hadd with h | ⟨c3, n3, s3, d3, h, _, h5, h6⟩
                                  · rw [u1] at h; cases h
                                  · rw [u1] at h; injection h with h; injection h with _ _ _ h7; subst h7; exact ⟨h5, h6⟩
                                have hlr := u4.part a.off (n * s1) (by omega)
                                refine grown _ _ ((cc.drop (d1 + a.off)).take (n * s1)) (c.drop a.off) cap' rfl hK hE Inj.le_kill (by rw [hdrop]; exact hlr.mono Inj.le_kill) (by simp; omega) (by omega) (fun k => ?_)
                                have h4 : ∀ q v, ((cc.drop (d1 + a.off)).take (n * s1))[q]? = some v → ({ w with drawn := k } : World).cell? (a'.add q) = some v := by
                                  intro q v hv
                                  have hq := (List.getElem?_eq_some_iff.1 hv).1
                                  rw [add_of_none hoff.2, cell_lit (w := { w with drawn := k }) u2, hoff.1]
                                  rw [List.getElem?_take_of_lt (by simp at hq; omega), List.getElem?_drop] at hv
                                  simpa [Nat.add_comm, Nat.add_left_comm, Nat.add_assoc] using hv
                                have h5 := run_loadCells_list (P := P) { w with drawn := k } a' _ h4
                                have h6 : ((cc.drop (d1 + a.off)).take (n * s1)).length = n * s1 := by simp; omega
                                rw [h6] at h5
                                simpa [Builtin.firstCells, hsize] using h5
                        | _ => exact trivial
  cases hs with
  | slNil => exact key none none 0 0 0 rfl rfl (Nat.le_refl _) (Nat.le_refl _) (.inl ⟨rfl, rfl, rfl, rfl⟩)
  | sl ha hl hc hr => exact key _ _ _ _ _ rfl rfl hl hc (.inr ⟨_, _, rfl, rfl, ha.blk, .inr ⟨ha, hr⟩⟩)
  | sl0 ha => exact key _ _ 0 0 0 rfl rfl (Nat.le_refl _) (Nat.le_refl _) (.inr ⟨_, _, rfl, rfl, ha, .inl ⟨rfl, rfl⟩⟩)
  | _ => exact trivial
end Go.Sh
