/- Part of a proof: see the text with the theorem. -/
import Derived.Test.YtnmamelclmfplaaDoorTe
import Derived.Test.YtnmamelclmfplaaDoorShF
set_option linter.all false
namespace Go.Proofs.YtnmamelclmfplaaDoor.walk
open Go Go.Sh
set_option maxRecDepth 100000
def S51:PSpec where
 R args w v:=∃ (rv dv av:Value) (r:List CAct) (d:List CDay) (acts:List Int),args=[.agg ⟨[rv,dv]⟩,av]∧RowsV actC w rv r∧RowsV cdayC w dv d∧RowsV intC w av acts∧ruleB r=true∧daysB d=true∧v=stgR (stgF r d startS acts)
 uniq:=by
  rintro _ _ _ _ ⟨_,_,_,r,d,acts,rfl,h1,h2,h3,_,_,rfl⟩ ⟨_,_,_,r',d',acts',h,k1,k2,k3,_,_,rfl⟩
  cases h
  rw [h1.uniq (m:=7) actC_length actC_inj k1,h2.uniq (m:=3) cdayC_length cdayC_inj k2,h3.uniq (m:=1) intC_length intC_inj k3]
 shut h:=h
def canB (r:List CAct) (d:List CDay) (acts:List Int):Bool:=(stgF r d startS acts).isSome
theorem can_eq {r:List CAct} {d:List CDay} (hR:ruleB r=true) (acts:List Int):canL r d acts.length acts=canB r d acts:=by
 unfold canB
 rcases stg_can (d:=d) hR acts acts.length (Nat.le_refl _) with ⟨h1,h2⟩ | ⟨s,h1,h2,_⟩
 ·rw [List.take_length] at h1; rw [h1,h2]; rfl
 ·rw [List.take_length] at h1; rw [h1,h2]; rfl
theorem runL_eq {a:Int}:∀ (l:List Int) (j:Nat),(∀ k,k < j→l[k]?=some a)→(j=l.length∨∃ b,l[j]?=some b∧b ≠ a)→runL a l=j
 | [],j,h,h2=>by
  rcases h2 with rfl | ⟨b,hb,_⟩
  ·rfl
  ·simp at hb
 | c::l,0,h,h2=>by
  rcases h2 with h2 | ⟨b,hb,hn⟩
  ·simp at h2
  ·have:c=b:=by simpa using hb
   subst this
   unfold runL; rw [if_neg hn]
 | c::l,j + 1,h,h2=>by
  have hc:c=a:=by simpa using h 0 (by omega)
  unfold runL; rw [if_pos hc,runL_eq l j (fun k hk=>by simpa using h (k + 1) (by omega)) (by
   rcases h2 with h2 | ⟨b,hb,hn⟩
   ·exact .inl (by simpa using h2)
   ·exact .inr ⟨b,by simpa using hb,hn⟩)]
def S80:PSpec where
 R args w v:=∃ (rv dv sv:Value) (r:List CAct) (d:List CDay) (so:List Int) (a:Int),args=[rv,dv,sv,.int .i64 a]∧RowsV actC w rv r∧RowsV cdayC w dv d∧RowsV intC w sv so∧ruleB r=true∧daysB d=true∧(∀ z ∈ so,0≤z)∧v=.bool (folB r d so a)
 uniq:=by
  rintro _ _ _ _ ⟨_,_,_,r,d,acts,a,rfl,h1,h2,h3,_,_,_,rfl⟩ ⟨_,_,_,r',d',acts',a',h,k1,k2,k3,_,_,_,rfl⟩
  cases h
  rw [h1.uniq (m:=7) actC_length actC_inj k1,h2.uniq (m:=3) cdayC_length cdayC_inj k2,h3.uniq (m:=1) intC_length intC_inj k3]
 shut h:=h
set_option maxHeartbeats 1000000 in
theorem run80 {ov : Ov} (ho : ∀ args w, ov 80 args w = none) (h39 : HasP ov 39 S39.F) (h46 : HasP ov 46 S46.F) (r : List CAct) (d : List CDay) (hR : ruleB r = true) (hD : daysB d = true) (so : List Int) (a : Int) (hso : ∀ z ∈ so, 0 ≤ z) (rv dv sv : Value) (w : AW) (hl : w.lim = w.next) (hrv : RowsV actC w rv r) (hdv : RowsV cdayC w dv d) (hsv : RowsV intC w sv so) : ∃ x w', (run Tryd.prog ov 2).call 80 [rv, dv, sv, .int .i64 a] w .none = .ok (.ret x) w' .none ∧ x = .bool (folB r d so a) := by
  refine call_wp text80 (by simp) (ho _ _) ?_
  have hl1 := fun w2 => len22V (w' := w2) hrv
  have hl2 := fun w2 => len23V (w' := w2) hdv
  have hl3 := fun w2 => len28V (w' := w2) hsv
  have r39 := fun n a b w => S39.call1 (P := Tryd.prog) h39 (w := w) ⟨n, a, b, rfl, rfl⟩
  have hlr := rule_len hR
  have hdl := days_len hD
  have lw : w.lim ≤ w.next := by omega
  have wr1 : IntKind.wrap .i64 ((r.length : Int) - 1) = (r.length : Int) - 1 := wrap64_in (by omega) (by omega)
  by_cases h1 : d.length ≤ so.length
  · have h1' : (d.length : Int) ≤ so.length := by omega
    have e : folB r d so a = false := by
      unfold folB
      rw [List.getElem?_eq_none h1]
    simp [mc80, hl1, hl2, hl3, h1', h1, e, tupV]
  have h1' : ¬ (d.length : Int) ≤ so.length := by omega
  cases h2 : inI 0 a ((r.length : Int) - 1) with
  | false =>
    have e : folB r d so a = false := by
      have hx : (if 0 ≤ a then r[a.toNat]? else none) = none := by
        by_cases h0 : 0 ≤ a
        · rw [if_pos h0]
          refine List.getElem?_eq_none ?_
          simp only [inI, decide_eq_true h0, Bool.true_and, decide_eq_false_iff_not] at h2
          omega
        · rw [if_neg h0]
      unfold folB
      rw [hx]
      split
      · rename_i h; cases h
      · rfl
    simp [mc80, hl1, hl2, hl3, h1', h1, r39, wr1, h2, e, tupV]
  | true =>
    have h2' := h2
    simp only [inI, Bool.and_eq_true, decide_eq_true_eq] at h2'
    obtain ⟨n, rfl⟩ : ∃ n : Nat, a = (n : Int) := ⟨a.toNat, by omega⟩
    have hn : n < r.length := by omega
    obtain ⟨x, hx⟩ : ∃ p, r[n]? = some p := ⟨_, List.getElem?_eq_getElem hn⟩
    obtain ⟨y, hy⟩ : ∃ p, d[so.length]? = some p := ⟨_, List.getElem?_eq_getElem (by omega)⟩
    obtain ⟨b, off, sq, c, rfl, hra⟩ := hrv.at_ n hn
    obtain ⟨b', off', sq', c', rfl, hda⟩ := hdv.at_ so.length (by omega)
    have hld := hra.rd actC_length hx
    have hia := fun w => ia22 w ⟨b, off, sq⟩ r.length c .i64 n hn
    have hib := fun w => ia23 w ⟨b', off', sq'⟩ d.length c' .i64 so.length (by omega)
    have f0 := hda.rd1 cdayC_length hy (j := 0) (x := .int .i64 y.wl) rfl
    have f2 := hda.rd1 cdayC_length hy (j := 2) (x := .bool y.rain) rfl
    simp only [Nat.add_zero] at f0
    have nb' : ¬ b' = w.next := by have := hda.2; omega
    simp only [actC] at hld
    have e : folB r d so n = (!(decide (y.wl < x.warm) || (x.dry && y.rain)) && (match so.getLast? with
        | none => x.first
        | some z => decide ((runL n so.reverse : Int) < x.most) && (decide (z = n) || bitB x.behind z))) := by
      unfold folB
      rw [hy, if_pos (by omega)]
      simp only [Int.toNat_natCast, hx]
      cases so.getLast? <;> rfl
    by_cases h3 : y.wl < x.warm
    · have e' : folB r d so n = false := by rw [e]; simp [h3]
      simp [mc80, hl1, hl2, hl3, h1', h1, r39, wr1, h2, hia, hld, lw, hib, f0, nb', cellsOf_agg, h3, e', tupV]
    · by_cases h4 : x.dry = true ∧ y.rain = true
      · have e' : folB r d so n = false := by rw [e]; simp [h4.1, h4.2]
        simp [mc80, hl1, hl2, hl3, h1', h1, r39, wr1, h2, hia, hld, lw, hib, f0, f2, nb', cellsOf_agg, h3, h4.1, h4.2, e', tupV]
      · have e2 : folB r d so n = (match so.getLast? with
            | none => x.first
            | some z => decide ((runL n so.reverse : Int) < x.most) && (decide (z = n) || bitB x.behind z)) := by
          rw [e]
          have : (decide (y.wl < x.warm) || (x.dry && y.rain)) = false := by
            rw [decide_eq_false h3, Bool.false_or]
            cases hd : x.dry with
            | false => rfl
            | true => cases hr : y.rain with
              | false => rfl
              | true => exact absurd ⟨hd, hr⟩ h4
          rw [this]; rfl
        have h5 : x.dry = false ∨ (x.dry = true ∧ y.rain = false) := by
          cases hd : x.dry with
          | false => exact .inl rfl
          | true => cases hr : y.rain with
            | false => exact .inr ⟨rfl, rfl⟩
            | true => exact absurd ⟨hd, hr⟩ h4
        by_cases h6 : so = []
        · have e3 : folB r d so n = x.first := by rw [e2, h6]; rfl
          have hz : so.length = 0 := by rw [h6]; rfl
          have hib' : ∀ w, indexAddrA Tryd.prog w 23 (.slice (some ⟨b', off', sq'⟩) d.length c') (.int .i64 0) = .val (.pointer (some ((⟨b', off', sq'⟩ : Addr).add 0))) w := fun w => by simpa [hz] using hib w
          have hl3' : ∀ w2, lenB Tryd.prog w2 28 sv = .val (.int .i64 0) w2 := fun w2 => by simpa [hz] using hl3 w2
          have f0' : rd1O (w.heap.get b') off' = some (.int .i64 y.wl) := by simpa [hz] using f0
          have f2' : rd1O (w.heap.get b') (off' + 2) = some (.bool y.rain) := by simpa [hz] using f2
          have h1z : ¬ (d.length : Int) ≤ 0 := by omega
          have h1n : ¬ d = [] := fun e => by rw [e] at h1z; simp at h1z
          rw [e3]
          rcases h5 with h5 | ⟨h5, h7⟩
          · simp [mc80, hl1, hl2, hl3', h1z, h1n, r39, wr1, h2, hia, hld, lw, hib', f0', f2', nb', cellsOf_agg, h3, h5, tupV]
          · simp [mc80, hl1, hl2, hl3', h1z, h1n, r39, wr1, h2, hia, hld, lw, hib', f0', f2', nb', cellsOf_agg, h3, h5, h7, tupV]
        · have hne : 0 < so.length := by
            cases so with
            | nil => exact absurd rfl h6
            | cons _ _ => simp
          obtain ⟨p, hp⟩ : ∃ p, so.length = p + 1 := ⟨so.length - 1, by omega⟩
          have hz : ¬ (so.length : Int) = 0 := by omega
          obtain ⟨zl, hlast⟩ : ∃ z, so[p]? = some z := ⟨_, List.getElem?_eq_getElem (by omega)⟩
          have hzl : so.getLast? = some zl := by rw [List.getLast?_eq_getElem?, hp]; exact hlast
          have hz0 : 0 ≤ zl := hso zl (List.mem_of_getElem? hlast)
          obtain ⟨b2, off2, sq2, c2, rfl, hsa⟩ := hsv.at_ 0 hne
          obtain ⟨w1, hw1e⟩ : ∃ w1 : AW, w1 = ⟨(w.heap.put w.next (some (.cells [.int .i64 0, .int .i64 0, .bool false, .bool false, .int .i64 0, .int .i64 0, .int .i64 0] 78 false))).put w.next (some (.cells [.int .i64 x.warm, .int .i64 x.behind, .bool x.dry, .bool x.first, .int .i64 x.most, .int .i64 x.ll, .int .i64 x.lh] 78 false)), w.next + 1, w.lim⟩ := ⟨_, rfl⟩
          have u1 : Up w w1 := by rw [hw1e]; exact ((Up.refl w).add _).put (Nat.le_refl _) (Nat.le_refl _)
          have g10 : w1.heap.get w.next = some (.cells [.int .i64 x.warm, .int .i64 x.behind, .bool x.dry, .bool x.first, .int .i64 x.most, .int .i64 x.ll, .int .i64 x.lh] 78 false) := by rw [hw1e]; simp
          have ls : ∀ k z, so[k]? = some z → rd1O (w1.heap.get b2) (off2 + k) = some (.int .i64 z) := fun k z h => by rw [u1.at hsa.2]; exact hsa.int h
          have hic : ∀ w k, k < so.length → indexAddrA Tryd.prog w 28 (.slice (some ⟨b2, off2, sq2⟩) so.length c2) (.int .i64 (k : Nat)) = .val (.pointer (some ((⟨b2, off2, sq2⟩ : Addr).add k))) w := fun w k hk => by simpa using ia28 w ⟨b2, off2, sq2⟩ so.length c2 .i64 k hk
          have wl1 : IntKind.wrap .i64 ((so.length : Int) - 1) = (p : Int) := by rw [wrap64_in (by omega) (by omega)]; omega
          have r46 := fun w => S46.call1 (P := Tryd.prog) h46 (w := w) ⟨x.behind, zl, rfl, hz0, rfl⟩
          have hlp := hic
          have lsl := ls p zl hlast
          have e3 : folB r d so n = (decide ((runL n so.reverse : Int) < x.most) && (decide (zl = n) || bitB x.behind zl)) := by
            rw [e2, hzl]
          rw [e3]
          rcases h5 with h5 | ⟨h5, h7⟩
          case' inl => simp [mc80, hl1, hl2, hl3, h1', h1, r39, wr1, h2, hia, hld, lw, hib, f0, f2, nb', cellsOf_agg, h3, h5, hz, h6]
          case' inr => simp [mc80, hl1, hl2, hl3, h1', h1, r39, wr1, h2, hia, hld, lw, hib, f0, f2, nb', cellsOf_agg, h3, h5, h7, hz, h6]
          all_goals rw [h5] at hw1e
          all_goals rw [← hw1e]
          all_goals refine wp_seqX (wp_blockX (wp.mono (wp_rounds (Q := fun ex t w' => ex = .exit 0 ∧ w' = w1 ∧ tget t 2 = .slice (some ⟨b2, off2, sq2⟩) so.length c2 ∧ tget t 3 = .int .i64 (n : Nat) ∧ tget t 9 = .int .i64 (so.length : Nat) ∧ tget t 10 = .pointer (some ⟨w.next, 0, none⟩) ∧ tget t 11 = .int .i64 (runL n so.reverse : Nat)) (fun j t w' => w' = w1 ∧ tget t 2 = .slice (some ⟨b2, off2, sq2⟩) so.length c2 ∧ tget t 3 = .int .i64 (n : Nat) ∧ tget t 9 = .int .i64 (so.length : Nat) ∧ tget t 10 = .pointer (some ⟨w.next, 0, none⟩) ∧ tget t 11 = .int .i64 (j : Nat) ∧ j ≤ so.length ∧ ∀ k, k < j → so.reverse[k]? = some (n : Int)) 20 (by decide) ⟨rfl, by simp, by simp, by simp, by simp, by simp, by omega, fun k hk => by omega⟩ ?_) ?_))
          all_goals first
            | (rintro j t w' ⟨rfl, t2, t3, t9, t10, t11, hj, hall⟩
               by_cases hlt : j < so.length
               · obtain ⟨k, hk⟩ : ∃ k, p = j + k := ⟨p - j, by omega⟩
                 have hkl : k < so.length := by omega
                 obtain ⟨z, hzk⟩ : ∃ z, so[k]? = some z := ⟨_, List.getElem?_eq_getElem hkl⟩
                 have wk : IntKind.wrap .i64 ((p : Int) - (j : Int)) = (k : Int) := by rw [wrap64_in (by omega) (by omega)]; omega
                 have wj : IntKind.wrap .i64 ((j : Int) + 1) = (j : Int) + 1 := wrap64_in (by omega) (by omega)
                 have hrev : so.reverse[j]? = some z := by
                   rw [List.getElem?_reverse hlt, ← hzk]; congr 1; omega
                 have lsk := ls k z hzk
                 have hik := fun w => hic w k hkl
                 by_cases hzn : z = (n : Int)
                 · rw [hzn] at lsk hrev
                   simp [mc80_l0, t2, t3, t9, t10, t11, hlt, wl1, wk, wj, hik, lsk]
                   refine ⟨by omega, by omega, fun q hq => ?_⟩
                   by_cases hqj : q = j
                   · rw [hqj]; exact hrev
                   · exact hall q (by omega)
                 · have hrl : runL n so.reverse = j := runL_eq _ j hall (.inr ⟨z, hrev, hzn⟩)
                   simp [mc80_l0, t2, t3, t9, t10, t11, hlt, wl1, wk, wj, hik, lsk, hzn, hrl]
               · have hjl : j = so.length := by omega
                 have hrl : runL n so.reverse = j := runL_eq _ j hall (.inl (by rw [List.length_reverse]; exact hjl))
                 subst hjl
                 simp [mc80_l0, t2, t3, t9, t10, t11, hrl])
            | (rintro ex t w' ⟨rfl, rfl, t2, t3, t9, t10, t11⟩
               have hil := fun w => hic w p (by omega)
               by_cases m1 : (runL n so.reverse : Int) < x.most
               · by_cases m2 : zl = (n : Int)
                 · rw [m2] at lsl r46
                   simp [t2, t3, t9, t10, t11, g10, wl1, hil, lsl, r46, m1, m2, tupV]
                 · simp [t2, t3, t9, t10, t11, g10, wl1, hil, lsl, r46, m1, m2, tupV]
               · simp [t2, t3, t9, t10, t11, g10, m1, tupV])
theorem slice_head {P:Program} {st e:TypeId} {sz:Nat} (h1:elemA P st=some e) (h2:szOf P e=some sz) {w:AW} {a:Addr} {n c k:Nat} {cs:List Value} {e':TypeId} {ro:Bool} (hg:w.heap.get a.block=some (.cells cs e' ro)) (hk:k≤c) :
  sliceA P w st (.slice (some a) n c) none (some (.int .i64 (k:Int))) none=.val (.slice (some ⟨a.block,a.off,bif Nat.beq e e' && a.spot.isNone then none else some 1⟩) k c) w:=by
 show sliceA P w st (.slice (some a) n c) none (some (.int .i64 (Int.ofNat k))) none=_
 have hb':Nat.ble k c=true:=Nat.ble_eq_true_of_le hk
 simp [sliceA,sliceB1,h1,h2,sliceRow,boundA,hb',cutR,cutAddr,rowElem,hg]
theorem elem28:elemA Tryd.prog 28=some 3:=by kernel_rfl
theorem sz3:szOf Tryd.prog 3=some 1:=by kernel_rfl
theorem RowsA.head {α:Type} {f:α→List Value} {w:AW} {b off:Nat} {l:List α} (h:RowsA f w.heap w.next b off l) {i:Nat} (hi:i≤l.length) (sq:Option Nat) (c:Nat):RowsV f w (.slice (some ⟨b,off,sq⟩) i c) (l.take i):=by
 obtain ⟨⟨pre,rest,e,ro,h1,h2⟩,h3⟩:=h
 refine .inr ⟨b,off,sq,c,by rw [List.length_take,Nat.min_eq_left hi],⟨pre,(l.drop i).flatMap f++rest,e,ro,?_,h2⟩,h3⟩
 rw [h1,← List.append_assoc ((l.take i).flatMap f),← List.flatMap_append,List.take_append_drop]
theorem canL_false {r:List CAct} {d:List CDay} {acts:List Int} {i:Nat} (h:canL r d i acts=false):∀ n,i≤n→canL r d n acts=false
 | 0,hn=>by
  have:i=0:=by omega
  rw [← this]; exact h
 | n + 1,hn=>by
  by_cases e:i=n + 1
  ·rw [← e]; exact h
  ·show (canL r d n acts && _)=false
   rw [canL_false h n (by omega)]; rfl
def CapV (v:Value):Prop:=∃ a n c,v=.slice a n c∧n≤c
def S52:PSpec where
 R args w v:=∃ (rv dv av:Value) (r:List CAct) (d:List CDay) (acts:List Int),args=[rv,dv,av]∧RowsV actC w rv r∧RowsV cdayC w dv d∧RowsV intC w av acts∧CapV av∧ruleB r=true∧daysB d=true∧v=.bool (canB r d acts)
 uniq:=by
  rintro _ _ _ _ ⟨_,_,_,r,d,acts,rfl,h1,h2,h3,_,_,_,rfl⟩ ⟨_,_,_,r',d',acts',h,k1,k2,k3,_,_,_,rfl⟩
  cases h
  rw [h1.uniq (m:=7) actC_length actC_inj k1,h2.uniq (m:=3) cdayC_length cdayC_inj k2,h3.uniq (m:=1) intC_length intC_inj k3]
 shut h:=h
theorem run52 {ov:Ov} (ho:∀ args w,ov 52 args w=none) (h80:HasP ov 80 S80.F) (r:List CAct) (d:List CDay) (hR:ruleB r=true) (hD:daysB d=true) (acts:List Int) (rv dv av:Value) (w:AW) (hrv:RowsV actC w rv r) (hdv:RowsV cdayC w dv d) (hav:RowsV intC w av acts) (hcap:CapV av):∃ x w',(run Tryd.prog ov 2).call 52 [rv,dv,av] w .none=.ok (.ret x) w' .none∧x=.bool (canB r d acts):=by
 refine call_wp text52 (by simp) (ho _ _) ?_
 have hl3:=fun w2=>len28V (w':=w2) hav
 have hdl:=days_len hD
 simp [mc52]
 refine wp_seqX (wp_blockX (wp_rounds (fun i t w'=>w'=w∧tget t 0=rv∧tget t 1=dv∧tget t 2=av∧tget t 7=.int .i64 (i:Nat)∧i≤acts.length∧canL r d i acts=true) 20 (by decide) ⟨rfl,by simp,by simp,by simp,by simp,by omega,rfl⟩ ?_))
 rintro i t w' ⟨rfl,t0,t1,t2,t7,hi,hc⟩
 by_cases hlt:i < acts.length
 ·obtain ⟨a,ha⟩:∃ p,acts[i]?=some p:=⟨_,List.getElem?_eq_getElem hlt⟩
  obtain ⟨b,off,sq,c,rfl,hra⟩:=hav.at_ i hlt
  obtain ⟨_,_,_,hce,hcn⟩:=hcap
  cases hce
  have hld:=hra.int ha
  have hia:=fun w=>ia28 w ⟨b,off,sq⟩ acts.length c .i64 i hlt
  simp only [Nat.mul_one] at hia
  obtain ⟨⟨pre,rest,e',ro,hg,hpre⟩,hb⟩:=id hra
  have hsl:=slice_head elem28 sz3 (w:=w') (a:=⟨b,off,sq⟩) (n:=acts.length) (c:=c) (k:=i) hg (by omega)
  have hsr:=RowsA.head (w:=w') hra (i:=i) hi (bif Nat.beq 3 e' && sq.isNone then none else some 1) c
  have hs:∃ s,stgF r d startS (acts.take i)=some s:=by
   rcases stg_can (d:=d) hR acts i hi with ⟨_,h2⟩ | ⟨s,h1,_⟩
   ·rw [hc] at h2; cases h2
   ·exact ⟨s,h1⟩
  obtain ⟨s,hs⟩:=hs
  have hid:i≤d.length:=by
   have:=stg_len hR hs
   rw [List.length_take,Nat.min_eq_left hi] at this; exact this
  have hw1:IntKind.wrap .i64 ((i:Int) + 1)=(i:Int) + 1:=wrap64_in (by omega) (by omega)
  have r80:=S80.call1 (P:=Tryd.prog) h80 ⟨rv,dv,_,r,d,acts.take i,a,rfl,hrv,hdv,hsr,hR,hD,fun z hz=>(stg_acts _ _ _ hs z hz).1,rfl⟩
  have hg1:acts.getD i 0=a:=by rw [List.getD_eq_getElem?_getD,ha]; rfl
  have hcs:canL r d (i + 1) acts=folB r d (acts.take i) a:=by
   show (canL r d i acts && folB r d (acts.take i) (acts.getD i 0))=_
   rw [hc,hg1,Bool.true_and]
  cases hf:folB r d (acts.take i) a with
  | false =>
   rw [hf] at r80 hcs
   have e:canB r d acts=false:=by rw [← can_eq hR]; exact canL_false hcs _ hlt
   simp [mc52_l0,t0,t1,t2,t7,hl3,hlt,hia,hld,hsl,r80,e,tupV]
  | true =>
   rw [hf] at r80 hcs
   simp [mc52_l0,t0,t1,t2,t7,hl3,hlt,hia,hld,hsl,r80,hw1]
   exact ⟨by omega,hlt,hcs⟩
 ·have hi':i=acts.length:=by omega
  subst hi'
  have e:canB r d acts=true:=by rw [← can_eq hR]; exact hc
  simp [mc52_l0,t0,t1,t2,t7,hl3,e,tupV]
def S15:PSpec where
 R args w v:=∃ (x y:Value) (r:List CAct) (d:List CDay),args=[x,y]∧RowsV actC w x r∧RowsV cdayC w y d∧v=.int .i64 (chkE r d)
 uniq:=by
  rintro _ _ _ _ ⟨x,y,r,d,rfl,h1,h2,rfl⟩ ⟨_,_,r',d',h,k1,k2,rfl⟩
  cases h
  rw [h1.uniq (m:=7) actC_length actC_inj k1,h2.uniq (m:=3) cdayC_length cdayC_inj k2]
 shut h:=h
def S73:PSpec where
 R args w v:=∃ (rv dv:Value) (r:List CAct) (d:List CDay) (b:CBox),args=[rv,dv,.agg ⟨boxC b⟩]∧RowsV actC w rv r∧RowsV cdayC w dv d∧LimW w∧v=.int .i64 (bxE r d b)
 uniq:=by
  rintro _ _ _ _ ⟨_,_,r,d,⟨_,_,_,_⟩,rfl,h1,h2,_,rfl⟩ ⟨_,_,r',d',⟨_,_,_,_⟩,h,k1,k2,_,rfl⟩
  cases h
  rw [h1.uniq (m:=7) actC_length actC_inj k1,h2.uniq (m:=3) cdayC_length cdayC_inj k2]
 shut h:=h
theorem run73 {ov:Ov} (ho:∀ args w,ov 73 args w=none) (h14:HasP ov 14 S14.F) (h94:HasP ov 94 S94.F) (r:List CAct) (d:List CDay) (b:CBox) (rv dv:Value) (w:AW) (hrv:RowsV actC w rv r) (hdv:RowsV cdayC w dv d) (hL:LimW w):∃ x w',(run Tryd.prog ov 2).call 73 [rv,dv,.agg ⟨boxC b⟩] w .none=.ok (.ret x) w' .none∧x=.int .i64 (bxE r d b):=by
 refine call_wp text73 (by simp) (ho _ _) ?_
 have u1:Up w ⟨w.heap.put w.next (some (.cells [.int .i64 b.wl,.int .i64 b.wh,.int .i64 b.sl,.int .i64 b.sh] 27 false)),w.next + 1,w.lim⟩:=(Up.refl w).add _
 have r14:=S14.call1 (P:=Tryd.prog) h14 ⟨rv,dv,r,d,rfl,hrv.up u1,hdv.up u1,hL.up u1,rfl⟩
 have r94:=S94.call1 (P:=Tryd.prog) h94 ⟨b,rfl,hL.up u1,rfl⟩
 simp only [boxC] at r94 ⊢
 by_cases hE:chkE r d=0
 ·rw [hE] at r14
  cases hB:boxB b <;> rw [hB] at r94 <;> simp [mc73,r14,r94,bxE,hE,hB,cellsOf_agg,tupV]
 ·simp [mc73,r14,bxE,hE,cellsOf_agg,tupV]
def S76:PSpec where
 R args w v:=∃ (rv dv:Value) (r:List CAct) (d:List CDay) (b:CBox),args=[rv,dv,.agg ⟨boxC b⟩]∧RowsV actC w rv r∧RowsV cdayC w dv d∧v=.int .i64 (bxE r d b)
 uniq:=by
  rintro _ _ _ _ ⟨_,_,r,d,⟨_,_,_,_⟩,rfl,h1,h2,rfl⟩ ⟨_,_,r',d',⟨_,_,_,_⟩,h,k1,k2,rfl⟩
  cases h
  rw [h1.uniq (m:=7) actC_length actC_inj k1,h2.uniq (m:=3) cdayC_length cdayC_inj k2]
 shut h:=h
theorem run76 {ov:Ov} (ho:∀ args w,ov 76 args w=none) (h15:HasP ov 15 S15.F) (h55:HasP ov 55 S55.F) (r:List CAct) (d:List CDay) (b:CBox) (rv dv:Value) (w:AW) (hrv:RowsV actC w rv r) (hdv:RowsV cdayC w dv d):∃ x w',(run Tryd.prog ov 2).call 76 [rv,dv,.agg ⟨boxC b⟩] w .none=.ok (.ret x) w' .none∧x=.int .i64 (bxE r d b):=by
 refine call_wp text76 (by simp) (ho _ _) ?_
 have u1:Up w ⟨w.heap.put w.next (some (.cells [.int .i64 b.wl,.int .i64 b.wh,.int .i64 b.sl,.int .i64 b.sh] 27 false)),w.next + 1,w.lim⟩:=(Up.refl w).add _
 have r15:=S15.call1 (P:=Tryd.prog) h15 ⟨rv,dv,r,d,rfl,hrv.up u1,hdv.up u1,rfl⟩
 have r55:=fun lo hi a b w=>S55.call1 (P:=Tryd.prog) h55 (w:=w) ⟨lo,hi,a,b,rfl,rfl⟩
 simp only [boxC] at ⊢
 by_cases hE:chkE r d=0
 ·rw [hE] at r15
  cases hB1:spanI b.wl b.wh 1 1000000 with
  | false=>simp [mc76,r15,r55,bxE,boxB,hE,hB1,cellsOf_agg,tupV]
  | true=>cases hB2:spanI b.sl b.sh 1 1000000 <;> simp [mc76,r15,r55,bxE,boxB,hE,hB1,hB2,cellsOf_agg,tupV]
 ·simp [mc76,r15,bxE,hE,cellsOf_agg,tupV]
def S56:PSpec where
 R args w v:=∃ (rv dv av:Value) (r:List CAct) (d:List CDay) (b:CBox) (acts:List Int),args=[rv,dv,.agg ⟨boxC b⟩,av]∧RowsV actC w rv r∧RowsV cdayC w dv d∧RowsV intC w av acts∧LimW w∧w.lim≤w.next∧v=.int .i64 (actE r d b acts)
 uniq:=by
  rintro _ _ _ _ ⟨_,_,_,r,d,⟨_,_,_,_⟩,acts,rfl,h1,h2,h3,_,_,rfl⟩ ⟨_,_,_,r',d',⟨_,_,_,_⟩,acts',h,k1,k2,k3,_,_,rfl⟩
  cases h
  rw [h1.uniq (m:=7) actC_length actC_inj k1,h2.uniq (m:=3) cdayC_length cdayC_inj k2,h3.uniq (m:=1) intC_length intC_inj k3]
 shut:=fun ⟨rv,dv,av,r,d,b,acts,h1,h2,h3,h4,h5,_,h6⟩=>⟨rv,dv,av,r,d,b,acts,h1,h2,h3,h4,h5,Nat.le_refl _,h6⟩
theorem run56 {ov:Ov} (ho:∀ args w,ov 56 args w=none) (h73:HasP ov 73 S73.F) (h51:HasP ov 51 S51.F) (r:List CAct) (d:List CDay) (b:CBox) (acts:List Int) (rv dv av:Value) (w:AW) (hl:w.lim=w.next) (hrv:RowsV actC w rv r) (hdv:RowsV cdayC w dv d) (hav:RowsV intC w av acts) (hL:LimW w):∃ x w',(run Tryd.prog ov 2).call 56 [rv,dv,.agg ⟨boxC b⟩,av] w .none=.ok (.ret x) w' .none∧x=.int .i64 (actE r d b acts):=by
 refine call_wp text56 (by simp) (ho _ _) ?_
 have u1:Up w ⟨w.heap.put w.next (some (.cells [.int .i64 b.wl,.int .i64 b.wh,.int .i64 b.sl,.int .i64 b.sh] 27 false)),w.next + 1,w.lim⟩:=(Up.refl w).add _
 have r73:=S73.call1 (P:=Tryd.prog) h73 ⟨rv,dv,r,d,b,rfl,hrv.up u1,hdv.up u1,hL.up u1,rfl⟩
 have lw:w.lim≤w.next + 1:=by omega
 simp only [boxC] at r73 ⊢
 by_cases hE:bxE r d b=0
 ·obtain ⟨hR,hD,_⟩:=bx_of hE
  have r51:=S51.call1 (P:=Tryd.prog) h51 ⟨rv,dv,av,r,d,acts,rfl,hrv.up u1,hdv.up u1,hav.up u1,hR,hD,rfl⟩
  obtain ⟨p1,p2,rfl⟩:=hrv.len
  obtain ⟨p3,p4,rfl⟩:=hdv.len
  rw [hE] at r73
  cases hs:stgF r d startS acts with
  | none =>
   rw [hs] at r51
   simp only [stgR,stgC] at r51
   simp [mc56,r73,r51,actE,hE,hs,lw,cellsOf_agg,tupV]
  | some s =>
   rw [hs] at r51
   simp only [stgR,stgC] at r51
   simp [mc56,r73,r51,actE,hE,hs,lw,cellsOf_agg,tupV]
 ·simp [mc56,r73,actE,hE,cellsOf_agg,tupV]
theorem un_neg (k:IntKind) (a:Int):unS .neg (.int k a)=some (.int k (k.wrap (-a))):=by
 simp [unS,negA,wrapA_eq]
def clI (c b:Int):Int:=(c + b - 1) / b
theorem cl_split {c b:Int} (hb:0 < b):clI c b=c / b + if c % b=0 then 0 else 1:=by
 unfold clI
 have h:=Int.emod_add_mul_ediv c b
 have h0:=Int.emod_nonneg c (by omega:b ≠ 0)
 have h1:=Int.emod_lt_of_pos c hb
 have e:c + b - 1=(c % b + b - 1) + (c / b) * b:=by rw [Int.mul_comm]; omega
 rw [e,Int.add_mul_ediv_right _ _ (by omega)]
 by_cases hm:c % b=0
 ·rw [if_pos hm,hm,show (0:Int) + b - 1=b - 1 by omega,Int.ediv_eq_zero_of_lt (by omega) (by omega)]; omega
 ·rw [if_neg hm,show c % b + b - 1=(c % b - 1) + 1 * b by omega,Int.add_mul_ediv_right _ _ (by omega),Int.ediv_eq_zero_of_lt (by omega) (by omega)]; omega
theorem div_le {c b:Int} (hc:0≤c) (hb:0 < b):0≤c / b∧c / b≤c:=by
 refine ⟨Int.ediv_nonneg hc (by omega),?_⟩
 exact Int.ediv_le_self _ hc
def S101:PSpec where
 R args _ v:=∃ c b:Int,args=[.int .i64 (-c),.int .i64 b]∧(0≤c∧c≤10000000000)∧0 < b∧v=.int .i64 (-(clI c b))
 uniq:=by
  rintro _ _ _ _ ⟨c,b,rfl,_,_,rfl⟩ ⟨c',b',h,_,_,rfl⟩
  simp only [List.cons.injEq,Value.int.injEq,true_and,and_true] at h
  obtain ⟨h1,rfl⟩:=h
  have:c=c':=by omega
  rw [this]
 shut h:=h
theorem run101 {ov:Ov} (ho:∀ args w,ov 101 args w=none) (c b:Int) (hc:0≤c∧c≤10000000000) (hb:0 < b) (w:AW):∃ x w',(run Tryd.prog ov 2).call 101 [.int .i64 (-c),.int .i64 b] w .none=.ok (.ret x) w' .none∧x=.int .i64 (-(clI c b)):=by
 refine call_wp text101 (by simp) (ho _ _) ?_
 have hb0:b ≠ 0:=by omega
 have hd:=div_le hc.1 hb
 have e1:(-c).tdiv b = -(c / b):=by rw [Int.neg_tdiv,Int.tdiv_eq_ediv_of_nonneg hc.1]
 have e2:(-c).tmod b = -(c % b):=by rw [Int.neg_tmod,Int.tmod_eq_emod_of_nonneg hc.1]
 have h0:=Int.emod_nonneg c hb0
 have hs:=cl_split (c:=c) hb
 have w1:IntKind.wrap .i64 (-(c / b)) = -(c / b):=wrap64_in (by omega) (by omega)
 have w2:IntKind.wrap .i64 (-(c / b) - 1) = -(c / b) - 1:=wrap64_in (by omega) (by omega)
 by_cases hm:c % b=0
 ·have h3:¬ -(c % b) < 0:=by omega
  rw [if_pos hm] at hs
  have e4 : -(c / b) = -(clI c b):=by omega
  simp [mc101,bin_quo (h:=hb0),bin_rem (h:=hb0),e1,e2,w1,hm,tupV]
  omega
 ·have h3 : -(c % b) < 0:=by omega
  have h4:0 < c % b:=by omega
  rw [if_neg hm] at hs
  simp [mc101,bin_quo (h:=hb0),bin_rem (h:=hb0),e1,e2,w1,w2,h4,tupV]
  omega
def S85:PSpec where
 R args _ v:=∃ c b:Int,args=[.int .i64 c,.int .i64 b]∧(0≤c∧c≤10000000000)∧0 < b∧v=.int .i64 (clI c b)
 uniq:=by rintro _ _ _ _ ⟨c,b,rfl,_,_,rfl⟩ ⟨c',b',h,_,_,rfl⟩; cases h; rfl
 shut h:=h
theorem cl_bd {c b:Int} (hc:0≤c) (hb:0 < b):0≤clI c b∧clI c b≤c + 1:=by
 have:=div_le hc hb
 rw [cl_split hb]
 split <;> omega
theorem run85 {ov:Ov} (ho:∀ args w,ov 85 args w=none) (h101:HasP ov 101 S101.F) (c b:Int) (hc:0≤c∧c≤10000000000) (hb:0 < b) (w:AW):∃ x w',(run Tryd.prog ov 2).call 85 [.int .i64 c,.int .i64 b] w .none=.ok (.ret x) w' .none∧x=.int .i64 (clI c b):=by
 refine call_wp text85 (by simp) (ho _ _) ?_
 have r101:=fun w=>S101.call1 (P:=Tryd.prog) h101 (w:=w) ⟨c,b,rfl,hc,hb,rfl⟩
 have hd:=cl_bd hc.1 hb
 have w1:IntKind.wrap .i64 (-c) = -c:=wrap64_in (by omega) (by omega)
 have w2:IntKind.wrap .i64 (clI c b)=clI c b:=wrap64_in (by omega) (by omega)
 simp [mc85,un_neg,r101,w1,w2,tupV]
def S61:PSpec where
 R args _ v:=∃ x s:Int,args=[.int .i64 x,.int .i64 s]∧(1≤s∧s≤x∧x≤1000000)∧v=.int .i64 (moI x s)
 uniq:=by rintro _ _ _ _ ⟨c,b,rfl,_,rfl⟩ ⟨c',b',h,_,rfl⟩; cases h; rfl
 shut h:=h
theorem run61 {ov:Ov} (ho:∀ args w,ov 61 args w=none) (h85:HasP ov 85 S85.F) (x s:Int) (h:1≤s∧s≤x∧x≤1000000) (w:AW):∃ v w',(run Tryd.prog ov 2).call 61 [.int .i64 x,.int .i64 s] w .none=.ok (.ret v) w' .none∧v=.int .i64 (moI x s):=by
 refine call_wp text61 (by simp) (ho _ _) ?_
 have r85:=fun w=>S85.call1 (P:=Tryd.prog) h85 (w:=w) ⟨1000 * (x - s),x,rfl,⟨by omega,by omega⟩,by omega,rfl⟩
 have w1:IntKind.wrap .i64 (x - s)=x - s:=wrap64_in (by omega) (by omega)
 have w2:IntKind.wrap .i64 (1000 * (x - s))=1000 * (x - s):=wrap64_in (by omega) (by omega)
 simp [mc61,r85,w1,w2,tupV,clI,moI]
theorem mo_bd {x s:Int} (h:1≤s∧s≤x∧x≤1000000):0≤moI x s∧moI x s≤1001000000:=by
 have:=div_le (c:=1000 * (x - s) + x - 1) (b:=x) (by omega) (by omega)
 unfold moI; omega
theorem run84 {ov:Ov} (ho:∀ args w,ov 84 args w=none) (x s:Int) (h:1≤s∧s≤x∧x≤1000000) (w:AW):∃ v w',(run Tryd.prog ov 2).call 84 [.int .i64 x,.int .i64 s] w .none=.ok (.ret v) w' .none∧v=.int .i64 (moI x s):=by
 refine call_wp text84 (by simp) (ho _ _) ?_
 have w1:IntKind.wrap .i64 (x - s)=x - s:=wrap64_in (by omega) (by omega)
 have w2:IntKind.wrap .i64 (1000 * (x - s))=1000 * (x - s):=wrap64_in (by omega) (by omega)
 have w3:IntKind.wrap .i64 (1000 * (x - s) + x)=1000 * (x - s) + x:=wrap64_in (by omega) (by omega)
 have w4:IntKind.wrap .i64 (1000 * (x - s) + x - 1)=1000 * (x - s) + x - 1:=wrap64_in (by omega) (by omega)
 have hx:x ≠ 0:=by omega
 have hb:=mo_bd h
 have e:(1000 * (x - s) + x - 1).tdiv x=moI x s:=by rw [Int.tdiv_eq_ediv_of_nonneg (by omega)]; rfl
 have w5:IntKind.wrap .i64 (moI x s)=moI x s:=wrap64_in (by omega) (by omega)
 simp [mc84,bin_quo (h:=hx),w1,w2,w3,w4,w5,e,tupV]
theorem list28:isList Tryd.prog 28=true:=by kernel_rfl
theorem small3:smallT Tryd.prog 3=true:=by kernel_rfl
def spC (p:Sp):List Value:=[.int .i64 p.1,.int .i64 p.2]
@[simp] theorem spC_length (p:Sp):(spC p).length=2:=rfl
theorem spC_inj (a b:Sp) (h:spC a=spC b):a=b:=by
 cases a; cases b; simpa [spC] using h
theorem mk43 (n:Nat) (hn:n≤1000) (w:AW):makeSliceA Tryd.prog w 43 (.int .i64 (n:Int)) (.int .i64 (n:Int))=.val (.slice (some ⟨w.next,0,none⟩) n n) ⟨w.heap.put w.next (some (.cells ((List.replicate n ((0,0):Sp)).flatMap spC) 25 false)),w.next + 1,w.lim⟩:=by
 rw [make_eq (e:=25) (z:=.agg ⟨[.int .i64 0,.int .i64 0]⟩) (by kernel_rfl) (by kernel_rfl) (by kernel_rfl) n hn w,← repl_flat]; rfl
def partL (L:List Sp) (n i:Nat):List Sp:=L.take i++List.replicate (n - i) (0,0)
theorem part_zero (L:List Sp) (n:Nat):partL L n 0=List.replicate n (0,0):=by simp [partL]
theorem part_full (L:List Sp):partL L L.length L.length=L:=by simp [partL]
theorem part_length {L:List Sp} {i:Nat} (h:i≤L.length):(partL L L.length i).length=L.length:=by simp [partL]; omega
theorem part_set {L:List Sp} {i:Nat} {x:Sp} (h:L[i]?=some x):(partL L L.length i).set i x=partL L L.length (i + 1):=by
 have hi:=(List.getElem?_eq_some_iff.1 h).1
 unfold partL
 rw [take_snoc h]
 obtain ⟨k,hk⟩:∃ k,L.length - i=k + 1:=⟨L.length - i - 1,by omega⟩
 rw [hk,List.replicate_succ,List.set_append_right _ _ (by rw [List.length_take]; omega)]
 rw [show i - (L.take i).length=0 by rw [List.length_take]; omega,List.set_cons_zero,show L.length - (i + 1)=k by omega]
 simp
def ProcV (w:AW) (pv:Value) (L:List Sp):Prop:=∃ B,pv=.slice (some ⟨B,0,none⟩) L.length L.length∧w.heap.get B=some (.cells (L.flatMap spC) 25 false)∧B < w.next
theorem ProcV.rows {w:AW} {pv:Value} {L:List Sp} (h:ProcV w pv L):RowsV spC w pv L:=by
 obtain ⟨B,rfl,h1,h2⟩:=h
 exact .inr ⟨B,0,none,_,rfl,⟨[],[],25,false,by simpa using h1,rfl⟩,h2⟩
theorem ProcV.up {w w':AW} {pv:Value} {L:List Sp} (h:ProcV w pv L) (u:Up w w'):ProcV w' pv L:=by
 obtain ⟨B,rfl,h1,h2⟩:=h
 exact ⟨B,rfl,by rw [u.at h2]; exact h1,Nat.lt_of_lt_of_le h2 u.next⟩
def procC (b:CBox) (pv:Value):List Value:=[.int .i64 b.wl,.int .i64 b.wh,.int .i64 b.sl,.int .i64 b.sh,pv]
set_option maxHeartbeats 1000000 in
theorem call57 {ov:Ov} (m:Nat) (ho:∀ args w,ov 57 args w=none) (r:List CAct) (acts:List Int) (hact:∀ a ∈ acts,0≤a∧∃ x,r[a.toNat]?=some x) (hlen:acts.length≤14) (b:CBox) (rv av:Value) (we:AW) (hlim:we.lim≤we.next) (hrv:RowsV actC we rv r) (hav:RowsV intC we av acts) :
  ∃ v w',(run Tryd.prog ov (m + 1)).call 57 [rv,.agg ⟨boxC b⟩,av] we .none=.ok (.ret v) w' .none∧∃ pv,v=.agg ⟨procC b pv⟩∧ProcV w' pv (lossL r acts)∧Up we w':=by
 refine call_wp text57 (by simp) (ho _ _) ?_
 have hl3:=fun w2=>len28V (w':=w2) hav
 have hLl:(lossL r acts).length=acts.length:=by simp [lossL]
 have sm:sameVal 5 (.agg ⟨[.int .i64 b.wl,.int .i64 b.wh,.int .i64 b.sl,.int .i64 b.sh]⟩) (.agg ⟨[.int .i64 b.wl,.int .i64 b.wh,.int .i64 b.sl,.int .i64 b.sh]⟩)=true:=same_agg _ (by
  intro v hv
  simp only [List.mem_cons,List.not_mem_nil,or_false] at hv
  rcases hv with rfl | rfl | rfl | rfl <;> exact sameN_int _ _ _)
 have q1:we.lim≤we.next + 1 + 1 + 1:=by omega
 have hmk:=fun w=>mk43 acts.length (by omega) w
 simp only [boxC]
 simp [mc57,cellsOf_agg,hl3,hmk,sm,q1]
 refine wp_seqX (wp_blockX (wp_rounds (fun i t w=>w.heap.get (we.next + 1 + 1)=some (.cells ((partL (lossL r acts) (lossL r acts).length i).flatMap spC) 25 false)∧w.heap.get (we.next + 1 + 1 + 1)=some (.cells [.int .i64 b.wl,.int .i64 b.wh,.int .i64 b.sl,.int .i64 b.sh,.slice (some ⟨we.next + 1 + 1,0,none⟩) acts.length acts.length] 97 false)∧w.heap.get (we.next + 1)=some (.cells [.int .i64 0,.int .i64 0,.int .i64 0,.int .i64 0,.slice none 0 0] 97 false)∧Up we w∧we.next + 4≤w.next∧tget t 0=rv∧tget t 2=av∧tget t 6=.pointer (some ⟨we.next + 1,0,none⟩)∧tget t 7=.pointer (some ⟨we.next + 1 + 1 + 1,0,none⟩)∧tget t 15=.int .i64 (acts.length:Nat)∧tget t 16=.int .i64 (i:Nat)∧i≤acts.length) 20 (by decide) ?_ ?_))
 ·refine ⟨?_,?_,?_,?_,?_,?_,?_,?_,?_,?_,?_,Nat.zero_le _⟩
  ·rw [part_zero,hLl]; simp
  ·simp
  ·simp
  ·exact (((((Up.refl we).add _).put (Nat.le_succ _) (Nat.le_succ _)).put (by show we.next≤we.next + 1 + 1; omega) (Nat.le_succ _)).put (by show we.next≤we.next + 1 + 1 + 1; omega) (Nat.le_succ _)).put (by show we.next≤we.next + 1 + 1 + 1; omega) (Nat.le_refl _)
  ·show we.next + 4≤we.next + 1 + 1 + 1 + 1; omega
  all_goals simp
 ·rintro i t w ⟨hB,h7,h6,hup,hnx,t0,t2,t6,t7,t15,t16,hi⟩
  have hlm:w.lim=we.lim:=hup.lim
  by_cases hlt:i < acts.length
  ·obtain ⟨a,ha⟩:∃ p,acts[i]?=some p:=⟨_,List.getElem?_eq_getElem hlt⟩
   obtain ⟨ha0,x,hx⟩:=hact a (List.mem_of_getElem? ha)
   obtain ⟨n,rfl⟩:∃ n:Nat,a=(n:Int):=⟨a.toNat,by omega⟩
   simp only [Int.toNat_natCast] at hx
   have hn:=(List.getElem?_eq_some_iff.1 hx).1
   obtain ⟨bb,off,sq,c,rfl,hra⟩:=hav.at_ i hlt
   obtain ⟨b2,off2,sq2,c2,rfl,hrb⟩:=hrv.at_ n hn
   have hld:=hra.int ha
   have f5:rdO (we.heap.get b2) (off2 + n * 7 + 5) 2=some [.int .i64 x.ll,.int .i64 x.lh]:=rdO_sub (hrb.rd actC_length hx) (j:=5) (k:=2) (by decide)
   rw [← hup.at hra.2] at hld
   rw [← hup.at hrb.2] at f5
   have hia:=fun w=>ia28 w ⟨bb,off,sq⟩ acts.length c .i64 i hlt
   simp only [Nat.mul_one] at hia
   have hib:=fun w=>ia22 w ⟨b2,off2,sq2⟩ r.length c2 .i64 n hn
   have hic:=fun w=>ia43 w ⟨we.next + 1 + 1,0,none⟩ acts.length acts.length .i64 i hlt
   have hw1:IntKind.wrap .i64 ((i:Int) + 1)=(i:Int) + 1:=wrap64_in (by omega) (by omega)
   have hLi:(lossL r acts)[i]?=some (x.ll,x.lh):=by
    unfold lossL
    rw [List.getElem?_map,ha]
    simp [hx]
   have hps:=part_set hLi
   have hfs:=flat_set spC_length (partL (lossL r acts) (lossL r acts).length i) i (x.ll,x.lh) (by rw [part_length (by omega)]; omega)
   rw [hps] at hfs
   have hfl:((partL (lossL r acts) (lossL r acts).length i).flatMap spC).length=acts.length * 2:=by rw [flat_length spC_length,part_length (by omega),hLl]
   obtain ⟨cs,hcs⟩:∃ cs,cs=(partL (lossL r acts) (lossL r acts).length i).flatMap spC:=⟨_,rfl⟩
   rw [← hcs] at hB hfs hfl
   simp only [spC,List.cons_append,List.nil_append] at hfs
   have q2:w.lim≤we.next + 1 + 1:=by omega
   have q3:i * 2 + 2≤acts.length * 2:=by omega
   have n1:¬ we.next + 1 + 1 + 1=we.next + 1 + 1:=by omega
   have n2:¬ we.next + 1=we.next + 1 + 1:=by omega
   simp [mc57_l0,t0,t2,t6,t7,t15,t16,hlt,h7,hia,hld,hib,f5,hic,hB,hfl,q2,q3,hw1,hfs]
   exact ⟨by omega,h6,hup.put (by omega) (Nat.le_refl _),hnx,hlt⟩
  ·have hi':i=acts.length:=by omega
   subst hi'
   have q2:w.lim≤we.next + 1:=by omega
   rw [← hLl,part_full] at hB
   simp [mc57_l0,t6,t7,t15,t16,h7,h6,q2,tupV]
   refine ⟨_,rfl,⟨we.next + 1 + 1,by rw [hLl],?_,by show we.next + 1 + 1 < w.next; omega⟩,hup.put (by omega) (Nat.le_refl _)⟩
   show (w.heap.put (we.next + 1) _).get (we.next + 1 + 1)=_
   rw [get_put,if_neg (by omega),hB]
structure TruOk (b:CBox) (L:List Sp):Prop where
 box:boxB b=true
 len:L.length≤14
 sp:∀ p ∈ L,0≤p.1∧p.2≤10000
def S58:PSpec where
 R args w v:=∃ (pv lv:Value) (b:CBox) (L:List Sp) (ws s:Int) (ls:List Int),args=[.agg ⟨procC b pv⟩,.agg ⟨[.int .i64 ws,.int .i64 s,lv]⟩]∧RowsV spC w pv L∧RowsV intC w lv ls∧TruOk b L∧w.lim≤w.next∧v=.bool (truB b L ws s ls)
 uniq:=by
  rintro _ _ _ _ ⟨_,_,⟨_,_,_,_⟩,L,_,_,ls,rfl,h1,h2,_,_,rfl⟩ ⟨_,_,⟨_,_,_,_⟩,L',_,_,ls',h,k1,k2,_,_,rfl⟩
  simp only [procC,List.cons.injEq,Value.agg.injEq,Array.mk.injEq,Value.int.injEq,true_and,and_true] at h
  obtain ⟨⟨rfl,rfl,rfl,rfl,rfl⟩,rfl,rfl,rfl⟩:=h
  rw [h1.uniq (m:=2) spC_length spC_inj k1,h2.uniq (m:=1) intC_length intC_inj k2]
 shut:=fun ⟨a1,a2,a3,a4,a5,a6,a7,h1,h2,h3,h4,_,h5⟩=>⟨a1,a2,a3,a4,a5,a6,a7,h1,h2,h3,h4,Nat.le_refl _,h5⟩
def S84:PSpec:=S61
theorem mk28 (n:Nat) (hn:n≤1000) (w:AW):makeSliceA Tryd.prog w 28 (.int .i64 (n:Int)) (.int .i64 (n:Int))=.val (.slice (some ⟨w.next,0,none⟩) n n) ⟨w.heap.put w.next (some (.cells ((List.replicate n (0:Int)).flatMap intC) 3 false)),w.next + 1,w.lim⟩:=by
 rw [make_eq (e:=3) (z:=.int .i64 0) (by kernel_rfl) (by kernel_rfl) (by kernel_rfl) n hn w,← repl_flat]; rfl
def S18:PSpec where
 R args w v:=∃ (a b:Value) (L:List Int),args=[a,b]∧RowsV intC w a L∧RowsV intC w b L∧L.length≤1000∧v=.bool true
 uniq:=by rintro _ _ _ _ ⟨_,_,_,rfl,_,_,_,rfl⟩ ⟨_,_,_,_,_,_,_,rfl⟩; rfl
 shut h:=h
theorem run18 {ov:Ov} (ho:∀ args w,ov 18 args w=none) (L:List Int) (hlen:L.length≤1000) (u v:Value) (w:AW) (hu:RowsV intC w u L) (hv:RowsV intC w v L):∃ y w',(run Tryd.prog ov 2).call 18 [u,v] w .none=.ok (.ret y) w' .none∧y=.bool true:=by
 refine call_wp text18 (by simp) (ho _ _) ?_
 have hlu:=fun w2=>len28V (w':=w2) hu
 have hlv:=fun w2=>len28V (w':=w2) hv
 simp [mc18,hlu,hlv]
 refine wp_seqX (wp_blockX (wp_rounds (fun i t w'=>w'=w∧tget t 0=u∧tget t 1=v∧tget t 5=.bool true∧tget t 6=.int .i64 (i:Nat)∧i≤L.length) 2000 (by decide) ⟨rfl,by simp,by simp,by simp,by simp,Nat.zero_le _⟩ ?_))
 rintro i t w' ⟨rfl,t0,t1,t5,t6,hi⟩
 by_cases hlt:i < L.length
 ·obtain ⟨z,hz⟩:∃ z,L[i]?=some z:=⟨_,List.getElem?_eq_getElem hlt⟩
  obtain ⟨b,off,sq,cp,rfl,hr⟩:=hu.at_ i hlt
  obtain ⟨b',off',sq',cp',rfl,hr'⟩:=hv.at_ i hlt
  have hld:=hr.int hz
  have hld':=hr'.int hz
  have hia:=fun w=>ia28 w ⟨b,off,sq⟩ L.length cp .i64 i hlt
  have hia':=fun w=>ia28 w ⟨b',off',sq'⟩ L.length cp' .i64 i hlt
  simp only [Nat.mul_one] at hia hia'
  have hw1:IntKind.wrap .i64 ((i:Int) + 1)=(i:Int) + 1:=wrap64_in (by omega) (by omega)
  simp [mc18_l0,t0,t1,t5,t6,hlt,hia,hia',hld,hld',hlu,hw1]
  exact ⟨by omega,hlt⟩
 ·have hi':i=L.length:=by omega
  subst hi'
  simp [mc18_l0,t0,t5,t6,hlu,tupV]
theorem tru_ok {r:List CAct} {d:List CDay} {b:CBox} {acts:List Int} (h:actE r d b acts=0):TruOk b (lossL r acts)∧acts.length≤14∧∀ a ∈ acts,0≤a∧∃ x,r[a.toNat]?=some x:=by
 obtain ⟨hR,hD,hB,s,hs⟩:=act_ofE h
 have hl:=stg_len hR hs
 have hd:=days_len hD
 have ha:=stg_acts _ _ _ hs
 refine ⟨⟨hB,by simp [lossL]; omega,fun p hp=>?_⟩,by omega,ha⟩
 simp only [lossL,List.mem_map] at hp
 obtain ⟨a,ham,rfl⟩:=hp
 obtain ⟨_,x,hx⟩:=ha a ham
 rw [hx]
 obtain ⟨_,_,k,_⟩:=act_of hR hx
 simp only [spanI,Bool.and_eq_true,decide_eq_true_eq] at k
 simp only; omega
theorem lim_same:sameL5 limC limC=true:=by kernel_rfl
theorem hasAll_lim {w:AW} (h:LimAt w):hasAll w laidL=true:=by
 obtain ⟨ro,h⟩:=h
 have h1:hasB w (0,limC,141)=true:=by
  unfold hasB
  simp only [h,lim_same,Nat.beq_refl,Bool.and_self]
 show (bif hasB w (0,limC,141) then true else false)=true
 rw [h1]; rfl
def HasW (ov:Ov):Prop:=∀ w,LimAt w→ov 19 [] w=some (.ok (.ret (.bool true)) w .none)
theorem ruleW {ov:Ov} (h:HasW ov) (m:Nat) {w:AW} (hw:LimAt w):(run Tryd.prog ov (m + 1)).call 19 [] w .none=.ok (.ret (.bool true)) w .none:=by
 show stepO Tryd.prog (run Tryd.prog ov m) 19 [] w .none (ov 19 [] w)=_
 rw [h w hw]; rfl
def curC (rv dv:Value) (b:CBox) (av:Value):List Value:=[rv,dv,.int .i64 b.wl,.int .i64 b.wh,.int .i64 b.sl,.int .i64 b.sh,av]
end Go.Proofs.YtnmamelclmfplaaDoor.walk
