/- Part of a proof by a machine of ones own: see the text with the theorem. -/
import Derived.Test.YtaiiampennkhiaaDoorFWa
namespace Go.Proofs.YtaiiampennkhiaaDoor.walk
open Go Go.Sh
open known (partsC laidL noOv)
set_option maxRecDepth 100000
set_option linter.unusedSimpArgs false
theorem win_ends {p:Pod} (h:podB p=true) {d:Int} (h1:winL p≤d) (h2:d≤winH p):podDay p d∧(endsY (podS p d)).1.ripe=grI p∧(endsY (podS p d)).1.green=0∧(endsY (podS p d)).2.green=0∧(endsY (podS p d)).1.split=0∧(endsY (podS p d)).2.split=0:=by
 obtain ⟨e1,e2⟩:=win_eq h
 have k:=pod_ok h
 have:=k.born0; have:=k.born1; have:=k.r0; have:=k.r1; have:=k.r2; have:=k.h0; have:=k.h1; have:=k.h2
 have hp:planOk p d=true:=by
  simp only [planOk,Bool.or_eq_true,Bool.and_eq_true,decide_eq_true_eq]; omega
 have g0:=k.g0; have g1:=k.g1
 have hy:∀ y,allT p.born d p.rl p.rh p.hl p.hh p.gl p.gh y→grI p≤y.ripe∧y.green=0∧y.split=0:=by
  rintro y ⟨r,x,g,a1,a2,a3,a4,a5,rfl⟩
  rw [ripe_on h h1 h2 a1 a2 a3 (by omega)]
  have a8:p.gl * p.rl≤g * r:=Int.mul_le_mul (by omega) a1 (by omega) (by omega)
  exact ⟨Int.ediv_le_ediv (by decide) a8,rfl,rfl⟩
 have hcorner:allT p.born d p.rl p.rh p.hl p.hh p.gl p.gh (ylI p.born d p.rl p.hl p.gl):=⟨p.rl,p.hl,p.gl,Int.le_refl _,k.r1,Int.le_refl _,k.h1,.inl rfl,rfl⟩
 have hc0:(ylI p.born d p.rl p.hl p.gl).ripe=grI p:=by rw [ripe_on h h1 h2 (Int.le_refl _) k.r1 (Int.le_refl _) g0]; rfl
 obtain ⟨⟨y1,t1,u1⟩,_,m1⟩:=all_ripe k (plan_day hp)
 obtain ⟨⟨y2,t2,u2⟩,⟨y3,t3,u3⟩,_⟩:=all_green k (plan_day hp)
 obtain ⟨⟨y4,t4,u4⟩,⟨y5,t5,u5⟩,_⟩:=all_split (day:=d) k
 have c1:=(m1 (grI p) ⟨_,hcorner,hc0⟩).1
 have c2:=(hy y1 t1).1
 refine ⟨⟨h,hp⟩,?_,?_,?_,?_,?_⟩
 ·show (endsY (sampY p.born d p.rl p.rh p.hl p.hh p.gl p.gh)).1.ripe=_
  omega
 ·show (endsY (sampY p.born d p.rl p.rh p.hl p.hh p.gl p.gh)).1.green=_
  rw [← u2]; exact (hy y2 t2).2.1
 ·show (endsY (sampY p.born d p.rl p.rh p.hl p.hh p.gl p.gh)).2.green=_
  rw [← u3]; exact (hy y3 t3).2.1
 ·show (endsY (sampY p.born d p.rl p.rh p.hl p.hh p.gl p.gh)).1.split=_
  rw [← u4]; exact (hy y4 t4).2.2
 ·show (endsY (sampY p.born d p.rl p.rh p.hl p.hh p.gl p.gh)).2.split=_
  rw [← u5]; exact (hy y5 t5).2.2
end Go.Proofs.YtaiiampennkhiaaDoor.walk
namespace Go.Proofs.YtaiiampennkhiaaDoor.walk
open Go Go.Sh
open known (partsC laidL noOv)
set_option maxRecDepth 100000
set_option linter.unusedSimpArgs false
theorem cut_val (p:Pod):∀ (R:List Int) (s:Int),R.foldl (stepC p) s=s∨(R.foldl (stepC p) s ∈ R∧winL p≤R.foldl (stepC p) s∧R.foldl (stepC p) s≤winH p)
 | [],s=>.inl rfl
 | x::R,s=>by
  simp only [List.foldl_cons]
  rcases cut_val p R (stepC p s x) with h | ⟨h1,h2,h3⟩
  ·rw [h]
   by_cases hc:inI (winL p) x (winH p)=true
   ·have e:stepC p s x=x:=by unfold stepC; rw [hc]; rfl
    simp only [inI,Bool.and_eq_true,decide_eq_true_eq] at hc
    rw [e]
    exact .inr ⟨by simp,hc.1,hc.2⟩
   ·have e:stepC p s x=s:=by
     unfold stepC
     cases hb:inI (winL p) x (winH p) with
     | true=>exact absurd hb hc
     | false=>rfl
    exact .inl e
  ·exact .inr ⟨List.mem_cons_of_mem _ h1,h2,h3⟩
theorem no_ends {p:Pod} (h:podB p=true):podDay p (-1)∧(endsY (podS p (-1))).1.ripe=0∧(endsY (podS p (-1))).1.green=0∧(endsY (podS p (-1))).2.green=0∧(endsY (podS p (-1))).1.split=0∧(endsY (podS p (-1))).2.split=0:=by
 have k:=pod_ok h
 have hp:planOk p (-1)=true:=by simp [planOk]
 have hy:∀ y,allT p.born (-1) p.rl p.rh p.hl p.hh p.gl p.gh y→y.ripe=0∧y.green=0∧y.split=0:=by
  rintro y ⟨r,x,g,a1,a2,a3,a4,a5,rfl⟩
  unfold ylI
  rw [if_pos rfl]
  exact ⟨rfl,rfl,rfl⟩
 obtain ⟨⟨y1,t1,u1⟩,_,_⟩:=all_ripe k (plan_day hp)
 obtain ⟨⟨y2,t2,u2⟩,⟨y3,t3,u3⟩,_⟩:=all_green k (plan_day hp)
 obtain ⟨⟨y4,t4,u4⟩,⟨y5,t5,u5⟩,_⟩:=all_split (day := -1) k
 refine ⟨⟨h,hp⟩,?_,?_,?_,?_,?_⟩
 ·show (endsY (sampY p.born (-1) p.rl p.rh p.hl p.hh p.gl p.gh)).1.ripe=_
  rw [← u1]; exact (hy y1 t1).1
 ·show (endsY (sampY p.born (-1) p.rl p.rh p.hl p.hh p.gl p.gh)).1.green=_
  rw [← u2]; exact (hy y2 t2).2.1
 ·show (endsY (sampY p.born (-1) p.rl p.rh p.hl p.hh p.gl p.gh)).2.green=_
  rw [← u3]; exact (hy y3 t3).2.1
 ·show (endsY (sampY p.born (-1) p.rl p.rh p.hl p.hh p.gl p.gh)).1.split=_
  rw [← u4]; exact (hy y4 t4).2.2
 ·show (endsY (sampY p.born (-1) p.rl p.rh p.hl p.hh p.gl p.gh)).2.split=_
  rw [← u5]; exact (hy y5 t5).2.2
theorem plan_cut {l:List Pod} {a b:Int} (hE:mkErr l a b=0) {j:Nat} {p:Pod} (hp:l[j]?=some p) :
  (max (winL p) a≤min (winH p) b∧winL p≤cutI p (refL l a b)∧cutI p (refL l a b)≤winH p∧a≤cutI p (refL l a b)∧cutI p (refL l a b)≤b∧0≤cutI p (refL l a b))∨(¬ max (winL p) a≤min (winH p) b∧cutI p (refL l a b) = -1):=by
 have hi:=ref_cut hE hp
 by_cases hne:max (winL p) a≤min (winH p) b
 ·have h0:=hi.2 hne
  rcases cut_val p (refL l a b) (-1) with h | ⟨h1,h2,h3⟩
  ·have:cutI p (refL l a b) = -1:=h
   omega
  ·obtain ⟨_,_,r3,r4⟩:=ref_in hE h1
   exact .inl ⟨hne,h2,h3,r3,r4,h0⟩
 ·have h0:¬ 0≤cutI p (refL l a b):=fun h=>hne (hi.1 h)
  rcases cut_val p (refL l a b) (-1) with h | ⟨h1,h2,h3⟩
  ·exact .inr ⟨hne,h⟩
  ·obtain ⟨r1,_,_,_⟩:=ref_in hE h1
   exact absurd r1 h0
theorem sY_app (c:Yl→Int) (l m:List Yl):sY c (l++m)=sY c l + sY c m:=sY_append c l m
theorem plan_sum {l:List Pod} {a b:Int} (hE:mkErr l a b=0):∀ k,k≤l.length→sY Yl.ripe (((esH l (l.map fun p=>cutI p (refL l a b))).map (·.1)).take k)=sY Yl.ripe ((offsTo l a b k).map offY)
 | 0,_=>by simp [offsTo]
 | k + 1,hk=>by
  have hB:=(mk_span hE).1
  obtain ⟨p,hp⟩:∃ p,l[k]?=some p:=⟨_,List.getElem?_eq_getElem (by omega)⟩
  have hd:(l.map fun p=>cutI p (refL l a b))[k]?=some (cutI p (refL l a b)):=by rw [List.getElem?_map,hp]; rfl
  have he:=esH_at l (l.map fun p=>cutI p (refL l a b)) k p _ hp hd
  have he':((esH l (l.map fun p=>cutI p (refL l a b))).map (·.1))[k]?=some (endsY (podS p (cutI p (refL l a b)))).1:=by rw [List.getElem?_map,he]; rfl
  rw [sY_snoc he',plan_sum hE k (by omega),offs_snoc hp,List.map_append,sY_app]
  have hpB:=pods_all hB hp
  rcases plan_cut hE hp with ⟨hne,w1,w2,_⟩ | ⟨hne,hc⟩
  ·have h1:=(win_ends hpB w1 w2).2.1
   have h2:¬ oH (⟨p,a,b,(k:Int)⟩:Off) < oL ⟨p,a,b,(k:Int)⟩:=by
    show ¬ min (winH p) b < max (winL p) a; omega
   rw [if_neg h2,h1]
   simp [sY,offY,grY]
  ·have h1:=(no_ends hpB).2.1
   have h2:oH (⟨p,a,b,(k:Int)⟩:Off) < oL ⟨p,a,b,(k:Int)⟩:=by
    show min (winH p) b < max (winL p) a; omega
   rw [if_pos h2,hc,h1]
   simp [sY]
end Go.Proofs.YtaiiampennkhiaaDoor.walk
