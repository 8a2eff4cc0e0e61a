/- Part of a proof by a machine of ones own: see the text with the theorem. -/
import Derived.Test.YtaiiampennkhiaaDoorVSb
import Derived.Test.YtaiiampennkhiaaDoorPF2
import Derived.Test.YtaiiampennkhiaaDoorShF
namespace Go.Proofs.YtaiiampennkhiaaDoor.walk
open Go Go.Sh
open known (partsC laidL noOv)
set_option maxRecDepth 100000
theorem mixed:Tryd.prog.follows .mixedOrders=true:=by kernel_rfl
theorem globals1:Tryd.prog.globals.size=1:=by kernel_rfl
theorem no_count:NoCount Tryd.prog:=NoCount.of (by kernel_rfl)
noncomputable def oW:Ov:=memoOv 18 [] laidL (.bool true) noOv
theorem okW':OvOk Tryd.prog oW:=memo_ok no_count mixed ov_none known.works_true (by kernel_rfl) (by kernel_rfl) (by rw [globals1]; exact Nat.le_refl _) (by kernel_rfl) ov_none
theorem oW_none {f:Nat} (hf:f ≠ 18) (args:List Value) (w:AW):oW f args w=none:=by
 have:Nat.beq f 18=false:=by rw [← Bool.not_eq_true]; intro h; exact hf (Nat.eq_of_beq_eq_true h)
 simp [oW,memoOv,this,noOv]
theorem oW_has:HasW oW:=fun w hw=>by
 have:=hasAll_parts hw
 simp [oW,memoOv,this,sameL5,sameVal.sameVals]
theorem HasW.skip {f:Nat} {F:PureF} {rest:Ov} (hf:18 ≠ f) (h:HasW rest):HasW (ovP f F rest):=fun w hw=>by simp [ovP,hf,h w hw]
theorem ovP_none {f g:Nat} {F:PureF} {rest:Ov} (hne:g ≠ f) (h:∀ args w,rest g args w=none) (args:List Value) (w:AW):ovP f F rest g args w=none:=by simp [ovP,hne,h]
theorem F33_some {args:List Value} {w:AW} {v:Value} (h:F33 args w=some v):∃ n a b,args=[.int .i64 n,.int .i64 a,.int .i64 b]∧v=.bool (inI a n b):=by
 unfold F33 at h
 split at h
 ·cases h; exact ⟨_,_,_,rfl,rfl⟩
 ·cases h
theorem F46_some {args:List Value} {w:AW} {v:Value} (h:F46 args w=some v):∃ lo hi a b,args=[.agg ⟨[.int .i64 lo,.int .i64 hi]⟩,.int .i64 a,.int .i64 b]∧v=.bool (spanI lo hi a b):=by
 unfold F46 at h
 split at h
 ·cases h; exact ⟨_,_,_,_,rfl,rfl⟩
 ·cases h
theorem F100_some {args:List Value} {w:AW} {v:Value} (h:F100 args w=some v):∃ c,args=[.int .u8 c]∧v=.bool (inI 97 c 122):=by
 unfold F100 at h
 split at h
 ·cases h; exact ⟨_,rfl,rfl⟩
 ·cases h
theorem F101_some {args:List Value} {w:AW} {v:Value} (h:F101 args w=some v):∃ c,args=[.int .u8 c]∧v=.bool (inI 48 c 57):=by
 unfold F101 at h
 split at h
 ·cases h; exact ⟨_,rfl,rfl⟩
 ·cases h
theorem F87_some {args:List Value} {w:AW} {v:Value} (h:F87 args w=some v):∃ s,args=[.string s]∧v=.bool (wordB s.data.toList):=by
 unfold F87 at h
 split at h
 ·cases h; exact ⟨_,rfl,rfl⟩
 ·cases h
theorem F70_some {args:List Value} {w:AW} {v:Value} (h:F70 args w=some v):∃ p,args=[.agg ⟨podC p⟩]∧v=.bool (podB p):=by
 unfold F70 at h
 split at h
 ·obtain ⟨p,h1,h2⟩:=Option.map_eq_some_iff.1 h
  exact ⟨p,by rw [podOf_some h1],h2.symm⟩
 ·cases h
theorem F48_some {args:List Value} {w:AW} {v:Value} (h:F48 args w=some v):∃ a b,args=[.agg ⟨[.int .i64 a,.int .i64 b]⟩]∧v=.bool (decide (b < a)):=by
 unfold F48 at h
 split at h
 ·cases h; exact ⟨_,_,rfl,rfl⟩
 ·cases h
theorem F47_some {args:List Value} {w:AW} {v:Value} (h:F47 args w=some v):∃ p,args=[.agg ⟨podC p⟩]∧v=.agg ⟨[.int .i64 (winL p),.int .i64 (winH p)]⟩:=by
 unfold F47 at h
 split at h
 ·obtain ⟨p,h1,h2⟩:=Option.map_eq_some_iff.1 h
  exact ⟨p,by rw [podOf_some h1],h2.symm⟩
 ·cases h
theorem F16_some {args:List Value} {w:AW} {v:Value} (h:F16 args w=some v):∃ p,args=[.agg ⟨podC p⟩]∧v=.tuple ⟨[.agg ⟨[.int .i64 (wA p),.int .i64 (wB p)]⟩,.int .i64 (wE p)]⟩:=by
 unfold F16 at h
 split at h
 ·obtain ⟨p,h1,h2⟩:=Option.map_eq_some_iff.1 h
  exact ⟨p,by rw [podOf_some h1],h2.symm⟩
 ·cases h
theorem F44_some {args:List Value} {w:AW} {v:Value} (h:F44 args w=some v):∃ u l,args=[u]∧podsIn w u=some l∧v=.bool (podsB l):=by
 unfold F44 at h
 split at h
 ·obtain ⟨l,h1,h2⟩:=Option.map_eq_some_iff.1 h
  exact ⟨_,l,rfl,h1,h2.symm⟩
 ·cases h
theorem F14_some {args:List Value} {w:AW} {v:Value} (h:F14 args w=some v):∃ u l,args=[u]∧podsIn w u=some l∧v=errB (podsB l) 30:=by
 unfold F14 at h
 split at h
 ·obtain ⟨l,h1,h2⟩:=Option.map_eq_some_iff.1 h
  exact ⟨_,l,rfl,h1,h2.symm⟩
 ·cases h
theorem F72_some {args:List Value} {w:AW} {v:Value} (h:F72 args w=some v):∃ n a b,args=[.int .i64 n,.agg ⟨[.int .i64 a,.int .i64 b]⟩]∧v=.bool (inI a n b):=by
 unfold F72 at h
 split at h
 ·cases h; exact ⟨_,_,_,rfl,rfl⟩
 ·cases h
theorem bif_some {α:Type} {b:Bool} {x y:α} (h:(bif b then some x else none)=some y):b=true∧y=x:=by
 cases b with
 | true=>cases h; exact ⟨rfl,rfl⟩
 | false=>cases h
theorem if_some' {α:Type} {c:Prop} {inst:Decidable c} {x y:α} (h:(@ite _ c inst (some x) none)=some y):c∧y=x:=by
 by_cases k:c
 ·rw [if_pos k] at h; cases h; exact ⟨k,rfl⟩
 ·rw [if_neg k] at h; cases h
theorem F88_some {args:List Value} {w:AW} {v:Value} (h:F88 args w=some v):∃ p day r h g,args=[.agg ⟨podC p⟩,.int .i64 day,.agg ⟨[.int .i64 r,.int .i64 h,.int .i64 g]⟩]∧numB p day r h g=true∧v=.int .i64 (onI p.born day r h):=by
 unfold F88 at h
 split at h
 ·obtain ⟨p,h1,h2⟩:=Option.bind_eq_some_iff.1 h
  obtain ⟨h3,rfl⟩:=bif_some h2
  exact ⟨p,_,_,_,_,by rw [podOf_some h1],h3,rfl⟩
 ·cases h
theorem F89_some {args:List Value} {w:AW} {v:Value} (h:F89 args w=some v):∃ p day r h g,args=[.agg ⟨podC p⟩,.int .i64 day,.agg ⟨[.int .i64 r,.int .i64 h,.int .i64 g]⟩]∧numB p day r h g=true∧v=.int .i64 (gramI p.born day r g):=by
 unfold F89 at h
 split at h
 ·obtain ⟨p,h1,h2⟩:=Option.bind_eq_some_iff.1 h
  obtain ⟨h3,rfl⟩:=bif_some h2
  exact ⟨p,_,_,_,_,by rw [podOf_some h1],h3,rfl⟩
 ·cases h
theorem F73_some {args:List Value} {w:AW} {v:Value} (h:F73 args w=some v):∃ p day r h g,args=[.agg ⟨podC p⟩,.int .i64 day,.agg ⟨[.int .i64 r,.int .i64 h,.int .i64 g]⟩]∧numB p day r h g=true∧PartsW w∧v=.agg ⟨ylC (ylI p.born day r h g)⟩:=by
 unfold F73 at h
 split at h
 ·obtain ⟨p,h1,h2⟩:=Option.bind_eq_some_iff.1 h
  obtain ⟨⟨h3,h4⟩,rfl⟩:=if_some' h2
  exact ⟨p,_,_,_,_,by rw [podOf_some h1],h3,h4,rfl⟩
 ·cases h
theorem F74_some {args:List Value} {w:AW} {v:Value} (h:F74 args w=some v):∃ u ys,args=[u]∧RowsV ylC w u ys∧(∀ y ∈ ys,smallY y)∧ys.length≤100∧v=.agg ⟨ylC (sumYl ys)⟩:=by
 unfold F74 at h
 split at h
 ·obtain ⟨ys,h1,h2⟩:=Option.bind_eq_some_iff.1 h
  obtain ⟨⟨h3,h4⟩,rfl⟩:=if_some' h2
  exact ⟨_,ys,rfl,rowsIn_some h1,h3,h4,rfl⟩
 ·cases h
theorem F71_some {args:List Value} {w:AW} {x:Value} (h:F71 args w=some x):∃ v u l pl,args=[v,u]∧podsIn w v=some l∧RowsV intC w u pl∧l.length≤100∧x=.bool (planB l pl):=by
 unfold F71 at h
 split at h
 ·obtain ⟨l,h1,h⟩:=Option.bind_eq_some_iff.1 h
  obtain ⟨pl,h2,h⟩:=Option.bind_eq_some_iff.1 h
  obtain ⟨h3,rfl⟩:=bif_some h
  exact ⟨_,_,l,pl,rfl,h1,rowsIn_some h2,of_decide_eq_true h3,rfl⟩
 ·cases h
theorem F50_some {args:List Value} {w:AW} {x:Value} (h:F50 args w=some x):∃ v u l pl,args=[v,u]∧podsIn w v=some l∧RowsV intC w u pl∧x=.int .i64 (chkE l pl):=by
 unfold F50 at h
 split at h
 ·obtain ⟨l,h1,h⟩:=Option.bind_eq_some_iff.1 h
  obtain ⟨pl,h2,h⟩:=Option.bind_eq_some_iff.1 h
  cases h
  exact ⟨_,_,l,pl,rfl,h1,rowsIn_some h2,rfl⟩
 ·cases h
theorem F51_some {args:List Value} {w:AW} {x:Value} (h:F51 args w=some x):∃ v vr vh vg l R H G,args=[v,.agg ⟨[vr,vh,vg]⟩]∧podsIn w v=some l∧RowsV intC w vr R∧RowsV intC w vh H∧RowsV intC w vg G∧l.length≤100∧x=.bool (truthB l R H G):=by
 unfold F51 at h
 split at h
 ·obtain ⟨l,h1,h⟩:=Option.bind_eq_some_iff.1 h
  obtain ⟨R,h2,h⟩:=Option.bind_eq_some_iff.1 h
  obtain ⟨H,h3,h⟩:=Option.bind_eq_some_iff.1 h
  obtain ⟨G,h4,h⟩:=Option.bind_eq_some_iff.1 h
  obtain ⟨h5,rfl⟩:=bif_some h
  exact ⟨_,_,_,_,l,R,H,G,rfl,h1,rowsIn_some h2,rowsIn_some h3,rowsIn_some h4,of_decide_eq_true h5,rfl⟩
 ·cases h
theorem F52_some {args:List Value} {w:AW} {x:Value} (h:F52 args w=some x):∃ v u vr vh vg l pl R H G,args=[v,u,.agg ⟨[vr,vh,vg]⟩]∧podsIn w v=some l∧RowsV intC w u pl∧RowsV intC w vr R∧RowsV intC w vh H∧RowsV intC w vg G∧podsB l=true∧planB l pl=true∧truthB l R H G=true∧PartsW w∧x=.agg ⟨ylC (sumYl (ysH l pl R H G))⟩:=by
 unfold F52 at h
 split at h
 ·obtain ⟨l,h1,h⟩:=Option.bind_eq_some_iff.1 h
  obtain ⟨pl,h0,h⟩:=Option.bind_eq_some_iff.1 h
  obtain ⟨R,h2,h⟩:=Option.bind_eq_some_iff.1 h
  obtain ⟨H,h3,h⟩:=Option.bind_eq_some_iff.1 h
  obtain ⟨G,h4,h⟩:=Option.bind_eq_some_iff.1 h
  obtain ⟨⟨h5,h6,h7,h8⟩,rfl⟩:=if_some' h
  exact ⟨_,_,_,_,_,l,pl,R,H,G,rfl,h1,rowsIn_some h0,rowsIn_some h2,rowsIn_some h3,rowsIn_some h4,h5,h6,h7,h8,rfl⟩
 ·cases h
theorem F19_some {args:List Value} {w:AW} {x:Value} (h:F19 args w=some x):∃ v u vr vh vg l pl R H G,args=[v,u,.agg ⟨[vr,vh,vg]⟩]∧podsIn w v=some l∧RowsV intC w u pl∧RowsV intC w vr R∧RowsV intC w vh H∧RowsV intC w vg G∧PartsW w∧x=.tuple ⟨[.agg ⟨ylC (harY l pl R H G)⟩,.int .i64 (harE l pl R H G)]⟩:=by
 unfold F19 at h
 split at h
 ·obtain ⟨l,h1,h⟩:=Option.bind_eq_some_iff.1 h
  obtain ⟨pl,h0,h⟩:=Option.bind_eq_some_iff.1 h
  obtain ⟨R,h2,h⟩:=Option.bind_eq_some_iff.1 h
  obtain ⟨H,h3,h⟩:=Option.bind_eq_some_iff.1 h
  obtain ⟨G,h4,h⟩:=Option.bind_eq_some_iff.1 h
  obtain ⟨h8,rfl⟩:=if_some' h
  exact ⟨_,_,_,_,_,l,pl,R,H,G,rfl,h1,rowsIn_some h0,rowsIn_some h2,rowsIn_some h3,rowsIn_some h4,h8,rfl⟩
 ·cases h
theorem F77_some {args:List Value} {w:AW} {x:Value} (h:F77 args w=some x):∃ y v ys,args=[.agg ⟨ylC y⟩,v]∧RowsV ylC w v ys∧ys.length≤10000∧x=endsV (ys.foldl stepE (y,y)):=by
 unfold F77 at h
 split at h
 ·obtain ⟨ys,h1,h⟩:=Option.bind_eq_some_iff.1 h
  obtain ⟨h2,rfl⟩:=if_some' h
  exact ⟨⟨_,_,_,_⟩,_,ys,rfl,rowsIn_some h1,h2,rfl⟩
 ·cases h
theorem F56_some {args:List Value} {w:AW} {x:Value} (h:F56 args w=some x):∃ v u l pl,args=[v,u]∧podsIn w v=some l∧RowsV intC w u pl∧podsB l=true∧planB l pl=true∧PartsW w∧x=.agg ⟨wgC l pl⟩:=by
 unfold F56 at h
 split at h
 ·obtain ⟨l,h1,h⟩:=Option.bind_eq_some_iff.1 h
  obtain ⟨pl,h2,h⟩:=Option.bind_eq_some_iff.1 h
  obtain ⟨⟨h3,h4,h5⟩,rfl⟩:=if_some' h
  exact ⟨_,_,l,pl,rfl,h1,rowsIn_some h2,h3,h4,h5,rfl⟩
 ·cases h
theorem F21_some {args:List Value} {w:AW} {x:Value} (h:F21 args w=some x):∃ v u l pl,args=[v,u]∧podsIn w v=some l∧RowsV intC w u pl∧PartsW w∧x=weiV l pl:=by
 unfold F21 at h
 split at h
 ·obtain ⟨l,h1,h⟩:=Option.bind_eq_some_iff.1 h
  obtain ⟨pl,h2,h⟩:=Option.bind_eq_some_iff.1 h
  obtain ⟨h5,rfl⟩:=if_some' h
  exact ⟨_,_,l,pl,rfl,h1,rowsIn_some h2,h5,rfl⟩
 ·cases h
theorem ground_wei (l:List Pod) (pl:List Int):groundC 3 (weiV l pl)=true:=by
 obtain ⟨a,b,c,d,e,f,h⟩:=weiC_six l pl
 unfold weiV
 rw [h]; rfl
theorem F35_some {args:List Value} {w:AW} {v:Value} (h:F35 args w=some v):∃ a b,args=[.int .i64 a,.int .i64 b]∧v=.agg ⟨[.int .i64 a,.int .i64 b]⟩:=by
 unfold F35 at h
 split at h
 ·cases h; exact ⟨_,_,rfl,rfl⟩
 ·cases h
theorem F42_some {args:List Value} {w:AW} {v:Value} (h:F42 args w=some v):∃ n s,args=[.int .i64 n,.int .i64 s]∧s≤2 ^ 60∧v=.int .i64 (wrapI n s):=by
 unfold F42 at h
 split at h
 ·obtain ⟨h1,rfl⟩:=bif_some h
  exact ⟨_,_,rfl,of_decide_eq_true h1,rfl⟩
 ·cases h
theorem F41_some {args:List Value} {w:AW} {v:Value} (h:F41 args w=some v):∃ u L i,args=[u,.int .i64 i]∧RowsV intC w u L∧L.length≤2 ^ 60∧v=.int .i64 (nthI L i):=by
 unfold F41 at h
 split at h
 ·obtain ⟨L,h1,h2⟩:=Option.bind_eq_some_iff.1 h
  obtain ⟨h3,rfl⟩:=bif_some h2
  exact ⟨_,_,_,rfl,rowsIn_some h1,of_decide_eq_true h3,rfl⟩
 ·cases h
theorem F38_some {args:List Value} {w:AW} {v:Value} (h:F38 args w=some v):∃ lo hi n,args=[.int .i64 lo,.int .i64 hi,.int .i64 n]∧((0≤lo∧lo≤100000)∧0≤hi∧hi≤100000)∧v=.int .i64 (withI lo hi n):=by
 unfold F38 at h
 split at h
 ·obtain ⟨h1,rfl⟩:=bif_some h
  refine ⟨_,_,_,rfl,?_,rfl⟩
  simpa [inI] using h1
 ·cases h
theorem F65_some {args:List Value} {w:AW} {x:Value} (h:F65 args w=some x):∃ u R,args=[u]∧RowsV intC w u R∧x=.bool (roundsB R):=by
 unfold F65 at h
 split at h
 ·obtain ⟨R,h1,rfl⟩:=Option.map_eq_some_iff.1 h
  exact ⟨_,_,rfl,rowsIn_some h1,rfl⟩
 ·cases h
theorem F66_some {args:List Value} {w:AW} {x:Value} (h:F66 args w=some x):∃ p u R,args=[.agg ⟨podC p⟩,u]∧R.length≤12∧RowsV intC w u R∧x=.int .i64 (cutI p R):=by
 unfold F66 at h
 split at h
 ·obtain ⟨p,h1,h2⟩:=Option.bind_eq_some_iff.1 h
  obtain ⟨R,h3,h4⟩:=Option.bind_eq_some_iff.1 h2
  obtain ⟨h5,rfl⟩:=bif_some h4
  exact ⟨p,_,_,by rw [podOf_some h1],of_decide_eq_true h5,rowsIn_some h3,rfl⟩
 ·cases h
theorem F85_some {args:List Value} {w:AW} {x:Value} (h:F85 args w=some x):∃ o,args=[.agg ⟨offC o⟩]∧x=oWin o:=by
 unfold F85 at h
 split at h
 ·obtain ⟨o,h1,rfl⟩:=Option.map_eq_some_iff.1 h
  exact ⟨o,by rw [podOfC_some h1],rfl⟩
 ·cases h
theorem F99_some {args:List Value} {w:AW} {x:Value} (h:F99 args w=some x):∃ o,args=[.agg ⟨offC o⟩]∧offOk o∧PartsW w∧x=.agg ⟨ylC (grY o.p)⟩:=by
 unfold F99 at h
 split at h
 ·obtain ⟨o,h1,h2⟩:=Option.bind_eq_some_iff.1 h
  obtain ⟨⟨h3,h4⟩,rfl⟩:=if_some' h2
  exact ⟨o,by rw [podOfC_some h1],h3,h4,rfl⟩
 ·cases h
theorem F86_some {args:List Value} {w:AW} {x:Value} (h:F86 args w=some x):∃ v l lo hi,args=[v,.agg ⟨[.int .i64 lo,.int .i64 hi]⟩]∧podsIn w v=some l∧podsB l=true∧hi≤2000∧PartsW w∧x=.agg ⟨ylC (sureY l lo hi)⟩:=by
 unfold F86 at h
 split at h
 ·obtain ⟨l,h1,h2⟩:=Option.bind_eq_some_iff.1 h
  obtain ⟨⟨h3,h4,h5⟩,rfl⟩:=if_some' h2
  exact ⟨_,l,_,_,rfl,h1,h3,h4,h5,rfl⟩
 ·cases h
theorem F67_some {args:List Value} {w:AW} {x:Value} (h:F67 args w=some x):∃ a b n,args=[.agg ⟨[.int .i64 a,.int .i64 b]⟩,.int .i64 n]∧x=.bool (mkB a b n):=by
 unfold F67 at h
 split at h
 ·cases h; exact ⟨_,_,_,rfl,rfl⟩
 ·cases h
theorem F68_some {args:List Value} {w:AW} {x:Value} (h:F68 args w=some x):∃ v l a b n,args=[v,.agg ⟨[.int .i64 a,.int .i64 b]⟩,.int .i64 n]∧podsIn w v=some l∧podsB l=true∧mkB a b n=true∧PartsW w∧x=.tuple ⟨[.int .i64 (mst l a n (b - a + 1).toNat).1,.int .i64 (mst l a n (b - a + 1).toNat).2]⟩:=by
 unfold F68 at h
 split at h
 ·obtain ⟨l,h1,h2⟩:=Option.bind_eq_some_iff.1 h
  obtain ⟨⟨h3,h4,h5⟩,rfl⟩:=if_some' h2
  exact ⟨_,l,_,_,_,rfl,h1,h3,h4,h5,rfl⟩
 ·cases h
theorem F31_some {args:List Value} {w:AW} {x:Value} (h:F31 args w=some x):∃ v l a b n,args=[v,.agg ⟨[.int .i64 a,.int .i64 b]⟩,.int .i64 n]∧podsIn w v=some l∧PartsW w∧x=mkV l a b n:=by
 unfold F31 at h
 split at h
 ·obtain ⟨l,h1,h2⟩:=Option.bind_eq_some_iff.1 h
  obtain ⟨h3,rfl⟩:=if_some' h2
  exact ⟨_,l,_,_,_,rfl,h1,h3,rfl⟩
 ·cases h
theorem F59_some {args:List Value} {w:AW} {x:Value} (h:F59 args w=some x):∃ v l a b,args=[v,.agg ⟨[.int .i64 a,.int .i64 b]⟩]∧podsIn w v=some l∧x=.int .i64 (mkErr l a b):=by
 unfold F59 at h
 split at h
 ·obtain ⟨l,h1,rfl⟩:=Option.map_eq_some_iff.1 h
  exact ⟨_,l,_,_,rfl,h1,rfl⟩
 ·cases h
theorem F103_some {args:List Value} {w:AW} {x:Value} (h:F103 args w=some x):∃ a,args=[.int .i64 a]∧x=.bool false:=by
 unfold F103 at h
 split at h
 ·cases h; exact ⟨_,rfl,rfl⟩
 ·cases h
theorem F94_some {args:List Value} {w:AW} {x:Value} (h:F94 args w=some x):∃ a b,args=[.int .i64 a,.int .i64 b]∧x=.int .i64 (cmpI a b):=by
 unfold F94 at h
 split at h
 ·cases h; exact ⟨_,_,rfl,rfl⟩
 ·cases h
theorem F110_some {args:List Value} {w:AW} {x:Value} (h:F110 args w=some x):∃ a b,args=[.int .i64 a,.int .i64 b]∧x=.bool (decide (a < b)):=by
 unfold F110 at h
 split at h
 ·cases h; exact ⟨_,_,rfl,rfl⟩
 ·cases h
theorem F81_some {args:List Value} {w:AW} {x:Value} (h:F81 args w=some x):∃ o,args=[.agg ⟨offC o⟩]∧x=.int .i64 (oH o):=by
 unfold F81 at h
 split at h
 ·obtain ⟨o,h1,rfl⟩:=Option.map_eq_some_iff.1 h
  exact ⟨o,by rw [podOfC_some h1],rfl⟩
 ·cases h
theorem F96_some {args:List Value} {w:AW} {x:Value} (h:F96 args w=some x):∃ u L z,args=[u,.int .i64 z]∧L.length≤100∧RowsV intC w u L∧x=.int .i64 (fnd L z 0):=by
 unfold F96 at h
 split at h
 ·obtain ⟨L,h1,h2⟩:=Option.bind_eq_some_iff.1 h
  obtain ⟨h3,rfl⟩:=bif_some h2
  exact ⟨_,L,_,rfl,of_decide_eq_true h3,rowsIn_some h1,rfl⟩
 ·cases h
theorem F83_some {args:List Value} {w:AW} {x:Value} (h:F83 args w=some x):∃ u L z,args=[u,.int .i64 z]∧L.length≤100∧RowsV intC w u L∧x=.bool (decide (z ∈ L)):=by
 unfold F83 at h
 split at h
 ·obtain ⟨L,h1,h2⟩:=Option.bind_eq_some_iff.1 h
  obtain ⟨h3,rfl⟩:=bif_some h2
  exact ⟨_,L,_,rfl,of_decide_eq_true h3,rowsIn_some h1,rfl⟩
 ·cases h
theorem F114_some {args:List Value} {w:AW} {x:Value} (h:F114 args w=some x):∃ n:Nat,args=[.int .u64 (n:Int)]∧n≤12∧x=.int .i64 (bitI n):=by
 unfold F114 at h
 split at h
 ·rename_i z
  obtain ⟨h3,rfl⟩:=bif_some h
  simp only [inI,Bool.and_eq_true,decide_eq_true_eq] at h3
  exact ⟨z.toNat,by rw [show ((z.toNat:Nat):Int)=z by omega],by omega,rfl⟩
 ·cases h
theorem F93_some {args:List Value} {w:AW} {x:Value} (h:F93 args w=some x):∃ a b c,args=[.agg ⟨offC a⟩,.agg ⟨offC b⟩,.pointer (some ⟨c,0,none⟩)]∧HasC w c∧x=.int .i64 (cmpI (oH a) (oH b)):=by
 unfold F93 at h
 split at h
 ·obtain ⟨a,h1,h⟩:=Option.bind_eq_some_iff.1 h
  obtain ⟨b,h2,h⟩:=Option.bind_eq_some_iff.1 h
  obtain ⟨h3,rfl⟩:=if_some' h
  exact ⟨a,b,_,by rw [podOfC_some h1,podOfC_some h2],h3,rfl⟩
 ·cases h
theorem F37_some {args:List Value} {w:AW} {x:Value} (h:F37 args w=some x):∃ p a b,args=[.agg ⟨podC p⟩,.agg ⟨[.int .i64 a,.int .i64 b]⟩]∧x=.tuple ⟨[.agg ⟨[.int .i64 (wiL p a),.int .i64 (wiH p b)]⟩,.bool (wiB p a b)]⟩:=by
 unfold F37 at h
 split at h
 ·obtain ⟨p,h1,rfl⟩:=Option.map_eq_some_iff.1 h
  exact ⟨p,_,_,by rw [podOf_some h1],rfl⟩
 ·cases h
noncomputable def ovL:List (Nat × PureF)→Ov
 | []=>oW
 | x::l=>ovP x.1 x.2 (ovL l)
def keyB (g:Nat):List (Nat × PureF)→Bool
 | []=>Nat.beq g 18
 | x::l=>Nat.beq g x.1 || keyB g l
def lookF (g:Nat):List (Nat × PureF)→Option PureF
 | []=>none
 | x::l=>bif Nat.beq g x.1 then some x.2 else lookF g l
theorem beq_no {a b:Nat} (h:Nat.beq a b=false):a ≠ b:=fun e=>by rw [e,Nat.beq_refl] at h; cases h
theorem chN {g:Nat}:∀ {l:List (Nat × PureF)},keyB g l=false→∀ args w,ovL l g args w=none
 | [],h=>oW_none (beq_no h)
 | x::l,h=>by
  simp only [keyB,Bool.or_eq_false_iff] at h
  exact ovP_none (beq_no h.1) (chN h.2)
theorem chH {g:Nat} {F:PureF}:∀ {l:List (Nat × PureF)},lookF g l=some F→HasP (ovL l) g F
 | [],h=>by cases h
 | x::l,h=>by
  simp only [lookF] at h
  cases hb:Nat.beq g x.1 with
  | true =>
   rw [hb] at h
   cases h
   have e:=Nat.eq_of_beq_eq_true hb
   subst e
   exact .here
  | false =>
   rw [hb] at h
   exact HasP.skip (beq_no hb) (chH h)
def memB (g:Nat):List (Nat × PureF)→Bool
 | []=>false
 | x::l=>Nat.beq g x.1 || memB g l
theorem chW:∀ {l:List (Nat × PureF)},memB 18 l=false→HasW (ovL l)
 | [],_=>oW_has
 | x::l,h=>by
  simp only [memB,Bool.or_eq_false_iff] at h
  exact HasW.skip (beq_no h.1) (chW h.2)
noncomputable def l33:List (Nat × PureF):=(33,F33)::[]
noncomputable def o33:Ov:=ovL l33
theorem ok33:OvOk Tryd.prog (ovP 33 F33 (ovL [])):=pure_ok no_count mixed okW' (fun _ _ _ h=>h) fun args w res hl hres=>by
 obtain ⟨n,a,b,rfl,rfl⟩:=F33_some hres
 obtain ⟨_,w',h1,rfl⟩:=run33 (ov:=(ovL [])) (chN rfl)  n a b w
 exact ⟨rfl,2,w',_,h1⟩
noncomputable def l46:List (Nat × PureF):=(46,F46)::l33
noncomputable def o46:Ov:=ovL l46
theorem ok46:OvOk Tryd.prog (ovP 46 F46 o33):=pure_ok no_count mixed ok33 (fun _ _ _ h=>h) fun args w res hl hres=>by
 obtain ⟨lo,hi,a,b,rfl,rfl⟩:=F46_some hres
 obtain ⟨_,w',h1,rfl⟩:=run46 (ov:=o33) (chN rfl)  lo hi a b w
 exact ⟨rfl,2,w',_,h1⟩
noncomputable def l79:List (Nat × PureF):=(79,F46)::l46
noncomputable def o79:Ov:=ovL l79
theorem ok79:OvOk Tryd.prog (ovP 79 F46 o46):=pure_ok no_count mixed ok46 (fun _ _ _ h=>h) fun args w res hl hres=>by
 obtain ⟨lo,hi,a,b,rfl,rfl⟩:=F46_some hres
 obtain ⟨_,w',h1,rfl⟩:=run79 (ov:=o46) (chN rfl)  lo hi a b w
 exact ⟨rfl,2,w',_,h1⟩
noncomputable def l100:List (Nat × PureF):=(100,F100)::l79
noncomputable def o100:Ov:=ovL l100
theorem ok100:OvOk Tryd.prog (ovP 100 F100 o79):=pure_ok no_count mixed ok79 (fun _ _ _ h=>h) fun args w res hl hres=>by
 obtain ⟨c,rfl,rfl⟩:=F100_some hres
 obtain ⟨_,w',h1,rfl⟩:=run100 (ov:=o79) (chN rfl)  c w
 exact ⟨rfl,2,w',_,h1⟩
noncomputable def l101:List (Nat × PureF):=(101,F101)::l100
noncomputable def o101:Ov:=ovL l101
theorem ok101:OvOk Tryd.prog (ovP 101 F101 o100):=pure_ok no_count mixed ok100 (fun _ _ _ h=>h) fun args w res hl hres=>by
 obtain ⟨c,rfl,rfl⟩:=F101_some hres
 obtain ⟨_,w',h1,rfl⟩:=run101 (ov:=o100) (chN rfl)  c w
 exact ⟨rfl,2,w',_,h1⟩
noncomputable def l87:List (Nat × PureF):=(87,F87)::l101
noncomputable def o87:Ov:=ovL l87
theorem ok87:OvOk Tryd.prog (ovP 87 F87 o101):=pure_ok no_count mixed ok101 (fun _ _ _ h=>h) fun args w res hl hres=>by
 obtain ⟨s,rfl,rfl⟩:=F87_some hres
 obtain ⟨_,w',h1,rfl⟩:=run87 (ov:=o101) (chN rfl) (chH rfl) (chH rfl) s w
 exact ⟨rfl,2,w',_,h1⟩
noncomputable def l45:List (Nat × PureF):=(45,F87)::l87
noncomputable def o45:Ov:=ovL l45
theorem ok45:OvOk Tryd.prog (ovP 45 F87 o87):=pure_ok no_count mixed ok87 (fun _ _ _ h=>h) fun args w res hl hres=>by
 obtain ⟨s,rfl,rfl⟩:=F87_some hres
 obtain ⟨_,w',h1,rfl⟩:=run45 (ov:=o87) (chN rfl) (chH rfl) s w
 exact ⟨rfl,2,w',_,h1⟩
noncomputable def l70:List (Nat × PureF):=(70,F70)::l45
noncomputable def o70:Ov:=ovL l70
theorem ok70:OvOk Tryd.prog (ovP 70 F70 o45):=pure_ok no_count mixed ok45 (fun _ _ _ h=>h) fun args w res hl hres=>by
 obtain ⟨p,rfl,rfl⟩:=F70_some hres
 obtain ⟨_,w',h1,rfl⟩:=run70 (ov:=o45) (chN rfl) (chH rfl) (chH rfl) p w
 exact ⟨rfl,2,w',_,h1⟩
noncomputable def l44:List (Nat × PureF):=(44,F44)::l70
noncomputable def o44:Ov:=ovL l44
theorem ok44:OvOk Tryd.prog (ovP 44 F44 o70):=pure_ok no_count mixed ok70 (fun _ _ _ h=>h) fun args w res hl hres=>by
 obtain ⟨u,l,rfl,hin,rfl⟩:=F44_some hres
 obtain ⟨_,w',h1,rfl⟩:=run44 (ov:=o70) (chN rfl) (chH rfl) u l w hl (podsIn_some hin)
 exact ⟨rfl,2,w',_,h1⟩
noncomputable def l14:List (Nat × PureF):=(14,F14)::l44
noncomputable def o14:Ov:=ovL l14
theorem ok14:OvOk Tryd.prog (ovP 14 F14 o44):=pure_ok no_count mixed ok44 (fun _ _ _ h=>h) fun args w res hl hres=>by
 obtain ⟨u,l,rfl,hin,rfl⟩:=F14_some hres
 obtain ⟨_,w',h1,rfl⟩:=run14 (ov:=o44) (chN rfl) (chH rfl) u l w hin
 exact ⟨rfl,2,w',_,h1⟩
noncomputable def l15:List (Nat × PureF):=(15,F14)::l14
noncomputable def o15:Ov:=ovL l15
theorem ok15:OvOk Tryd.prog (ovP 15 F14 o14):=pure_ok no_count mixed ok14 (fun _ _ _ h=>h) fun args w res hl hres=>by
 obtain ⟨u,l,rfl,hin,rfl⟩:=F14_some hres
 obtain ⟨_,w',h1,rfl⟩:=run15 (ov:=o14) (chN rfl) (chH rfl) (chH rfl) (chH rfl) u l w hl (podsIn_some hin)
 exact ⟨rfl,2,w',_,h1⟩
noncomputable def l47:List (Nat × PureF):=(47,F47)::l15
noncomputable def o47:Ov:=ovL l47
theorem ok47:OvOk Tryd.prog (ovP 47 F47 o15):=pure_ok no_count mixed ok15 (fun _ _ _ h=>h) fun args w res hl hres=>by
 obtain ⟨p,rfl,rfl⟩:=F47_some hres
 obtain ⟨_,w',h1,rfl⟩:=run47 (ov:=o15) (chN rfl)  p w hl
 exact ⟨rfl,2,w',_,h1⟩
noncomputable def l49:List (Nat × PureF):=(49,F47)::l47
noncomputable def o49:Ov:=ovL l49
theorem ok49:OvOk Tryd.prog (ovP 49 F47 o47):=pure_ok no_count mixed ok47 (fun _ _ _ h=>h) fun args w res hl hres=>by
 obtain ⟨p,rfl,rfl⟩:=F47_some hres
 obtain ⟨_,w',h1,rfl⟩:=run49 (ov:=o47) (chN rfl)  p w hl
 exact ⟨rfl,2,w',_,h1⟩
noncomputable def l48:List (Nat × PureF):=(48,F48)::l49
noncomputable def o48:Ov:=ovL l48
theorem ok48:OvOk Tryd.prog (ovP 48 F48 o49):=pure_ok no_count mixed ok49 (fun _ _ _ h=>h) fun args w res hl hres=>by
 obtain ⟨a,b,rfl,rfl⟩:=F48_some hres
 obtain ⟨_,w',h1,rfl⟩:=run48 (ov:=o49) (chN rfl)  a b w
 exact ⟨rfl,2,w',_,h1⟩
noncomputable def l16:List (Nat × PureF):=(16,F16)::l48
noncomputable def o16:Ov:=ovL l16
theorem ok16:OvOk Tryd.prog (ovP 16 F16 o48):=pure_ok no_count mixed ok48 (fun _ _ _ h=>h) fun args w res hl hres=>by
 obtain ⟨p,rfl,rfl⟩:=F16_some hres
 obtain ⟨_,w',h1,rfl⟩:=run16 (ov:=o48) (chN rfl) (chH rfl) (chH rfl) (chH rfl) p w hl
 exact ⟨rfl,2,w',_,h1⟩
noncomputable def l72:List (Nat × PureF):=(72,F72)::l16
noncomputable def o72:Ov:=ovL l72
theorem ok72:OvOk Tryd.prog (ovP 72 F72 o16):=pure_ok no_count mixed ok16 (fun _ _ _ h=>h) fun args w res hl hres=>by
 obtain ⟨n,a,b,rfl,rfl⟩:=F72_some hres
 obtain ⟨_,w',h1,rfl⟩:=run72 (ov:=o16) (chN rfl)  n a b w
 exact ⟨rfl,2,w',_,h1⟩
noncomputable def l71:List (Nat × PureF):=(71,F71)::l72
noncomputable def o71:Ov:=ovL l71
theorem ok71:OvOk Tryd.prog (ovP 71 F71 o72):=pure_ok no_count mixed ok72 (fun _ _ _ h=>h) fun args w res hl hres=>by
 obtain ⟨v,u,l,pl,rfl,hv,hu,hlen,rfl⟩:=F71_some hres
 obtain ⟨_,w',h1,rfl⟩:=run71 (ov:=o72) (chN rfl)  l pl v u w (podsIn_some hv) hu hlen
 exact ⟨rfl,2,w',_,h1⟩
noncomputable def l50:List (Nat × PureF):=(50,F50)::l71
noncomputable def o50:Ov:=ovL l50
theorem ok50:OvOk Tryd.prog (ovP 50 F50 o71):=pure_ok no_count mixed ok71 (fun _ _ _ h=>h) fun args w res hl hres=>by
 obtain ⟨v,u,l,pl,rfl,hv,hu,rfl⟩:=F50_some hres
 obtain ⟨_,w',h1,rfl⟩:=run50 (ov:=o71) (chN rfl) (chH rfl) (chH rfl) l pl v u w hv hu
 exact ⟨rfl,2,w',_,h1⟩
noncomputable def l51:List (Nat × PureF):=(51,F51)::l50
noncomputable def o51:Ov:=ovL l51
theorem ok51:OvOk Tryd.prog (ovP 51 F51 o50):=pure_ok no_count mixed ok50 (fun _ _ _ h=>h) fun args w res hl hres=>by
 obtain ⟨v,vr,vh,vg,l,R,H,G,rfl,hv,hr,hh,hg,hlen,rfl⟩:=F51_some hres
 obtain ⟨_,w',h1,rfl⟩:=run51 (ov:=o50) (chN rfl) (chH rfl) l R H G v vr vh vg w hl (podsIn_some hv) hr hh hg hlen
 exact ⟨rfl,2,w',_,h1⟩
noncomputable def l88:List (Nat × PureF):=(88,F88)::l51
noncomputable def o88:Ov:=ovL l88
theorem ok88:OvOk Tryd.prog (ovP 88 F88 o51):=pure_ok no_count mixed ok51 (fun _ _ _ h=>h) fun args w res hl hres=>by
 obtain ⟨p,day,r,h,g,rfl,hn,rfl⟩:=F88_some hres
 obtain ⟨_,w',h1,rfl⟩:=run88 (ov:=o51) (chN rfl)  p day r h g hn w
 exact ⟨rfl,2,w',_,h1⟩
noncomputable def l89:List (Nat × PureF):=(89,F89)::l88
noncomputable def o89:Ov:=ovL l89
theorem ok89:OvOk Tryd.prog (ovP 89 F89 o88):=pure_ok no_count mixed ok88 (fun _ _ _ h=>h) fun args w res hl hres=>by
 obtain ⟨p,day,r,h,g,rfl,hn,rfl⟩:=F89_some hres
 obtain ⟨_,w',h1,rfl⟩:=run89 (ov:=o88) (chN rfl)  p day r h g hn w
 exact ⟨rfl,2,w',_,h1⟩
noncomputable def l73:List (Nat × PureF):=(73,F73)::l89
noncomputable def o73:Ov:=ovL l73
theorem ok73:OvOk Tryd.prog (ovP 73 F73 o89):=pure_ok no_count mixed ok89 (fun _ _ _ h=>h) fun args w res hl hres=>by
 obtain ⟨p,day,r,h,g,rfl,hn,hPW,rfl⟩:=F73_some hres
 obtain ⟨_,w',h1,rfl⟩:=run73 (ov:=o89) (chN rfl) (chH rfl) (chH rfl) p day r h g hn w (Nat.le_of_eq hl) hPW
 exact ⟨rfl,2,w',_,h1⟩
noncomputable def l74:List (Nat × PureF):=(74,F74)::l73
noncomputable def o74:Ov:=ovL l74
theorem ok74:OvOk Tryd.prog (ovP 74 F74 o73):=pure_ok no_count mixed ok73 (fun _ _ _ h=>h) fun args w res hl hres=>by
 obtain ⟨v,ys,rfl,hv,hy,hlen,rfl⟩:=F74_some hres
 obtain ⟨_,w',h1,rfl⟩:=run74 (ov:=o73) (chN rfl) (chN rfl) v ys hy hlen w hl hv 0
 exact ⟨rfl,2,w',_,h1⟩
noncomputable def l52:List (Nat × PureF):=(52,F52)::l74
noncomputable def o52:Ov:=ovL l52
theorem ok52:OvOk Tryd.prog (ovP 52 F52 o74):=pure_ok no_count mixed ok74 (fun _ _ _ h=>h) fun args w res hl hres=>by
 obtain ⟨v,u,vr,vh,vg,l,pl,R,H,G,rfl,hv,hu,hr,hh,hg,hB,hP,hT,hPW,rfl⟩:=F52_some hres
 obtain ⟨_,w',h1,rfl⟩:=run52 (ov:=o74) (chN rfl) (chH rfl) (chH rfl) l pl R H G v u vr vh vg w hl hPW (podsIn_some hv) hu hr hh hg hB hP hT
 exact ⟨rfl,2,w',_,h1⟩
noncomputable def l19:List (Nat × PureF):=(19,F19)::l52
noncomputable def o19:Ov:=ovL l19
theorem ok19:OvOk Tryd.prog (ovP 19 F19 o52):=pure_ok no_count mixed ok52 (fun _ _ _ h=>h) fun args w res hl hres=>by
 obtain ⟨v,u,vr,vh,vg,l,pl,R,H,G,rfl,hv,hu,hr,hh,hg,hPW,rfl⟩:=F19_some hres
 obtain ⟨_,w',h1,rfl⟩:=run19 (ov:=o52) (chN rfl) (chH rfl) (chH rfl) (chH rfl) l pl R H G v u vr vh vg w hl hPW hv hu hr hh hg
 exact ⟨rfl,2,w',_,h1⟩
noncomputable def l77:List (Nat × PureF):=(77,F77)::l19
noncomputable def o77:Ov:=ovL l77
theorem ok77:OvOk Tryd.prog (ovP 77 F77 o19):=pure_ok no_count mixed ok19 (fun _ _ _ h=>h) fun args w res hl hres=>by
 obtain ⟨y,v,ys,rfl,hv,hlen,rfl⟩:=F77_some hres
 obtain ⟨_,w',h1,rfl⟩:=run77 (ov:=o19) (chN rfl)  y ys hlen v w hl hv
 exact ⟨rfl,2,w',_,h1⟩
noncomputable def l56:List (Nat × PureF):=(56,F56)::l77
noncomputable def o56:Ov:=ovL l56
theorem ok56:OvOk Tryd.prog (ovP 56 F56 o77):=pure_ok no_count mixed ok77 (fun _ _ _ h=>h) fun args w res hl hres=>by
 obtain ⟨v,u,l,pl,rfl,hv,hu,hB,hP,hPW,rfl⟩:=F56_some hres
 obtain ⟨_,w',h1,rfl⟩:=run56 (ov:=o77) (chN rfl) (chN rfl) (chH rfl) (chH rfl) (chH rfl) l pl v u w hl hPW (podsIn_some hv) hu hB hP
 exact ⟨rfl,3,w',_,h1⟩
noncomputable def l21:List (Nat × PureF):=(21,F21)::l56
noncomputable def o21:Ov:=ovL l21
theorem ok21:OvOk Tryd.prog (ovP 21 F21 o56):=pure_ok no_count mixed ok56 (fun _ _ _ h=>h) fun args w res hl hres=>by
 obtain ⟨v,u,l,pl,rfl,hv,hu,hPW,rfl⟩:=F21_some hres
 obtain ⟨_,w',h1,rfl⟩:=run21 (ov:=o56) (chN rfl) (chH rfl) (chH rfl) l pl v u w hl hPW hv hu
 exact ⟨ground_wei _ _,2,w',_,h1⟩
noncomputable def l65:List (Nat × PureF):=(65,F65)::l21
noncomputable def o65:Ov:=ovL l65
theorem ok65:OvOk Tryd.prog (ovP 65 F65 o21):=pure_ok no_count mixed ok21 (fun _ _ _ h=>h) fun args w res hl hres=>by
 obtain ⟨u,R,rfl,hu,rfl⟩:=F65_some hres
 obtain ⟨_,w',h1,rfl⟩:=run65 (ov:=o21) (chN rfl)  R u w hu
 exact ⟨rfl,2,w',_,h1⟩
noncomputable def l66:List (Nat × PureF):=(66,F66)::l65
noncomputable def o66:Ov:=ovL l66
theorem ok66:OvOk Tryd.prog (ovP 66 F66 o65):=pure_ok no_count mixed ok65 (fun _ _ _ h=>h) fun args w res hl hres=>by
 obtain ⟨p,u,R,rfl,hlen,hu,rfl⟩:=F66_some hres
 obtain ⟨_,w',h1,rfl⟩:=run66 (ov:=o65) (chN rfl) (chH rfl) (chH rfl) p R hlen u w hu
 exact ⟨rfl,2,w',_,h1⟩
noncomputable def l85:List (Nat × PureF):=(85,F85)::l66
noncomputable def o85:Ov:=ovL l85
theorem ok85:OvOk Tryd.prog (ovP 85 F85 o66):=pure_ok no_count mixed ok66 (fun _ _ _ h=>h) fun args w res hl hres=>by
 obtain ⟨o,rfl,rfl⟩:=F85_some hres
 obtain ⟨_,w',h1,rfl⟩:=run85 (ov:=o66) (chN rfl) (chH rfl) o w hl
 exact ⟨rfl,2,w',_,h1⟩
noncomputable def l59:List (Nat × PureF):=(59,F59)::l85
noncomputable def o59:Ov:=ovL l59
theorem ok59:OvOk Tryd.prog (ovP 59 F59 o85):=pure_ok no_count mixed ok85 (fun _ _ _ h=>h) fun args w res hl hres=>by
 obtain ⟨v,l,a,b,rfl,hv,rfl⟩:=F59_some hres
 obtain ⟨_,w',h1,rfl⟩:=run59 (ov:=o85) (chN rfl) (chH rfl) (chH rfl) l a b v w (podsIn_some hv)
 exact ⟨rfl,2,w',_,h1⟩
noncomputable def l103:List (Nat × PureF):=(103,F103)::l59
noncomputable def o103:Ov:=ovL l103
theorem ok103:OvOk Tryd.prog (ovP 103 F103 o59):=pure_ok no_count mixed ok59 (fun _ _ _ h=>h) fun args w res hl hres=>by
 obtain ⟨a,rfl,rfl⟩:=F103_some hres
 obtain ⟨_,w',h1,rfl⟩:=run103 (ov:=o59) (chN rfl)  a w
 exact ⟨rfl,2,w',_,h1⟩
noncomputable def l94:List (Nat × PureF):=(94,F94)::l103
noncomputable def o94:Ov:=ovL l94
theorem ok94:OvOk Tryd.prog (ovP 94 F94 o103):=pure_ok no_count mixed ok103 (fun _ _ _ h=>h) fun args w res hl hres=>by
 obtain ⟨a,b,rfl,rfl⟩:=F94_some hres
 obtain ⟨_,w',h1,rfl⟩:=run94 (ov:=o103) (chN rfl) (chH rfl) a b w
 exact ⟨rfl,2,w',_,h1⟩
noncomputable def l110:List (Nat × PureF):=(110,F110)::l94
noncomputable def o110:Ov:=ovL l110
theorem ok110:OvOk Tryd.prog (ovP 110 F110 o94):=pure_ok no_count mixed ok94 (fun _ _ _ h=>h) fun args w res hl hres=>by
 obtain ⟨a,b,rfl,rfl⟩:=F110_some hres
 obtain ⟨_,w',h1,rfl⟩:=run110 (ov:=o94) (chN rfl) (chH rfl) a b w
 exact ⟨rfl,2,w',_,h1⟩
noncomputable def l81:List (Nat × PureF):=(81,F81)::l110
noncomputable def o81:Ov:=ovL l81
theorem ok81:OvOk Tryd.prog (ovP 81 F81 o110):=pure_ok no_count mixed ok110 (fun _ _ _ h=>h) fun args w res hl hres=>by
 obtain ⟨o,rfl,rfl⟩:=F81_some hres
 obtain ⟨_,w',h1,rfl⟩:=run81 (ov:=o110) (chN rfl) (chH rfl) o w
 exact ⟨rfl,2,w',_,h1⟩
noncomputable def l96:List (Nat × PureF):=(96,F96)::l81
noncomputable def o96:Ov:=ovL l96
theorem ok96:OvOk Tryd.prog (ovP 96 F96 o81):=pure_ok no_count mixed ok81 (fun _ _ _ h=>h) fun args w res hl hres=>by
 obtain ⟨u,L,z,rfl,hlen,hu,rfl⟩:=F96_some hres
 obtain ⟨_,w',h1,rfl⟩:=run96 (ov:=o81) (chN rfl)  L hlen z u w hu
 exact ⟨rfl,2,w',_,h1⟩
noncomputable def l83:List (Nat × PureF):=(83,F83)::l96
noncomputable def o83:Ov:=ovL l83
theorem ok83:OvOk Tryd.prog (ovP 83 F83 o96):=pure_ok no_count mixed ok96 (fun _ _ _ h=>h) fun args w res hl hres=>by
 obtain ⟨u,L,z,rfl,hlen,hu,rfl⟩:=F83_some hres
 obtain ⟨_,w',h1,rfl⟩:=run83 (ov:=o96) (chN rfl) (chH rfl) L hlen z u w hu
 exact ⟨rfl,2,w',_,h1⟩
noncomputable def l114:List (Nat × PureF):=(114,F114)::l83
noncomputable def o114:Ov:=ovL l114
theorem ok114:OvOk Tryd.prog (ovP 114 F114 o83):=pure_ok no_count mixed ok83 (fun _ _ _ h=>h) fun args w res hl hres=>by
 obtain ⟨n,rfl,hn,rfl⟩:=F114_some hres
 obtain ⟨_,w',h1,rfl⟩:=run114 (ov:=o83) (chN rfl)  n hn w
 exact ⟨rfl,2,w',_,h1⟩
noncomputable def l98:List (Nat × PureF):=(98,F114)::l114
noncomputable def o98:Ov:=ovL l98
theorem ok98:OvOk Tryd.prog (ovP 98 F114 o114):=pure_ok no_count mixed ok114 (fun _ _ _ h=>h) fun args w res hl hres=>by
 obtain ⟨n,rfl,hn,rfl⟩:=F114_some hres
 obtain ⟨_,w',h1,rfl⟩:=run98 (ov:=o114) (chN rfl) (chH rfl) n hn w
 exact ⟨rfl,2,w',_,h1⟩
noncomputable def l93:List (Nat × PureF):=(93,F93)::l98
noncomputable def o93:Ov:=ovL l93
theorem ok93:OvOk Tryd.prog (ovP 93 F93 o98):=pure_ok no_count mixed ok98 (fun _ _ _ h=>h) fun args w res hl hres=>by
 obtain ⟨a,b,c,rfl,hc,rfl⟩:=F93_some hres
 obtain ⟨_,w',h1,rfl⟩:=run93 (ov:=o98) (chN rfl) (chH rfl) (chH rfl) a b c w hc
 exact ⟨rfl,2,w',_,h1⟩
noncomputable def l99:List (Nat × PureF):=(99,F99)::l93
noncomputable def o99:Ov:=ovL l99
theorem ok99:OvOk Tryd.prog (ovP 99 F99 o93):=pure_ok no_count mixed ok93 (fun _ _ _ h=>h) fun args w res hl hres=>by
 obtain ⟨o,rfl,h,hPW,rfl⟩:=F99_some hres
 obtain ⟨_,w',h1,rfl⟩:=run99 (ov:=o93) (chN rfl) (chH rfl) (chH rfl) o h w hl hPW
 exact ⟨rfl,2,w',_,h1⟩
noncomputable def l86:List (Nat × PureF):=(86,F86)::l99
noncomputable def o86:Ov:=ovL l86
theorem ok86:OvOk Tryd.prog (ovP 86 F86 o99):=pure_ok no_count mixed ok99 (fun _ _ _ h=>h) fun args w res hl hres=>by
 obtain ⟨v,l,lo,hi,rfl,hv,hB,hh,hPW,rfl⟩:=F86_some hres
 obtain ⟨_,w',h1,rfl⟩:=run86 (ov:=o99) (chN rfl) (chN rfl) (chH rfl) (chH rfl) (chH rfl) (chH rfl) l lo hi hB hh v w hl hPW (podsIn_some hv)
 exact ⟨rfl,3,w',_,h1⟩
noncomputable def l67:List (Nat × PureF):=(67,F67)::l86
noncomputable def o67:Ov:=ovL l67
theorem ok67:OvOk Tryd.prog (ovP 67 F67 o86):=pure_ok no_count mixed ok86 (fun _ _ _ h=>h) fun args w res hl hres=>by
 obtain ⟨a,b,n,rfl,rfl⟩:=F67_some hres
 obtain ⟨_,w',h1,rfl⟩:=run67 (ov:=o86) (chN rfl) (chH rfl) a b n w
 exact ⟨rfl,2,w',_,h1⟩
noncomputable def l68:List (Nat × PureF):=(68,F68)::l67
noncomputable def o68:Ov:=ovL l68
theorem ok68:OvOk Tryd.prog (ovP 68 F68 o67):=pure_ok no_count mixed ok67 (fun _ _ _ h=>h) fun args w res hl hres=>by
 obtain ⟨v,l,a,b,n,rfl,hv,hB,hM,hPW,rfl⟩:=F68_some hres
 obtain ⟨_,w',h1,rfl⟩:=run68 (ov:=o67) (chN rfl) (chH rfl) l hB a b n hM v w hl hPW (podsIn_some hv)
 exact ⟨rfl,2,w',_,h1⟩
noncomputable def l31:List (Nat × PureF):=(31,F31)::l68
noncomputable def o31:Ov:=ovL l31
theorem ok31:OvOk Tryd.prog (ovP 31 F31 o68):=pure_ok no_count mixed ok68 (fun _ _ _ h=>h) fun args w res hl hres=>by
 obtain ⟨v,l,a,b,n,rfl,hv,hPW,rfl⟩:=F31_some hres
 obtain ⟨_,w',h1,rfl⟩:=run31 (ov:=o68) (chN rfl) (chH rfl) (chH rfl) (chH rfl) l a b n v w hPW (podsIn_some hv)
 exact ⟨rfl,2,w',_,h1⟩
noncomputable def l42:List (Nat × PureF):=(42,F42)::l31
noncomputable def o42:Ov:=ovL l42
theorem ok42:OvOk Tryd.prog (ovP 42 F42 o31):=pure_ok no_count mixed ok31 (fun _ _ _ h=>h) fun args w res hl hres=>by
 obtain ⟨n,s,rfl,hs,rfl⟩:=F42_some hres
 obtain ⟨_,w',h1,rfl⟩:=run42 (ov:=o31) (chN rfl)  n s hs w
 exact ⟨rfl,2,w',_,h1⟩
noncomputable def l41:List (Nat × PureF):=(41,F41)::l42
noncomputable def o41:Ov:=ovL l41
theorem ok41:OvOk Tryd.prog (ovP 41 F41 o42):=pure_ok no_count mixed ok42 (fun _ _ _ h=>h) fun args w res hl hres=>by
 obtain ⟨v,L,i,rfl,hv,hlen,rfl⟩:=F41_some hres
 obtain ⟨_,w',h1,rfl⟩:=run41 (ov:=o42) (chN rfl) (chH rfl) v L i w hv hlen
 exact ⟨rfl,2,w',_,h1⟩
noncomputable def l35:List (Nat × PureF):=(35,F35)::l41
noncomputable def o35:Ov:=ovL l35
theorem ok35:OvOk Tryd.prog (ovP 35 F35 o41):=pure_ok no_count mixed ok41 (fun _ _ _ h=>h) fun args w res hl hres=>by
 obtain ⟨a,b,rfl,rfl⟩:=F35_some hres
 obtain ⟨_,w',h1,rfl⟩:=run35 (ov:=o41) (chN rfl)  a b w (Nat.le_of_eq hl)
 exact ⟨rfl,2,w',_,h1⟩
noncomputable def l37:List (Nat × PureF):=(37,F37)::l35
noncomputable def o37:Ov:=ovL l37
theorem ok37:OvOk Tryd.prog (ovP 37 F37 o35):=pure_ok no_count mixed ok35 (fun _ _ _ h=>h) fun args w res hl hres=>by
 obtain ⟨p,a,b,rfl,rfl⟩:=F37_some hres
 obtain ⟨_,w',h1,rfl⟩:=run37 (ov:=o35) (chN rfl) (chH rfl) (chH rfl) p a b w hl
 exact ⟨rfl,2,w',_,h1⟩
noncomputable def l38:List (Nat × PureF):=(38,F38)::l37
noncomputable def o38:Ov:=ovL l38
theorem ok38:OvOk Tryd.prog (ovP 38 F38 o37):=pure_ok no_count mixed ok37 (fun _ _ _ h=>h) fun args w res hl hres=>by
 obtain ⟨lo,hi,n,rfl,hb,rfl⟩:=F38_some hres
 obtain ⟨_,w',h1,rfl⟩:=run38 (ov:=o37) (chN rfl) (chH rfl) lo hi n hb w
 exact ⟨rfl,2,w',_,h1⟩
theorem top_true (l:List Pod) (a b n:Int) (bits:List Int) (hbl:bits.length≤2 ^ 60) (v u:Value) (w:AW) (hl:w.lim=w.next) (hPW:PartsW w) (hv:PodsV w v l) (hb:RowsV intC w u bits):∃ w' x',(run Tryd.prog o38 8).call 11 [v,.agg ⟨[.int .i64 a,.int .i64 b]⟩,.int .i64 n,u] w .none=.ok (.ret (.bool true)) w' x':=by
 obtain ⟨_,w',h1,rfl⟩:=run11 (ov:=o38) (chN rfl) (chN rfl) (chN rfl) (chN rfl) ⟨(chN rfl),(chN rfl),(chN rfl),(chN rfl),(chN rfl),(chN rfl),(chN rfl),(chN rfl),(chN rfl),(chN rfl),(chN rfl),(chN rfl),(chH rfl),(chH rfl),(chH rfl),(chH rfl),(chH rfl),(chH rfl),(chH rfl),(chH rfl)⟩ (chH rfl) (chH rfl) (chH rfl) (chH rfl) (chH rfl) (chH rfl) (chH rfl) (chH rfl) (chH rfl) (chH rfl) (chH rfl) (chW rfl) l a b n bits hbl v u w hl hPW hv hb
 exact ⟨w',_,h1⟩
end Go.Proofs.YtaiiampennkhiaaDoor.walk
namespace Go.Proofs.YtaiiampennkhiaaDoor.walk
open Go Go.Sh
open known (partsC laidL noOv)
set_option maxRecDepth 100000
theorem ty33:tyOk Tryd.prog 6 33=true:=by kernel_rfl
theorem u33:Tryd.prog.underlying 33=some (.slice 3):=by kernel_rfl
theorem ty22:tyOk Tryd.prog 6 22=true:=by kernel_rfl
theorem u22:Tryd.prog.underlying 22=some (.slice 30):=by kernel_rfl
theorem u3:Tryd.prog.underlying 3=some (.int .i64):=by kernel_rfl
theorem u9:Tryd.prog.underlying 9=some .string:=by kernel_rfl
theorem u30:Tryd.prog.underlying 30=some (.struct (fieldsOf Tryd.prog 30)):=by kernel_rfl
theorem f30:(fieldsOf Tryd.prog 30).toList.map (fun f=>(f.type,f.offset))=[(9,0),(3,1),(26,2),(26,4),(26,6)]:=by kernel_rfl
theorem u26:Tryd.prog.underlying 26=some (.struct (fieldsOf Tryd.prog 26)):=by kernel_rfl
theorem f26:(fieldsOf Tryd.prog 26).toList.map (fun f=>(f.type,f.offset))=[(3,0),(3,1)]:=by kernel_rfl
theorem c3:Tryd.prog.cellsOf 3=1:=by kernel_rfl
theorem c9:Tryd.prog.cellsOf 9=1:=by kernel_rfl
theorem c26:Tryd.prog.cellsOf 26=2:=by kernel_rfl
theorem c30:Tryd.prog.cellsOf 30=8:=by kernel_rfl
theorem span_of {H:T AObj} {n:Nat} {cs:List Value} (h:WT Tryd.prog H n 26 cs):∃ a b,cs=[.int .i64 a,.int .i64 b]:=by
 obtain ⟨hl,hf⟩:=h.toStruct u26
 rw [f26] at hf
 rw [c26] at hl
 obtain ⟨a,ha,_⟩:=(hf (3,0) (by simp)).toInt u3
 obtain ⟨b,hb,_⟩:=(hf (3,1) (by simp)).toInt u3
 rw [c3] at ha hb
 match cs,hl with
 | [x,y],_ =>
  simp at ha hb
  exact ⟨a,b,by rw [ha,hb]⟩
theorem pod_of {H:T AObj} {n:Nat} {cs:List Value} (h:WT Tryd.prog H n 30 cs):∃ p,cs=podC p:=by
 obtain ⟨hl,hf⟩:=h.toStruct u30
 rw [f30] at hf
 rw [c30] at hl
 obtain ⟨s,hs,_⟩:=(hf (9,0) (by simp)).toStr u9
 obtain ⟨b,hb,_⟩:=(hf (3,1) (by simp)).toInt u3
 obtain ⟨rl,rh,hr⟩:=span_of (hf (26,2) (by simp))
 obtain ⟨hl',hh,hh'⟩:=span_of (hf (26,4) (by simp))
 obtain ⟨gl,gh,hg⟩:=span_of (hf (26,6) (by simp))
 rw [c9] at hs
 rw [c3] at hb
 rw [c26] at hr hh' hg
 match cs,hl with
 | [x0,x1,x2,x3,x4,x5,x6,x7],_ =>
  simp at hs hb hr hh' hg
  exact ⟨⟨s,b,rl,rh,hl',hh,gl,gh⟩,by rw [hs,hb,hr.1,hr.2,hh'.1,hh'.2,hg.1,hg.2]; rfl⟩
theorem pods_of {A:AW} {m:Value} (h:ArgT Tryd.prog A.heap A.next 22 m):∃ l,PodsV A m l:=by
 unfold ArgT at h
 rw [u22] at h
 rcases WT.toSlice u22 h with ⟨a,ha⟩ | ⟨b,k,c,ty,ro,ha,hb,hg,hk,_,hc,he⟩
 ·cases ha; exact ⟨[],.inl ⟨a,0,rfl,rfl⟩⟩
 ·cases ha
  rw [c30] at hc he
  obtain ⟨l,h1,h2⟩:=chunks (f:=podC) podC_length k c hc fun i hi=>pod_of (he i hi)
  subst h1
  refine ⟨l,.inr ⟨b,some 1,l.length,rfl,⟨[],ty,ro,?_⟩,hb⟩⟩
  rw [hg,List.append_nil,h2]; rfl
theorem parts_start:(startH laidL).get 0=some (.cells partsC 122 true):=by
 show ((startH []).put 0 (some (.cells partsC 122 true))).get 0=_
 rw [get_put,if_pos rfl]
theorem ints_of {H:T AObj} {n lim:Nat} {cs:List Value} (h:WT Tryd.prog H n 33 cs):∃ v l,cs=[v]∧RowsV intC ⟨H,n,lim⟩ v l :=
 rows_of_WT u33 c3 intC_length (fun cs h=>by
  obtain ⟨z,hz,_⟩:=h.toInt u3
  exact ⟨z,hz⟩) h
theorem ints_arg {A:AW} {m:Value} (h:ArgT Tryd.prog A.heap A.next 33 m):∃ l,RowsV intC A m l:=by
 unfold ArgT at h
 rw [u33] at h
 obtain ⟨v,l,hv,hr⟩:=ints_of (lim:=A.lim) h
 cases hv
 exact ⟨l,hr⟩
theorem parts_at {A:AW} (hG:Tryd.prog.globals.size≤A.next) (hs:∀ b,b < Tryd.prog.globals.size→A.heap.get b=(startH laidL).get b):PartsW A:=by
 rw [globals1] at hG hs
 exact ⟨⟨true,by rw [hs 0 (by decide),parts_start]⟩,hG⟩
theorem span_arg {A:AW} {m:Value} (h:ArgT Tryd.prog A.heap A.next 26 m):∃ a b,m=.agg ⟨[.int .i64 a,.int .i64 b]⟩:=by
 unfold ArgT at h
 rw [u26] at h
 obtain ⟨c,rfl,h⟩:=h
 obtain ⟨a,b,rfl⟩:=span_of h
 exact ⟨a,b,rfl⟩
theorem int_arg {A:AW} {m:Value} (h:ArgT Tryd.prog A.heap A.next 3 m):∃ z,m=.int .i64 z:=by
 unfold ArgT at h
 rw [u3] at h
 obtain ⟨z,hz,_⟩:=WT.toInt u3 h
 cases hz
 exact ⟨z,rfl⟩
theorem ty26:tyOk Tryd.prog 6 26=true:=by kernel_rfl
theorem ty3:tyOk Tryd.prog 6 3=true:=by kernel_rfl
theorem b3:Tryd.prog.bytesOf 3=8:=by kernel_rfl
theorem short_of {A:AW} {m:Value} {L:List Int} (h:RowsV intC A m L) (k:∀ (a:Option Addr) (n c:Nat),m=.slice a n c→n * Tryd.prog.bytesOf 3≤reachBytes):L.length≤2 ^ 60:=by
 obtain ⟨a,c,e⟩:=h.len
 have:=k a _ c e
 rw [b3] at this
 unfold reachBytes at this
 omega
theorem start_true (A:AW) (ms:List Value) (hl:A.lim=A.next) (hG:Tryd.prog.globals.size≤A.next) (hs:∀ b,b < Tryd.prog.globals.size→A.heap.get b=(startH laidL).get b) (hms:ArgsT Tryd.prog A.heap A.next [22,26,3,33] ms) (hz:∀ (j:Nat) t e a k c,[22,26,3,33][j]?=some t→Tryd.prog.underlying t=some (.slice e)→ms[j]?=some (.slice a k c)→k * Tryd.prog.bytesOf e≤reachBytes) :
  ∃ A' x',(run Tryd.prog o38 8).call 11 ms A .none=.ok (.ret (.bool true)) A' x':=by
 have hPW:=parts_at hG hs
 match ms,hms,hz with
 | [m1,m2,m3,m4],hm,hz =>
  obtain ⟨l,hv⟩:=pods_of hm.1
  obtain ⟨a,b,rfl⟩:=span_arg hm.2.1
  obtain ⟨n,rfl⟩:=int_arg hm.2.2.1
  obtain ⟨bits,hb⟩:=ints_arg hm.2.2.2.1
  exact top_true l a b n bits (short_of hb fun a n c e=>hz 3 33 3 a n c rfl u33 (by rw [e]; rfl)) m1 m4 A hl hPW hv hb
end Go.Proofs.YtaiiampennkhiaaDoor.walk
