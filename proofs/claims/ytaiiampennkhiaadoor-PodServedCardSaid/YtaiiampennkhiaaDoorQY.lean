/- Part of a proof by a machine of ones own: see the text with the theorem. -/
import Derived.Test.YtaiiampennkhiaaDoorShF
namespace Go.Sh
structure Yl where
 ripe:Int
 green:Int
 split:Int
 left:Int
def gramI (born day r g:Int):Int:=(g * min (day - born) r).tdiv 100
def ylI (born day r h g:Int):Yl :=
 if day = -1 then ⟨0,0,0,1⟩ else if day - born < r then ⟨0,gramI born day r g,0,0⟩ else if day - born < r + h then ⟨gramI born day r g,0,0,0⟩ else ⟨0,0,1,0⟩
def dayOk (born day:Int):Prop:=day = -1∨(born≤day∧day≤2000)
theorem gram_eq {born day r g:Int} (h1:born≤day) (h2:0≤r) (h3:0≤g):gramI born day r g=g * min (day - born) r / 100 :=
 Int.tdiv_eq_ediv_of_nonneg (Int.mul_nonneg h3 (by omega))
theorem gram_mono {born day r g g':Int} (h1:born≤day) (h2:0≤r) (h3:0≤g) (h4:g≤g'):gramI born day r g≤gramI born day r g':=by
 rw [gram_eq h1 h2 h3,gram_eq h1 h2 (by omega)]
 exact Int.ediv_le_ediv (by decide) (Int.mul_le_mul_of_nonneg_right h4 (by omega))
theorem gram_nonneg {born day r g:Int} (h1:born≤day) (h2:0≤r) (h3:0≤g):0≤gramI born day r g:=by
 rw [gram_eq h1 h2 h3]
 exact Int.ediv_nonneg (Int.mul_nonneg h3 (by omega)) (by decide)
theorem gram_le {born day r g:Int} (h1:born≤day) (h2:0≤r) (h3:0≤g) (h4:g≤100) (h5:r≤400):gramI born day r g≤400:=by
 rw [gram_eq h1 h2 h3]
 have h6:g * min (day - born) r≤100 * 400:=Int.mul_le_mul h4 (by omega) (by omega) (by decide)
 omega
theorem yl_ripe {born day r hl hh h gl gh g:Int} (hd:dayOk born day) (hb:0≤born) (h1:1≤r) (h2:hl≤h) (h3:h≤hh) (h4:0≤gl) (h5:gl≤g) (h6:g≤gh) :
  (ylI born day r hl gl).ripe≤(ylI born day r h g).ripe∧(ylI born day r h g).ripe≤(ylI born day r hh gh).ripe:=by
 rcases hd with rfl | ⟨k1,k2⟩
 ·simp [ylI]
 ·have e1:=gram_mono (born:=born) (day:=day) (r:=r) k1 (by omega) h4 h5
  have e2:=gram_mono (born:=born) (day:=day) (r:=r) k1 (by omega) (show 0≤g by omega) h6
  have e3:=gram_nonneg (born:=born) (day:=day) (r:=r) k1 (by omega) h4
  have hne:¬ day = -1:=by omega
  unfold ylI
  rw [if_neg hne,if_neg hne,if_neg hne]
  by_cases c1:day - born < r
  ·simp [c1]
  ·rw [if_neg c1,if_neg c1,if_neg c1]
   by_cases c2:day - born < r + hl
   ·rw [if_pos c2,if_pos (show day - born < r + h by omega),if_pos (show day - born < r + hh by omega)]
    exact ⟨e1,e2⟩
   ·rw [if_neg c2]
    by_cases c3:day - born < r + h
    ·rw [if_pos c3,if_pos (show day - born < r + hh by omega)]
     exact ⟨by show 0≤gramI born day r g; omega,e2⟩
    ·rw [if_neg c3]
     by_cases c4:day - born < r + hh
     ·rw [if_pos c4]; exact ⟨Int.le_refl _,by show 0≤gramI born day r gh; omega⟩
     ·rw [if_neg c4]; exact ⟨Int.le_refl _,Int.le_refl _⟩
theorem yl_green {born day r h1 h2 h3 gl gh g:Int} (hd:dayOk born day) (hb:0≤born) (k:1≤r) (h4:0≤gl) (h5:gl≤g) (h6:g≤gh) :
  (ylI born day r h1 gl).green≤(ylI born day r h2 g).green∧(ylI born day r h2 g).green≤(ylI born day r h3 gh).green:=by
 rcases hd with rfl | ⟨k1,k2⟩
 ·simp [ylI]
 ·have e1:=gram_mono (born:=born) (day:=day) (r:=r) k1 (by omega) h4 h5
  have e2:=gram_mono (born:=born) (day:=day) (r:=r) k1 (by omega) (show 0≤g by omega) h6
  have hne:¬ day = -1:=by omega
  have key:∀ h g,(ylI born day r h g).green=if day - born < r then gramI born day r g else 0:=by
   intro h g
   unfold ylI
   rw [if_neg hne]
   by_cases c1:day - born < r
   ·rw [if_pos c1,if_pos c1]
   ·rw [if_neg c1,if_neg c1]
    by_cases c2:day - born < r + h
    ·rw [if_pos c2]
    ·rw [if_neg c2]
  rw [key,key,key]
  by_cases c1:day - born < r
  ·rw [if_pos c1,if_pos c1,if_pos c1]; exact ⟨e1,e2⟩
  ·rw [if_neg c1,if_neg c1,if_neg c1]; exact ⟨Int.le_refl _,Int.le_refl _⟩
theorem yl_split {born day r hl hh h g1 g2 g3:Int} (hl1:0≤hl) (h2:hl≤h) (h3:h≤hh) :
  (ylI born day r hh g1).split≤(ylI born day r h g2).split∧(ylI born day r h g2).split≤(ylI born day r hl g3).split:=by
 have key:∀ h g,(ylI born day r h g).split=if day = -1∨day - born < r∨day - born < r + h then 0 else 1:=by
  intro h g
  unfold ylI
  by_cases c0:day = -1
  ·rw [if_pos c0,if_pos (.inl c0)]
  ·rw [if_neg c0]
   by_cases c1:day - born < r
   ·rw [if_pos c1,if_pos (.inr (.inl c1))]
   ·rw [if_neg c1]
    by_cases c2:day - born < r + h
    ·rw [if_pos c2,if_pos (.inr (.inr c2))]
    ·rw [if_neg c2,if_neg (fun h=>h.elim c0 fun h=>h.elim c1 c2)]
 rw [key,key,key]
 by_cases c1:day = -1∨day - born < r∨day - born < r + hl
 ·rw [if_pos c1,if_pos (show day = -1∨day - born < r∨day - born < r + h by omega),if_pos (show day = -1∨day - born < r∨day - born < r + hh by omega)]; exact ⟨Int.le_refl _,Int.le_refl _⟩
 ·rw [if_neg c1]
  by_cases c2:day = -1∨day - born < r∨day - born < r + h
  ·rw [if_pos c2,if_pos (show day = -1∨day - born < r∨day - born < r + hh by omega)]; exact ⟨Int.le_refl _,by decide⟩
  ·rw [if_neg c2]
   by_cases c3:day = -1∨day - born < r∨day - born < r + hh
   ·rw [if_pos c3]; exact ⟨by decide,by decide⟩
   ·rw [if_neg c3]; exact ⟨Int.le_refl _,Int.le_refl _⟩
def stepE (s:Yl × Yl) (y:Yl):Yl × Yl:=(⟨min s.1.ripe y.ripe,min s.1.green y.green,min s.1.split y.split,s.1.left⟩,⟨max s.2.ripe y.ripe,max s.2.green y.green,max s.2.split y.split,s.2.left⟩)
theorem fold_min {c:Yl→Int} {g:Yl × Yl→Int} (hg:∀ s y,g (stepE s y)=min (g s) (c y)):∀ (l:List Yl) (s:Yl × Yl),g (l.foldl stepE s)≤g s∧(∀ y ∈ l,g (l.foldl stepE s)≤c y)∧(g (l.foldl stepE s)=g s∨∃ y ∈ l,g (l.foldl stepE s)=c y)
 | [],s=>⟨Int.le_refl _,(fun y h=>by cases h),.inl rfl⟩
 | z::l,s=>by
  obtain ⟨h1,h2,h3⟩:=fold_min hg l (stepE s z)
  rw [hg] at h1 h3
  rw [List.foldl_cons]
  refine ⟨by omega,fun y hy=>?_,?_⟩
  ·rcases List.mem_cons.1 hy with rfl | hy
   ·omega
   ·exact h2 y hy
  ·rcases h3 with h3 | ⟨y,hy,h3⟩
   ·by_cases h:g s≤c z
    ·exact .inl (by omega)
    ·exact .inr ⟨z,List.mem_cons_self ..,by omega⟩
   ·exact .inr ⟨y,List.mem_cons_of_mem _ hy,h3⟩
theorem fold_max {c:Yl→Int} {g:Yl × Yl→Int} (hg:∀ s y,g (stepE s y)=max (g s) (c y)):∀ (l:List Yl) (s:Yl × Yl),g s≤g (l.foldl stepE s)∧(∀ y ∈ l,c y≤g (l.foldl stepE s))∧(g (l.foldl stepE s)=g s∨∃ y ∈ l,g (l.foldl stepE s)=c y)
 | [],s=>⟨Int.le_refl _,(fun y h=>by cases h),.inl rfl⟩
 | z::l,s=>by
  obtain ⟨h1,h2,h3⟩:=fold_max hg l (stepE s z)
  rw [hg] at h1 h3
  rw [List.foldl_cons]
  refine ⟨by omega,fun y hy=>?_,?_⟩
  ·rcases List.mem_cons.1 hy with rfl | hy
   ·omega
   ·exact h2 y hy
  ·rcases h3 with h3 | ⟨y,hy,h3⟩
   ·by_cases h:c z≤g s
    ·exact .inl (by omega)
    ·exact .inr ⟨z,List.mem_cons_self ..,by omega⟩
   ·exact .inr ⟨y,List.mem_cons_of_mem _ hy,h3⟩
def Tight (lo hi:Int) (S:Int→Prop):Prop:=S lo∧S hi∧∀ x,S x→lo≤x∧x≤hi
theorem Tight.wide {lo hi:Int} {S T:Int→Prop} (h:Tight lo hi S) (hs:∀ x,S x→T x) (hl:∀ x,T x→∃ y,S y∧y≤x) (hh:∀ x,T x→∃ y,S y∧x≤y):Tight lo hi T :=
 ⟨hs _ h.1,hs _ h.2.1,fun x hx=>by
  obtain ⟨y,h1,h2⟩:=hl x hx
  obtain ⟨z,h3,h4⟩:=hh x hx
  have:=(h.2.2 y h1).1
  have:=(h.2.2 z h3).2
  omega⟩
def endsY (l:List Yl):Yl × Yl:=match l with | []=>(⟨0,0,0,0⟩,⟨0,0,0,0⟩) | y::l=>l.foldl stepE (y,y)
theorem ends_tight {c:Yl→Int} {g1 g2:Yl × Yl→Int} (h1:∀ s y,g1 (stepE s y)=min (g1 s) (c y)) (h2:∀ s y,g2 (stepE s y)=max (g2 s) (c y)) (h3:∀ y,g1 (y,y)=c y) (h4:∀ y,g2 (y,y)=c y) {l:List Yl} (hl:l ≠ []) :
  Tight (g1 (endsY l)) (g2 (endsY l)) fun x=>∃ y ∈ l,c y=x:=by
 cases l with
 | nil=>exact absurd rfl hl
 | cons y l =>
  show Tight (g1 (l.foldl stepE (y,y))) (g2 (l.foldl stepE (y,y))) _
  obtain ⟨a1,a2,a3⟩:=fold_min h1 l (y,y)
  obtain ⟨b1,b2,b3⟩:=fold_max h2 l (y,y)
  rw [h3] at a1 a3
  rw [h4] at b1 b3
  refine ⟨?_,?_,?_⟩
  ·rcases a3 with h | ⟨z,hz,h⟩
   ·exact ⟨y,List.mem_cons_self ..,h.symm⟩
   ·exact ⟨z,List.mem_cons_of_mem _ hz,h.symm⟩
  ·rcases b3 with h | ⟨z,hz,h⟩
   ·exact ⟨y,List.mem_cons_self ..,h.symm⟩
   ·exact ⟨z,List.mem_cons_of_mem _ hz,h.symm⟩
  ·rintro x ⟨z,hz,rfl⟩
   rcases List.mem_cons.1 hz with rfl | hz
   ·exact ⟨a1,b1⟩
   ·exact ⟨a2 z hz,b2 z hz⟩
theorem ends_ripe {l:List Yl} (hl:l ≠ []):Tight (endsY l).1.ripe (endsY l).2.ripe fun x=>∃ y ∈ l,y.ripe=x:=ends_tight (c:=Yl.ripe) (g1:=fun s=>s.1.ripe) (g2:=fun s=>s.2.ripe) (fun _ _=>rfl) (fun _ _=>rfl) (fun _=>rfl) (fun _=>rfl) hl
theorem ends_green {l:List Yl} (hl:l ≠ []):Tight (endsY l).1.green (endsY l).2.green fun x=>∃ y ∈ l,y.green=x:=ends_tight (c:=Yl.green) (g1:=fun s=>s.1.green) (g2:=fun s=>s.2.green) (fun _ _=>rfl) (fun _ _=>rfl) (fun _=>rfl) (fun _=>rfl) hl
theorem ends_split {l:List Yl} (hl:l ≠ []):Tight (endsY l).1.split (endsY l).2.split fun x=>∃ y ∈ l,y.split=x:=ends_tight (c:=Yl.split) (g1:=fun s=>s.1.split) (g2:=fun s=>s.2.split) (fun _ _=>rfl) (fun _ _=>rfl) (fun _=>rfl) (fun _=>rfl) hl
def four (born day hl hh gl gh r:Int):List Yl:=[ylI born day r hl gl,ylI born day r hl gh,ylI born day r hh gl,ylI born day r hh gh]
def sampN (born day rl hl hh gl gh:Int):Nat→List Yl
 | 0=>[]
 | n + 1=>sampN born day rl hl hh gl gh n++four born day hl hh gl gh (rl + n)
theorem samp_mem {born day rl hl hh gl gh:Int} {y:Yl}:∀ {n:Nat},y ∈ sampN born day rl hl hh gl gh n ↔ ∃ i:Nat,i < n∧y ∈ four born day hl hh gl gh (rl + i)
 | 0=>by constructor <;> intro h <;> simp [sampN] at h
 | n + 1=>by
  unfold sampN
  rw [List.mem_append,samp_mem]
  constructor
  ·rintro (⟨i,h1,h2⟩ | h)
   ·exact ⟨i,by omega,h2⟩
   ·exact ⟨n,by omega,h⟩
  ·rintro ⟨i,h1,h2⟩
   rcases Nat.lt_or_ge i n with h | h
   ·exact .inl ⟨i,h,h2⟩
   ·obtain rfl:i=n:=by omega
    exact .inr h2
theorem samp_length {born day rl hl hh gl gh:Int}:∀ n,(sampN born day rl hl hh gl gh n).length=4 * n
 | 0=>rfl
 | n + 1=>by unfold sampN; rw [List.length_append,samp_length n]; show _ + 4=_; omega
def allT (born day rl rh hl hh gl gh:Int) (y:Yl):Prop:=∃ r h g,rl≤r∧r≤rh∧hl≤h∧h≤hh∧(g=gl∨g=gh)∧y=ylI born day r h g
theorem four_mem {born day hl hh gl gh r h g:Int} (h1:h=hl∨h=hh) (h2:g=gl∨g=gh):ylI born day r h g ∈ four born day hl hh gl gh r:=by
 rcases h1 with rfl | rfl <;> rcases h2 with rfl | rfl <;> simp [four]
theorem mem_four {born day hl hh gl gh r:Int} {y:Yl} (h:y ∈ four born day hl hh gl gh r):∃ h g,(h=hl∨h=hh)∧(g=gl∨g=gh)∧y=ylI born day r h g:=by
 simp only [four,List.mem_cons,List.not_mem_nil,or_false] at h
 rcases h with rfl | rfl | rfl | rfl
 ·exact ⟨_,_,.inl rfl,.inl rfl,rfl⟩
 ·exact ⟨_,_,.inl rfl,.inr rfl,rfl⟩
 ·exact ⟨_,_,.inr rfl,.inl rfl,rfl⟩
 ·exact ⟨_,_,.inr rfl,.inr rfl,rfl⟩
end Go.Sh
namespace Go.Sh
structure PodOk (born rl rh hl hh gl gh:Int):Prop where
 born0:0≤born
 born1:born≤1000
 r0:1≤rl
 r1:rl≤rh
 r2:rh≤400
 h0:1≤hl
 h1:hl≤hh
 h2:hh≤100
 g0:0≤gl
 g1:gl≤gh
 g2:gh≤100
section
variable {born rl rh hl hh gl gh day:Int}
def sampY (born day rl rh hl hh gl gh:Int):List Yl:=sampN born day rl hl hh gl gh (rh - rl + 1).toNat
theorem samp_at (_hp:PodOk born rl rh hl hh gl gh) {r h g:Int} (h1:rl≤r) (h2:r≤rh) (h3:h=hl∨h=hh) (h4:g=gl∨g=gh):ylI born day r h g ∈ sampY born day rl rh hl hh gl gh:=by
 refine samp_mem.2 ⟨(r - rl).toNat,by omega,?_⟩
 rw [show rl + ((r - rl).toNat:Int)=r by omega]
 exact four_mem h3 h4
theorem samp_all {y:Yl} (h:y ∈ sampY born day rl rh hl hh gl gh):∃ r h g,rl≤r∧r≤rh∧(h=hl∨h=hh)∧(g=gl∨g=gh)∧y=ylI born day r h g:=by
 obtain ⟨i,h1,h2⟩:=samp_mem.1 h
 obtain ⟨x,g,k1,k2,rfl⟩:=mem_four h2
 exact ⟨rl + i,x,g,by omega,by omega,k1,k2,rfl⟩
theorem samp_ne (hp:PodOk born rl rh hl hh gl gh):sampY born day rl rh hl hh gl gh ≠ []:=List.ne_nil_of_mem (samp_at (day:=day) hp (Int.le_refl rl) hp.r1 (.inl rfl) (.inl rfl))
theorem in_ripe (hp:PodOk born rl rh hl hh gl gh) (hd:dayOk born day) {r h g:Int} (h1:rl≤r) (h2:r≤rh) (h3:hl≤h) (h4:h≤hh) (h5:gl≤g) (h6:g≤gh) :
  (endsY (sampY born day rl rh hl hh gl gh)).1.ripe≤(ylI born day r h g).ripe∧(ylI born day r h g).ripe≤(endsY (sampY born day rl rh hl hh gl gh)).2.ripe:=by
 have T:=ends_ripe (samp_ne (day:=day) hp)
 have hr0:=hp.r0
 have key:=yl_ripe (r:=r) hd hp.born0 (by omega) h3 h4 hp.g0 h5 h6
 have a:=(T.2.2 _ ⟨_,samp_at (day:=day) hp h1 h2 (.inl rfl) (.inl rfl),rfl⟩).1
 have b:=(T.2.2 _ ⟨_,samp_at (day:=day) hp h1 h2 (.inr rfl) (.inr rfl),rfl⟩).2
 exact ⟨Int.le_trans a key.1,Int.le_trans key.2 b⟩
theorem in_green (hp:PodOk born rl rh hl hh gl gh) (hd:dayOk born day) {r h g:Int} (h1:rl≤r) (h2:r≤rh) (h5:gl≤g) (h6:g≤gh) :
  (endsY (sampY born day rl rh hl hh gl gh)).1.green≤(ylI born day r h g).green∧(ylI born day r h g).green≤(endsY (sampY born day rl rh hl hh gl gh)).2.green:=by
 have T:=ends_green (samp_ne (day:=day) hp)
 have hr0:=hp.r0
 have key:=yl_green (r:=r) (h1:=hl) (h2:=h) (h3:=hl) hd hp.born0 (by omega) hp.g0 h5 h6
 have a:=(T.2.2 _ ⟨_,samp_at (day:=day) hp h1 h2 (.inl rfl) (.inl rfl),rfl⟩).1
 have b:=(T.2.2 _ ⟨_,samp_at (day:=day) hp h1 h2 (.inl rfl) (.inr rfl),rfl⟩).2
 exact ⟨Int.le_trans a key.1,Int.le_trans key.2 b⟩
theorem in_split (hp:PodOk born rl rh hl hh gl gh) {r h g:Int} (h1:rl≤r) (h2:r≤rh) (h3:hl≤h) (h4:h≤hh) :
  (endsY (sampY born day rl rh hl hh gl gh)).1.split≤(ylI born day r h g).split∧(ylI born day r h g).split≤(endsY (sampY born day rl rh hl hh gl gh)).2.split:=by
 have T:=ends_split (samp_ne (day:=day) hp)
 have hh0:=hp.h0
 have key:=yl_split (born:=born) (day:=day) (r:=r) (g1:=gl) (g2:=g) (g3:=gl) (show 0≤hl by omega) h3 h4
 have a:=(T.2.2 _ ⟨_,samp_at (day:=day) hp h1 h2 (.inr rfl) (.inl rfl),rfl⟩).1
 have b:=(T.2.2 _ ⟨_,samp_at (day:=day) hp h1 h2 (.inl rfl) (.inl rfl),rfl⟩).2
 exact ⟨Int.le_trans a key.1,Int.le_trans key.2 b⟩
theorem corner_all (hp:PodOk born rl rh hl hh gl gh) {y:Yl} (h:y ∈ sampY born day rl rh hl hh gl gh):allT born day rl rh hl hh gl gh y:=by
 obtain ⟨r,x,g,h1,h2,h3,h4,rfl⟩:=samp_all h
 have:=hp.h1
 exact ⟨r,x,g,h1,h2,by omega,by omega,h4,rfl⟩
theorem tight_all (hp:PodOk born rl rh hl hh gl gh) {c:Yl→Int} {g1 g2:Yl × Yl→Int} (T:Tight (g1 (endsY (sampY born day rl rh hl hh gl gh))) (g2 (endsY (sampY born day rl rh hl hh gl gh))) fun x=>∃ y ∈ sampY born day rl rh hl hh gl gh,c y=x)
  (hin:∀ r h g,rl≤r→r≤rh→hl≤h→h≤hh→gl≤g→g≤gh→g1 (endsY (sampY born day rl rh hl hh gl gh))≤c (ylI born day r h g)∧c (ylI born day r h g)≤g2 (endsY (sampY born day rl rh hl hh gl gh))) :
  Tight (g1 (endsY (sampY born day rl rh hl hh gl gh))) (g2 (endsY (sampY born day rl rh hl hh gl gh))) fun x=>∃ y,allT born day rl rh hl hh gl gh y∧c y=x:=by
 obtain ⟨⟨y1,h1,e1⟩,⟨y2,h2,e2⟩,_⟩:=T
 refine ⟨⟨y1,corner_all hp h1,e1⟩,⟨y2,corner_all hp h2,e2⟩,?_⟩
 rintro x ⟨y,⟨r,h,g,k1,k2,k3,k4,k5,rfl⟩,rfl⟩
 have:=hp.g1
 exact hin r h g k1 k2 k3 k4 (by omega) (by omega)
theorem all_ripe (hp:PodOk born rl rh hl hh gl gh) (hd:dayOk born day):Tight (endsY (sampY born day rl rh hl hh gl gh)).1.ripe (endsY (sampY born day rl rh hl hh gl gh)).2.ripe fun x=>∃ y,allT born day rl rh hl hh gl gh y∧y.ripe=x :=
 tight_all (c:=Yl.ripe) (g1:=fun s=>s.1.ripe) (g2:=fun s=>s.2.ripe) hp (ends_ripe (samp_ne hp)) fun _ _ _ k1 k2 k3 k4 k5 k6=>in_ripe hp hd k1 k2 k3 k4 k5 k6
theorem all_green (hp:PodOk born rl rh hl hh gl gh) (hd:dayOk born day):Tight (endsY (sampY born day rl rh hl hh gl gh)).1.green (endsY (sampY born day rl rh hl hh gl gh)).2.green fun x=>∃ y,allT born day rl rh hl hh gl gh y∧y.green=x :=
 tight_all (c:=Yl.green) (g1:=fun s=>s.1.green) (g2:=fun s=>s.2.green) hp (ends_green (samp_ne hp)) fun _ _ _ k1 k2 _ _ k5 k6=>in_green hp hd k1 k2 k5 k6
theorem all_split (hp:PodOk born rl rh hl hh gl gh):Tight (endsY (sampY born day rl rh hl hh gl gh)).1.split (endsY (sampY born day rl rh hl hh gl gh)).2.split fun x=>∃ y,allT born day rl rh hl hh gl gh y∧y.split=x :=
 tight_all (c:=Yl.split) (g1:=fun s=>s.1.split) (g2:=fun s=>s.2.split) hp (ends_split (samp_ne hp)) fun _ _ _ k1 k2 k3 k4 _ _=>in_split hp k1 k2 k3 k4
theorem yl_bd (hp:PodOk born rl rh hl hh gl gh) (hd:dayOk born day) {r h g:Int} (h1:rl≤r) (h2:r≤rh) (h5:gl≤g) (h6:g≤gh) :
  0≤(ylI born day r h g).ripe∧(ylI born day r h g).ripe≤400∧0≤(ylI born day r h g).green∧(ylI born day r h g).green≤400∧0≤(ylI born day r h g).split∧(ylI born day r h g).split≤1∧0≤(ylI born day r h g).left∧(ylI born day r h g).left≤1:=by
 have:=hp.r0; have:=hp.r2; have:=hp.g0; have:=hp.g2
 unfold ylI
 by_cases c0:day = -1
 ·rw [if_pos c0]; simp
 ·rw [if_neg c0]
  have hb:born≤day:=by
   rcases hd with h | h
   ·exact absurd h c0
   ·exact h.1
  have e1:=gram_nonneg (r:=r) (g:=g) hb (by omega) (by omega)
  have e2:=gram_le (r:=r) (g:=g) hb (by omega) (by omega) (by omega) (by omega)
  by_cases c1:day - born < r
  ·rw [if_pos c1]; simp [e1,e2]
  ·rw [if_neg c1]
   by_cases c2:day - born < r + h
   ·rw [if_pos c2]; simp [e1,e2]
   ·rw [if_neg c2]; simp
end
def sY (c:Yl→Int):List Yl→Int
 | []=>0
 | y::l=>c y + sY c l
theorem sY_append (c:Yl→Int):∀ l m:List Yl,sY c (l++m)=sY c l + sY c m
 | [],m=>by simp [sY]
 | y::l,m=>by
  show c y + sY c (l++m)=c y + sY c l + sY c m
  rw [sY_append c l m]; omega
theorem sY_snoc {c:Yl→Int} {l:List Yl} {i:Nat} {y:Yl} (h:l[i]?=some y):sY c (l.take (i + 1))=sY c (l.take i) + c y:=by
 rw [List.take_add_one,h,sY_append]
 simp [sY]
theorem sY_bd {c:Yl→Int} {l:List Yl} {b:Int} (h:∀ y ∈ l,0≤c y∧c y≤b):0≤sY c l∧sY c l≤l.length * b:=by
 induction l with
 | nil=>simp [sY]
 | cons y l ih =>
  have h1:=h y (List.mem_cons_self ..)
  have h2:=ih fun z hz=>h z (List.mem_cons_of_mem _ hz)
  have:(((y::l).length:Nat):Int) * b=l.length * b + b:=by rw [List.length_cons,Int.natCast_add,Int.add_mul]; simp
  show 0≤c y + sY c l∧c y + sY c l≤_
  omega
end Go.Sh
