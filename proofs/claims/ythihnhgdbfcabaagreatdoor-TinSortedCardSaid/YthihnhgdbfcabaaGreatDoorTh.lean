/- Part of a proof: see the text with the theorem. -/
import Derived.Test.YthihnhgdbfcabaaGreatDoorTg
import Derived.Test.YthihnhgdbfcabaaGreatDoorTd
set_option linter.all false
namespace Go.Proofs.YthihnhgdbfcabaaGreatDoor.walk
open Go Go.Sh
set_option maxRecDepth 100000
section
variable {α:Type} {C:α→List Value} {V:α→Value} {sz:Nat} {cI:α→α→Int} {fv:Value} {fc:FuncId} {ov:Ov}
set_option maxHeartbeats 2000000 in
theorem par0I (m:Nat) (h:SI ov C V sz cI fv fc) (n c:Nat) (hn:n≤200) (a b:Nat) (hab:a≤b) (hbn:b≤n) (B:Nat) (w0:AW) (hl:w0.lim≤B) (L0:List α) (hL0:L0.length=n) (p:α) (ha:L0[a]?=some p) (i j:Nat) (hi:a < i) (hij:i≤j + 1) (hj:j < n)
  (Q:Ex→Tm→AW→Prop) (t:Tm) (w:AW) (hw:InI C w0 B L0 w)
  (t0:tget t 0=.slice (some ⟨B,0,none⟩) n c) (t1:tget t 1=.int .i64 (a:Nat)) (t4:True) (ti:tget t 10=.int .i64 (i:Nat)) (tj:tget t 11=.int .i64 (j:Nat))
  (hQ:∀ t k,i≤k→k≤j + 1→All (LtP cI p) L0 i k→(∀ x,k≤j→L0[k]?=some x→¬ LtP cI p x)→tget t 0=.slice (some ⟨B,0,none⟩) n c→tget t 1=.int .i64 (a:Nat)→True→tget t 10=.int .i64 (k:Nat)→tget t 11=.int .i64 (j:Nat)→Q (.exit 0) t w) :
  wp (exM Tryz.prog (run Tryz.prog ov (m + 1)) (.loop mc161_l0) t w) Q:=by
 refine wp_rounds (fun r t w'=>w'=w∧i + r≤j + 1∧All (LtP cI p) L0 i (i + r)∧tget t 0=.slice (some ⟨B,0,none⟩) n c∧tget t 1=.int .i64 (a:Nat)∧True∧tget t 10=.int .i64 ((i + r:Nat):Int)∧tget t 11=.int .i64 (j:Nat)) 300 (by decide) ⟨rfl,by omega,fun k x h1 h2=>by omega,t0,t1,t4,ti,tj⟩ ?_
 clear t0 t1 t4 ti tj
 rintro r t w' ⟨rfl,hr,hA,t0,t1,t4,ti,tj⟩
 obtain ⟨za,hza⟩:∃ k:Int,k=(a:Int):=⟨_,rfl⟩
 obtain ⟨zi,hzi⟩:∃ k:Int,k=((i + r:Nat):Int):=⟨_,rfl⟩
 obtain ⟨zj,hzj⟩:∃ k:Int,k=(j:Int):=⟨_,rfl⟩
 rw [← hza] at t1
 rw [← hzi] at ti
 rw [← hzj] at tj
 by_cases hle:i + r≤j
 ·have hle':zi≤zj:=by omega
  obtain ⟨x,hx⟩:=at_get (L:=L0) (i:=i + r) (by omega)
  have ixa:=h.ix (k:=a) (n:=n) (by omega) hza B c
  have ixi:=h.ix (k:=i + r) (n:=n) (by omega) hzi B c
  have lda:=h.ld hw ha
  have ldi:=h.ld hw hx
  have cm:=h.cm m w' x p
  have w1:IntKind.wrap .i64 (zi + 1)=((i + (r + 1):Nat):Int):=by rw [wrap64_in (by omega) (by omega)]; omega
  by_cases hc:cI x p < 0
  ·simp [mc161_l0,t0,t1,t4,ti,tj,hle',ixa,ixi,lda,ldi,cm,hc,w1, -ld3, -st3]
   exact ⟨by omega,by omega,fun k u h1 h2 h3=>by
    by_cases hk:k=i + r
    ·subst hk; rw [hx] at h3; cases h3; exact hc
    ·exact hA k u h1 (by omega) h3,by omega,by omega⟩
  ·simp [mc161_l0,t0,t1,t4,ti,tj,hle',ixa,ixi,lda,ldi,cm,hc,w1, -ld3, -st3]
   exact hQ _ (i + r) (by omega) (by omega) hA (fun u h1 h2=>by rw [hx] at h2; cases h2; exact hc) (by simp [t0]) (by simp [t1,hza]) (by simp [t4]) (by simp [ti,hzi]) (by simp [tj,hzj])
 ·have hle':¬ zi≤zj:=by omega
  simp [mc161_l0,t0,t1,t4,ti,tj,hle']
  exact hQ _ (i + r) (by omega) (by omega) hA (fun x h1=>absurd h1 hle) (by simp [t0]) (by simp [t1,hza]) (by simp [t4]) (by simp [ti,hzi]) (by simp [tj,hzj])
set_option maxHeartbeats 2000000 in
theorem par1I (m:Nat) (h:SI ov C V sz cI fv fc) (n c:Nat) (hn:n≤200) (a b:Nat) (hab:a≤b) (hbn:b≤n) (B:Nat) (w0:AW) (hl:w0.lim≤B) (L0:List α) (hL0:L0.length=n) (p:α) (ha:L0[a]?=some p) (i j:Nat) (hi:a < i) (hij:i≤j + 1) (hj:j < n)
  (Q:Ex→Tm→AW→Prop) (t:Tm) (w:AW) (hw:InI C w0 B L0 w)
  (t0:tget t 0=.slice (some ⟨B,0,none⟩) n c) (t1:tget t 1=.int .i64 (a:Nat)) (t4:True) (ti:tget t 10=.int .i64 (i:Nat)) (tj:tget t 11=.int .i64 (j:Nat))
  (hQ:∀ t k,i≤k + 1→k≤j→All (GeP cI p) L0 (k + 1) (j + 1)→(∀ x,i≤k→L0[k]?=some x→¬ GeP cI p x)→tget t 0=.slice (some ⟨B,0,none⟩) n c→tget t 1=.int .i64 (a:Nat)→True→tget t 10=.int .i64 (i:Nat)→tget t 11=.int .i64 (k:Nat)→Q (.exit 2) t w) :
  wp (exM Tryz.prog (run Tryz.prog ov (m + 1)) (.loop mc161_l1) t w) Q:=by
 refine wp_rounds (fun r t w'=>∃ k,w'=w∧k + r=j∧i≤k + 1∧All (GeP cI p) L0 (k + 1) (j + 1)∧tget t 0=.slice (some ⟨B,0,none⟩) n c∧tget t 1=.int .i64 (a:Nat)∧True∧tget t 10=.int .i64 (i:Nat)∧tget t 11=.int .i64 (k:Nat)) 300 (by decide) ⟨j,rfl,rfl,hij,fun k x h1 h2=>by omega,t0,t1,t4,ti,tj⟩ ?_
 clear t0 t1 t4 ti tj
 rintro r t w' ⟨k,rfl,hr,hik,hA,t0,t1,t4,ti,tj⟩
 obtain ⟨za,hza⟩:∃ k:Int,k=(a:Int):=⟨_,rfl⟩
 obtain ⟨zi,hzi⟩:∃ k:Int,k=(i:Int):=⟨_,rfl⟩
 obtain ⟨zj,hzj⟩:∃ z:Int,z=(k:Int):=⟨_,rfl⟩
 rw [← hza] at t1
 rw [← hzi] at ti
 rw [← hzj] at tj
 by_cases hle:i≤k
 ·have hle':zi≤zj:=by omega
  obtain ⟨x,hx⟩:=at_get (L:=L0) (i:=k) (by omega)
  have ixa:=h.ix (k:=a) (n:=n) (by omega) hza B c
  have ixi:=h.ix (k:=k) (n:=n) (by omega) hzj B c
  have lda:=h.ld hw ha
  have ldi:=h.ld hw hx
  have cm:=h.cm m w' x p
  have w1:IntKind.wrap .i64 (zj - 1)=((k - 1:Nat):Int):=by rw [wrap64_in (by omega) (by omega)]; omega
  by_cases hc:cI x p < 0
  ·simp [mc161_l1,t0,t1,t4,ti,tj,hle',ixa,ixi,lda,ldi,cm,hc,w1, -ld3, -st3]
   exact hQ _ k (by omega) (by omega) hA (fun u h1 h2=>by rw [hx] at h2; cases h2; exact fun hh=>hh hc) (by simp [t0]) (by simp [t1,hza]) (by simp [t4]) (by simp [ti,hzi]) (by simp [tj,hzj])
  ·simp [mc161_l1,t0,t1,t4,ti,tj,hle',ixa,ixi,lda,ldi,cm,hc,w1, -ld3, -st3]
   exact ⟨by omega,k - 1,by omega,by omega,fun q u h1 h2 h3=>by
    by_cases hk:q=k
    ·subst hk; rw [hx] at h3; cases h3; exact hc
    ·exact hA q u (by omega) h2 h3,by omega⟩
 ·have hle':¬ zi≤zj:=by omega
  simp [mc161_l1,t0,t1,t4,ti,tj,hle']
  exact hQ _ k (by omega) (by omega) hA (fun x h1=>absurd h1 hle) (by simp [t0]) (by simp [t1,hza]) (by simp [t4]) (by simp [ti,hzi]) (by simp [tj,hzj])
set_option maxHeartbeats 2000000 in
theorem par3I (m:Nat) (h:SI ov C V sz cI fv fc) (n c:Nat) (hn:n≤200) (a b:Nat) (hab:a≤b) (hbn:b≤n) (B:Nat) (w0:AW) (hl:w0.lim≤B) (L0:List α) (hL0:L0.length=n) (p:α) (ha:L0[a]?=some p) (i j:Nat) (hi:a < i) (hij:i≤j + 1) (hj:j < n)
  (Q:Ex→Tm→AW→Prop) (t:Tm) (w:AW) (hw:InI C w0 B L0 w)
  (t0:tget t 0=.slice (some ⟨B,0,none⟩) n c) (t1:tget t 1=.int .i64 (a:Nat)) (t4:True) (ti:tget t 10=.int .i64 (i:Nat)) (tj:tget t 11=.int .i64 (j:Nat))
  (hQ:∀ t k,i≤k→k≤j + 1→All (LtP cI p) L0 i k→(∀ x,k≤j→L0[k]?=some x→¬ LtP cI p x)→tget t 0=.slice (some ⟨B,0,none⟩) n c→tget t 1=.int .i64 (a:Nat)→True→tget t 10=.int .i64 (k:Nat)→tget t 11=.int .i64 (j:Nat)→Q (.exit 6) t w) :
  wp (exM Tryz.prog (run Tryz.prog ov (m + 1)) (.loop mc161_l3) t w) Q:=by
 refine wp_rounds (fun r t w'=>w'=w∧i + r≤j + 1∧All (LtP cI p) L0 i (i + r)∧tget t 0=.slice (some ⟨B,0,none⟩) n c∧tget t 1=.int .i64 (a:Nat)∧True∧tget t 10=.int .i64 ((i + r:Nat):Int)∧tget t 11=.int .i64 (j:Nat)) 300 (by decide) ⟨rfl,by omega,fun k x h1 h2=>by omega,t0,t1,t4,ti,tj⟩ ?_
 clear t0 t1 t4 ti tj
 rintro r t w' ⟨rfl,hr,hA,t0,t1,t4,ti,tj⟩
 obtain ⟨za,hza⟩:∃ k:Int,k=(a:Int):=⟨_,rfl⟩
 obtain ⟨zi,hzi⟩:∃ k:Int,k=((i + r:Nat):Int):=⟨_,rfl⟩
 obtain ⟨zj,hzj⟩:∃ k:Int,k=(j:Int):=⟨_,rfl⟩
 rw [← hza] at t1
 rw [← hzi] at ti
 rw [← hzj] at tj
 by_cases hle:i + r≤j
 ·have hle':zi≤zj:=by omega
  obtain ⟨x,hx⟩:=at_get (L:=L0) (i:=i + r) (by omega)
  have ixa:=h.ix (k:=a) (n:=n) (by omega) hza B c
  have ixi:=h.ix (k:=i + r) (n:=n) (by omega) hzi B c
  have lda:=h.ld hw ha
  have ldi:=h.ld hw hx
  have cm:=h.cm m w' x p
  have w1:IntKind.wrap .i64 (zi + 1)=((i + (r + 1):Nat):Int):=by rw [wrap64_in (by omega) (by omega)]; omega
  by_cases hc:cI x p < 0
  ·simp [mc161_l3,t0,t1,t4,ti,tj,hle',ixa,ixi,lda,ldi,cm,hc,w1, -ld3, -st3]
   exact ⟨by omega,by omega,fun k u h1 h2 h3=>by
    by_cases hk:k=i + r
    ·subst hk; rw [hx] at h3; cases h3; exact hc
    ·exact hA k u h1 (by omega) h3,by omega,by omega⟩
  ·simp [mc161_l3,t0,t1,t4,ti,tj,hle',ixa,ixi,lda,ldi,cm,hc,w1, -ld3, -st3]
   exact hQ _ (i + r) (by omega) (by omega) hA (fun u h1 h2=>by rw [hx] at h2; cases h2; exact hc) (by simp [t0]) (by simp [t1,hza]) (by simp [t4]) (by simp [ti,hzi]) (by simp [tj,hzj])
 ·have hle':¬ zi≤zj:=by omega
  simp [mc161_l3,t0,t1,t4,ti,tj,hle']
  exact hQ _ (i + r) (by omega) (by omega) hA (fun x h1=>absurd h1 hle) (by simp [t0]) (by simp [t1,hza]) (by simp [t4]) (by simp [ti,hzi]) (by simp [tj,hzj])
set_option maxHeartbeats 2000000 in
theorem par4I (m:Nat) (h:SI ov C V sz cI fv fc) (n c:Nat) (hn:n≤200) (a b:Nat) (hab:a≤b) (hbn:b≤n) (B:Nat) (w0:AW) (hl:w0.lim≤B) (L0:List α) (hL0:L0.length=n) (p:α) (ha:L0[a]?=some p) (i j:Nat) (hi:a < i) (hij:i≤j + 1) (hj:j < n)
  (Q:Ex→Tm→AW→Prop) (t:Tm) (w:AW) (hw:InI C w0 B L0 w)
  (t0:tget t 0=.slice (some ⟨B,0,none⟩) n c) (t1:tget t 1=.int .i64 (a:Nat)) (t4:True) (ti:tget t 10=.int .i64 (i:Nat)) (tj:tget t 11=.int .i64 (j:Nat))
  (hQ:∀ t k,i≤k + 1→k≤j→All (GeP cI p) L0 (k + 1) (j + 1)→(∀ x,i≤k→L0[k]?=some x→¬ GeP cI p x)→tget t 0=.slice (some ⟨B,0,none⟩) n c→tget t 1=.int .i64 (a:Nat)→True→tget t 10=.int .i64 (i:Nat)→tget t 11=.int .i64 (k:Nat)→Q (.exit 8) t w) :
  wp (exM Tryz.prog (run Tryz.prog ov (m + 1)) (.loop mc161_l4) t w) Q:=by
 refine wp_rounds (fun r t w'=>∃ k,w'=w∧k + r=j∧i≤k + 1∧All (GeP cI p) L0 (k + 1) (j + 1)∧tget t 0=.slice (some ⟨B,0,none⟩) n c∧tget t 1=.int .i64 (a:Nat)∧True∧tget t 10=.int .i64 (i:Nat)∧tget t 11=.int .i64 (k:Nat)) 300 (by decide) ⟨j,rfl,rfl,hij,fun k x h1 h2=>by omega,t0,t1,t4,ti,tj⟩ ?_
 clear t0 t1 t4 ti tj
 rintro r t w' ⟨k,rfl,hr,hik,hA,t0,t1,t4,ti,tj⟩
 obtain ⟨za,hza⟩:∃ k:Int,k=(a:Int):=⟨_,rfl⟩
 obtain ⟨zi,hzi⟩:∃ k:Int,k=(i:Int):=⟨_,rfl⟩
 obtain ⟨zj,hzj⟩:∃ z:Int,z=(k:Int):=⟨_,rfl⟩
 rw [← hza] at t1
 rw [← hzi] at ti
 rw [← hzj] at tj
 by_cases hle:i≤k
 ·have hle':zi≤zj:=by omega
  obtain ⟨x,hx⟩:=at_get (L:=L0) (i:=k) (by omega)
  have ixa:=h.ix (k:=a) (n:=n) (by omega) hza B c
  have ixi:=h.ix (k:=k) (n:=n) (by omega) hzj B c
  have lda:=h.ld hw ha
  have ldi:=h.ld hw hx
  have cm:=h.cm m w' x p
  have w1:IntKind.wrap .i64 (zj - 1)=((k - 1:Nat):Int):=by rw [wrap64_in (by omega) (by omega)]; omega
  by_cases hc:cI x p < 0
  ·simp [mc161_l4,t0,t1,t4,ti,tj,hle',ixa,ixi,lda,ldi,cm,hc,w1, -ld3, -st3]
   exact hQ _ k (by omega) (by omega) hA (fun u h1 h2=>by rw [hx] at h2; cases h2; exact fun hh=>hh hc) (by simp [t0]) (by simp [t1,hza]) (by simp [t4]) (by simp [ti,hzi]) (by simp [tj,hzj])
  ·simp [mc161_l4,t0,t1,t4,ti,tj,hle',ixa,ixi,lda,ldi,cm,hc,w1, -ld3, -st3]
   exact ⟨by omega,k - 1,by omega,by omega,fun q u h1 h2 h3=>by
    by_cases hk:q=k
    ·subst hk; rw [hx] at h3; cases h3; exact hc
    ·exact hA q u (by omega) h2 h3,by omega⟩
 ·have hle':¬ zi≤zj:=by omega
  simp [mc161_l4,t0,t1,t4,ti,tj,hle']
  exact hQ _ k (by omega) (by omega) hA (fun x h1=>absurd h1 hle) (by simp [t0]) (by simp [t1,hza]) (by simp [t4]) (by simp [ti,hzi]) (by simp [tj,hzj])
set_option maxHeartbeats 2000000 in
theorem peq1I (m:Nat) (h:SI ov C V sz cI fv fc) (n c:Nat) (hn:n≤200) (a b:Nat) (hab:a≤b) (hbn:b≤n) (B:Nat) (w0:AW) (hl:w0.lim≤B) (L0:List α) (hL0:L0.length=n) (p:α) (ha:L0[a]?=some p) (i j:Nat) (hi:a < i) (hij:i≤j + 1) (hj:j < n)
  (Q:Ex→Tm→AW→Prop) (t:Tm) (w:AW) (hw:InI C w0 B L0 w)
  (t0:tget t 0=.slice (some ⟨B,0,none⟩) n c) (t1:tget t 1=.int .i64 (a:Nat)) (t4:True) (ti:tget t 9=.int .i64 (i:Nat)) (tj:tget t 10=.int .i64 (j:Nat))
  (hQ:∀ t k,i≤k→k≤j + 1→All (LeP cI p) L0 i k→(∀ x,k≤j→L0[k]?=some x→¬ LeP cI p x)→tget t 0=.slice (some ⟨B,0,none⟩) n c→tget t 1=.int .i64 (a:Nat)→True→tget t 9=.int .i64 (k:Nat)→tget t 10=.int .i64 (j:Nat)→Q (.exit 2) t w) :
  wp (exM Tryz.prog (run Tryz.prog ov (m + 1)) (.loop mc160_l1) t w) Q:=by
 refine wp_rounds (fun r t w'=>w'=w∧i + r≤j + 1∧All (LeP cI p) L0 i (i + r)∧tget t 0=.slice (some ⟨B,0,none⟩) n c∧tget t 1=.int .i64 (a:Nat)∧True∧tget t 9=.int .i64 ((i + r:Nat):Int)∧tget t 10=.int .i64 (j:Nat)) 300 (by decide) ⟨rfl,by omega,fun k x h1 h2=>by omega,t0,t1,t4,ti,tj⟩ ?_
 clear t0 t1 t4 ti tj
 rintro r t w' ⟨rfl,hr,hA,t0,t1,t4,ti,tj⟩
 obtain ⟨za,hza⟩:∃ k:Int,k=(a:Int):=⟨_,rfl⟩
 obtain ⟨zi,hzi⟩:∃ k:Int,k=((i + r:Nat):Int):=⟨_,rfl⟩
 obtain ⟨zj,hzj⟩:∃ k:Int,k=(j:Int):=⟨_,rfl⟩
 rw [← hza] at t1
 rw [← hzi] at ti
 rw [← hzj] at tj
 by_cases hle:i + r≤j
 ·have hle':zi≤zj:=by omega
  obtain ⟨x,hx⟩:=at_get (L:=L0) (i:=i + r) (by omega)
  have ixa:=h.ix (k:=a) (n:=n) (by omega) hza B c
  have ixi:=h.ix (k:=i + r) (n:=n) (by omega) hzi B c
  have lda:=h.ld hw ha
  have ldi:=h.ld hw hx
  have cm:=h.cm m w' p x
  have w1:IntKind.wrap .i64 (zi + 1)=((i + (r + 1):Nat):Int):=by rw [wrap64_in (by omega) (by omega)]; omega
  by_cases hc:cI p x < 0
  ·simp [mc160_l1,t0,t1,t4,ti,tj,hle',ixa,ixi,lda,ldi,cm,hc,w1, -ld3, -st3]
   exact hQ _ (i + r) (by omega) (by omega) hA (fun u h1 h2=>by rw [hx] at h2; cases h2; exact fun hh=>hh hc) (by simp [t0]) (by simp [t1,hza]) (by simp [t4]) (by simp [ti,hzi]) (by simp [tj,hzj])
  ·simp [mc160_l1,t0,t1,t4,ti,tj,hle',ixa,ixi,lda,ldi,cm,hc,w1, -ld3, -st3]
   exact ⟨by omega,by omega,fun k u h1 h2 h3=>by
    by_cases hk:k=i + r
    ·subst hk; rw [hx] at h3; cases h3; exact hc
    ·exact hA k u h1 (by omega) h3,by omega,by omega⟩
 ·have hle':¬ zi≤zj:=by omega
  simp [mc160_l1,t0,t1,t4,ti,tj,hle']
  exact hQ _ (i + r) (by omega) (by omega) hA (fun x h1=>absurd h1 hle) (by simp [t0]) (by simp [t1,hza]) (by simp [t4]) (by simp [ti,hzi]) (by simp [tj,hzj])
set_option maxHeartbeats 2000000 in
theorem peq2I (m:Nat) (h:SI ov C V sz cI fv fc) (n c:Nat) (hn:n≤200) (a b:Nat) (hab:a≤b) (hbn:b≤n) (B:Nat) (w0:AW) (hl:w0.lim≤B) (L0:List α) (hL0:L0.length=n) (p:α) (ha:L0[a]?=some p) (i j:Nat) (hi:a < i) (hij:i≤j + 1) (hj:j < n)
  (Q:Ex→Tm→AW→Prop) (t:Tm) (w:AW) (hw:InI C w0 B L0 w)
  (t0:tget t 0=.slice (some ⟨B,0,none⟩) n c) (t1:tget t 1=.int .i64 (a:Nat)) (t4:True) (ti:tget t 9=.int .i64 (i:Nat)) (tj:tget t 10=.int .i64 (j:Nat))
  (hQ:∀ t k,i≤k + 1→k≤j→All (GtP cI p) L0 (k + 1) (j + 1)→(∀ x,i≤k→L0[k]?=some x→¬ GtP cI p x)→tget t 0=.slice (some ⟨B,0,none⟩) n c→tget t 1=.int .i64 (a:Nat)→True→tget t 9=.int .i64 (i:Nat)→tget t 10=.int .i64 (k:Nat)→Q (.exit 4) t w) :
  wp (exM Tryz.prog (run Tryz.prog ov (m + 1)) (.loop mc160_l2) t w) Q:=by
 refine wp_rounds (fun r t w'=>∃ k,w'=w∧k + r=j∧i≤k + 1∧All (GtP cI p) L0 (k + 1) (j + 1)∧tget t 0=.slice (some ⟨B,0,none⟩) n c∧tget t 1=.int .i64 (a:Nat)∧True∧tget t 9=.int .i64 (i:Nat)∧tget t 10=.int .i64 (k:Nat)) 300 (by decide) ⟨j,rfl,rfl,hij,fun k x h1 h2=>by omega,t0,t1,t4,ti,tj⟩ ?_
 clear t0 t1 t4 ti tj
 rintro r t w' ⟨k,rfl,hr,hik,hA,t0,t1,t4,ti,tj⟩
 obtain ⟨za,hza⟩:∃ k:Int,k=(a:Int):=⟨_,rfl⟩
 obtain ⟨zi,hzi⟩:∃ k:Int,k=(i:Int):=⟨_,rfl⟩
 obtain ⟨zj,hzj⟩:∃ z:Int,z=(k:Int):=⟨_,rfl⟩
 rw [← hza] at t1
 rw [← hzi] at ti
 rw [← hzj] at tj
 by_cases hle:i≤k
 ·have hle':zi≤zj:=by omega
  obtain ⟨x,hx⟩:=at_get (L:=L0) (i:=k) (by omega)
  have ixa:=h.ix (k:=a) (n:=n) (by omega) hza B c
  have ixi:=h.ix (k:=k) (n:=n) (by omega) hzj B c
  have lda:=h.ld hw ha
  have ldi:=h.ld hw hx
  have cm:=h.cm m w' p x
  have w1:IntKind.wrap .i64 (zj - 1)=((k - 1:Nat):Int):=by rw [wrap64_in (by omega) (by omega)]; omega
  by_cases hc:cI p x < 0
  ·simp [mc160_l2,t0,t1,t4,ti,tj,hle',ixa,ixi,lda,ldi,cm,hc,w1, -ld3, -st3]
   exact ⟨by omega,k - 1,by omega,by omega,fun q u h1 h2 h3=>by
    by_cases hk:q=k
    ·subst hk; rw [hx] at h3; cases h3; exact hc
    ·exact hA q u (by omega) h2 h3,by omega⟩
  ·simp [mc160_l2,t0,t1,t4,ti,tj,hle',ixa,ixi,lda,ldi,cm,hc,w1, -ld3, -st3]
   exact hQ _ k (by omega) (by omega) hA (fun u h1 h2=>by rw [hx] at h2; cases h2; exact hc) (by simp [t0]) (by simp [t1,hza]) (by simp [t4]) (by simp [ti,hzi]) (by simp [tj,hzj])
 ·have hle':¬ zi≤zj:=by omega
  simp [mc160_l2,t0,t1,t4,ti,tj,hle']
  exact hQ _ k (by omega) (by omega) hA (fun x h1=>absurd h1 hle) (by simp [t0]) (by simp [t1,hza]) (by simp [t4]) (by simp [ti,hzi]) (by simp [tj,hzj])
end
section
variable {α:Type} {C:α→List Value} {V:α→Value} {sz:Nat} {cI:α→α→Int} {fv:Value} {fc:FuncId} {ov:Ov}
set_option maxHeartbeats 2000000 in
theorem par2I (m:Nat) (h:SI ov C V sz cI fv fc) (n c:Nat) (hn:n≤200) (a b:Nat) (hab:a≤b) (hbn:b≤n) (B:Nat) (w0:AW) (hl:w0.lim≤B) (L0:List α) (hL0:L0.length=n) (p:α) (ha:L0[a]?=some p) (i j:Nat) (hi:a < i) (hij:i≤j + 1) (hj:j < b) (hA:All (LtP cI p) L0 (a + 1) i) (hG:All (GeP cI p) L0 (j + 1) b)
  (Q:Ex→Tm→AW→Prop) (t:Tm) (w:AW) (hw:InI C w0 B L0 w)
  (t0:tget t 0=.slice (some ⟨B,0,none⟩) n c) (t1:tget t 1=.int .i64 (a:Nat)) (t4:True) (ti:tget t 10=.int .i64 (i:Nat)) (tj:tget t 11=.int .i64 (j:Nat))
  (hQ:∀ t w L j,InI C w0 B L w→Mv a b L0 L→L[a]?=some p→a≤j→j < b→All (LtP cI p) L (a + 1) (j + 1)→All (GeP cI p) L (j + 1) b→tget t 0=.slice (some ⟨B,0,none⟩) n c→tget t 1=.int .i64 (a:Nat)→tget t 11=.int .i64 (j:Nat)→Q (.exit 4) t w) :
  wp (exM Tryz.prog (run Tryz.prog ov (m + 1)) (.loop mc161_l2) t w) Q:=by
 refine wp_rounds (fun r t w=>∃ L i j,InI C w0 B L w∧Mv a b L0 L∧L[a]?=some p∧a + 1 + r≤i∧i≤j + 1∧j < b∧All (LtP cI p) L (a + 1) i∧All (GeP cI p) L (j + 1) b∧tget t 0=.slice (some ⟨B,0,none⟩) n c∧tget t 1=.int .i64 (a:Nat)∧True∧tget t 10=.int .i64 (i:Nat)∧tget t 11=.int .i64 (j:Nat)) 300 (by decide) ⟨L0,i,j,hw,Mv.refl _ _ _,ha,by omega,hij,hj,hA,hG,t0,t1,t4,ti,tj⟩ ?_
 clear t0 t1 t4 ti tj hw ha hA hG hij hj hi
 rintro r t w ⟨L,i,j,hw,hp,ha,hr,hij,hj,hA,hG,t0,t1,t4,ti,tj⟩
 have hlen:L.length=n:=by rw [hp.len,hL0]
 simp [mc161_l2]
 refine wp_blockX (wp_seqX (wp_blockX (par3I m h n c hn a b hab hbn B w0 hl L hlen p ha i j (by omega) hij (by omega) _ _ _ hw t0 t1 t4 ti tj ?_)))
 intro t i' hi1 hi2 hA2 hst2 t0 t1 t4 ti tj
 simp
 refine wp_seqX (wp_blockX (par4I m h n c hn a b hab hbn B w0 hl L hlen p ha i' j (by omega) hi2 (by omega) _ _ _ hw t0 t1 t4 ti tj ?_))
 intro t j' hj1 hj2 hG2 hst3 t0 t1 t4 ti tj
 have hA3:All (LtP cI p) L (a + 1) i':=fun k z h1 h2 hz=>by
  by_cases hk:k < i
  ·exact hA k z h1 hk hz
  ·exact hA2 k z (by omega) h2 hz
 have hG3:All (GeP cI p) L (j' + 1) b:=fun k z h1 h2 hz=>by
  by_cases hk:k < j + 1
  ·exact hG2 k z h1 hk hz
  ·exact hG k z (by omega) h2 hz
 obtain ⟨zi,hzi⟩:∃ k:Int,k=(i':Int):=⟨_,rfl⟩
 obtain ⟨zj,hzj⟩:∃ k:Int,k=(j':Int):=⟨_,rfl⟩
 rw [← hzi] at ti
 rw [← hzj] at tj
 by_cases hle:i'≤j'
 ·have hle':¬ zj < zi:=by omega
  obtain ⟨x,hx⟩:=at_get (L:=L) (i:=i') (by omega)
  obtain ⟨y,hy⟩:=at_get (L:=L) (i:=j') (by omega)
  have nx:=hst2 x (by omega) hx
  have ny:cI y p < 0:=Classical.byContradiction fun hh=>hst3 y (by omega) hy hh
  have hne:i' ≠ j':=fun e=>by subst e; rw [hx] at hy; cases hy; exact nx ny
  have ixi:=h.ix (k:=i') (n:=n) (by omega) hzi B c
  have ixj:=h.ix (k:=j') (n:=n) (by omega) hzj B c
  have ldi:=h.ld hw hx
  have ldj:=h.ld hw hy
  have w1:IntKind.wrap .i64 (zi + 1)=((i' + 1:Nat):Int):=by rw [wrap64_in (by omega) (by omega)]; omega
  have w2:IntKind.wrap .i64 (zj - 1)=((j' - 1:Nat):Int):=by rw [wrap64_in (by omega) (by omega)]; omega
  obtain ⟨w1',w2',s1,s2,hw2⟩:=InS.swap h.T hw hl hx hy
  simp [t0,t1,t4,ti,tj,hle',ixi,ixj,ldi,ldj,s1,s2,w1,w2, -ld3, -st3]
  refine ⟨by omega,_,hw2,hp.trans (Mv.swap hx hy (by omega) (by omega) (by omega) (by omega)),(swp_keep hx hy (by omega) (by omega)).trans ha,i' + 1,by omega,j' - 1,by omega,by omega,hA3.swp_left hx hy (by omega) ny,?_,by omega,by omega⟩
  rw [show j' - 1 + 1=j' by omega]
  exact hG3.swp_right hx hy (by omega) nx
 ·have hle':zj < zi:=by omega
  have e:i'=j' + 1:=by omega
  simp [t0,t1,t4,ti,tj,hle']
  exact hQ _ _ L j' hw hp ha (by omega) (by omega) (e ▸ hA3) hG3 (by simp [t0]) (by simp [t1]) (by simp [tj,hzj])
set_option maxHeartbeats 4000000 in
theorem call161 (m:Nat) (ho:∀ args w,ov 161 args w=none) (h:SI ov C V sz cI fv fc) (n c:Nat) (hn:n≤200) (a b pv:Nat) (hab:a < b) (hbn:b≤n) (hpa:a≤pv) (hpb:pv < b) (B:Nat) (L:List α) (hL:L.length=n) (w:AW) (hl:w.lim≤B) (hB:w.heap.get B=some (.cells (L.flatMap C) 3 false)) :
  ∃ x w',(run Tryz.prog ov (m + 2)).call 161 [.slice (some ⟨B,0,none⟩) n c,.int .i64 (a:Int),.int .i64 (b:Int),.int .i64 (pv:Int)] w .none=.ok (.ret x) w' .none∧∃ L' k p bb,x=.tuple ⟨[.int .i64 (k:Nat),.bool bb]⟩∧LeftI C w w' B a b L L'∧Part cI L' a b k p:=by
 refine call_wp text161 (by simp) (ho _ _) ?_
 obtain ⟨za,hza⟩:∃ k:Int,k=(a:Int):=⟨_,rfl⟩
 obtain ⟨zb,hzb⟩:∃ k:Int,k=(b:Int):=⟨_,rfl⟩
 obtain ⟨zp,hzp⟩:∃ k:Int,k=(pv:Int):=⟨_,rfl⟩
 have e1:IntKind.wrap .i64 (za + 1)=((a + 1:Nat):Int):=by rw [wrap64_in (by omega) (by omega)]; omega
 have e2:IntKind.wrap .i64 (zb - 1)=((b - 1:Nat):Int):=by rw [wrap64_in (by omega) (by omega)]; omega
 obtain ⟨x,hx⟩:=at_get (L:=L) (i:=a) (by omega)
 obtain ⟨p,hp⟩:=at_get (L:=L) (i:=pv) (by omega)
 have hw:InI C w B L w:=InS.refl hB
 have ixa:=h.ix (k:=a) (n:=n) (by omega) hza B c
 have ixp:=h.ix (k:=pv) (n:=n) (by omega) hzp B c
 have lda:=h.ld hw hx
 have ldp:=h.ld hw hp
 obtain ⟨w1,w2,s1,s2,hw2⟩:=InS.swap h.T hw hl hx hp
 have hm1:Mv a b L (swp L a pv x p):=Mv.swap hx hp (by omega) (by omega) (by omega) (by omega)
 have ha1:(swp L a pv x p)[a]?=some p:=swp_first hx hp
 obtain ⟨L1,hL1⟩:∃ L1,L1=swp L a pv x p:=⟨_,rfl⟩
 rw [← hL1] at hw2 hm1 ha1
 have hlen1:L1.length=n:=by rw [hm1.len,hL]
 rw [← hza,← hzb,← hzp]
 simp [mc161,ixa,ixp,lda,ldp,s1,s2,e1,e2, -ld3, -st3]
 refine wp_seqX (wp_blockX (par0I m h n c hn a b (by omega) hbn B w hl L1 hlen1 p ha1 (a + 1) (b - 1) (by omega) (by omega) (by omega) _ _ _ hw2 ?_ ?_ ?_ ?_ ?_ ?_))
 case _=>simp
 case _=>simp [hza]
 case _=>simp
 case _=>simp
 case _=>simp
 intro t i hi1 hi2 hA hst1 t0 t1 t4 ti tj
 simp
 refine wp_seqX (wp_blockX (par1I m h n c hn a b (by omega) hbn B w hl L1 hlen1 p ha1 i (b - 1) (by omega) hi2 (by omega) _ _ _ hw2 t0 t1 t4 ti tj ?_))
 intro t j hj1 hj2 hG hst2 t0 t1 t4 ti tj
 have hG':All (GeP cI p) L1 (j + 1) b:=fun k z h1 h2 hz=>hG k z h1 (by omega) hz
 obtain ⟨zi,hzi⟩:∃ k:Int,k=(i:Int):=⟨_,rfl⟩
 obtain ⟨zj,hzj⟩:∃ k:Int,k=(j:Int):=⟨_,rfl⟩
 rw [← hza] at t1
 rw [← hzi] at ti
 rw [← hzj] at tj
 obtain ⟨y,hy⟩:=at_get (L:=L1) (i:=j) (by omega)
 have ixj:=h.ix (k:=j) (n:=n) (by omega) hzj B c
 have ldj:=h.ld hw2 hy
 have lda1:=h.ld hw2 ha1
 by_cases hle:i≤j
 ·have hle':¬ zj < zi:=by omega
  obtain ⟨u,hu⟩:=at_get (L:=L1) (i:=i) (by omega)
  have nu:=hst1 u (by omega) hu
  have ny:cI y p < 0:=Classical.byContradiction fun hh=>hst2 y (by omega) hy hh
  have hne:i ≠ j:=fun e=>by subst e; rw [hu] at hy; cases hy; exact nu ny
  have ixi:=h.ix (k:=i) (n:=n) (by omega) hzi B c
  have ldi:=h.ld hw2 hu
  have w1:IntKind.wrap .i64 (zi + 1)=((i + 1:Nat):Int):=by rw [wrap64_in (by omega) (by omega)]; omega
  have w2:IntKind.wrap .i64 (zj - 1)=((j - 1:Nat):Int):=by rw [wrap64_in (by omega) (by omega)]; omega
  obtain ⟨w3,w4,s3,s4,hw4⟩:=InS.swap h.T hw2 hl hu hy
  have hm2:Mv a b L1 (swp L1 i j u y):=Mv.swap hu hy (by omega) (by omega) (by omega) (by omega)
  simp [t0,t1,t4,ti,tj,hle',ixi,ixj,ldi,ldj,s3,s4,w1,w2, -ld3, -st3]
  refine wp_seqX (wp_blockX (par2I m h n c hn a b (by omega) hbn B w hl (swp L1 i j u y) (by simp [hlen1]) p ((swp_keep hu hy (by omega) (by omega)).trans ha1) (i + 1) (j - 1) (by omega) (by omega) (by omega) (hA.swp_left hu hy (by omega) ny) (by rw [show j - 1 + 1=j by omega]; exact hG'.swp_right hu hy (by omega) nu) _ _ _ hw4 ?_ ?_ ?_ ?_ ?_ ?_))
  case _=>simp [t0]
  case _=>simp [t1,hza]
  case _=>simp [t4]
  case _=>simp
  case _=>simp
  intro t w5 L5 k hw5 hm5 ha5 hak hkb hA5 hG5 t0 t1 tk
  obtain ⟨zk,hzk⟩:∃ z:Int,z=(k:Int):=⟨_,rfl⟩
  have hlen5:L5.length=n:=by rw [hm5.len]; simp [hlen1]
  obtain ⟨v,hv⟩:=at_get (L:=L5) (i:=k) (by omega)
  have ixk:=h.ix (k:=k) (n:=n) (by omega) hzk B c
  have ldk:=h.ld hw5 hv
  have lda5:=h.ld hw5 ha5
  obtain ⟨w6,w7,s5,s6,hw7⟩:=InS.swap h.T hw5 hl hv ha5
  rw [← hza] at t1
  rw [← hzk] at tk
  simp [t0,t1,tk,ixa,ixk,ldk,lda5,s5,s6,tupV, -ld3, -st3]
  exact ⟨_,k,hzk,⟨hw7,((hm1.trans hm2).trans hm5).trans (Mv.swap hv ha5 (by omega) (by omega) (by omega) (by omega))⟩,p,part_done ha5 hv hak hkb hA5 hG5⟩
 ·have hle':zj < zi:=by omega
  have e:i=j + 1:=by omega
  obtain ⟨w6,w7,s5,s6,hw7⟩:=InS.swap h.T hw2 hl hy ha1
  simp [t0,t1,t4,ti,tj,hle',ixa,ixj,ldj,lda1,s5,s6,tupV, -ld3, -st3]
  exact ⟨_,j,hzj,⟨hw7,hm1.trans (Mv.swap hy ha1 (by omega) (by omega) (by omega) (by omega))⟩,p,part_done ha1 hy (by omega) (by omega) (e ▸ hA) hG'⟩
set_option maxHeartbeats 2000000 in
theorem peq0I (m:Nat) (h:SI ov C V sz cI fv fc) (n c:Nat) (hn:n≤200) (a b:Nat) (hab:a≤b) (hbn:b≤n) (B:Nat) (w0:AW) (hl:w0.lim≤B) (L0:List α) (hL0:L0.length=n) (p:α) (ha:L0[a]?=some p) (hab':a < b)
  (Q:Ex→Tm→AW→Prop) (t:Tm) (w:AW) (hw:InI C w0 B L0 w)
  (t0:tget t 0=.slice (some ⟨B,0,none⟩) n c) (t1:tget t 1=.int .i64 (a:Nat)) (t4:True) (ti:tget t 9=.int .i64 ((a + 1:Nat):Int)) (tj:tget t 10=.int .i64 ((b - 1:Nat):Int))
  (hQ:∀ t w L i,InI C w0 B L w→Mv a b L0 L→L[a]?=some p→a < i→i≤b→All (LeP cI p) L (a + 1) i→All (GtP cI p) L i b→tget t 9=.int .i64 (i:Nat)→Q (.exit 0) t w) :
  wp (exM Tryz.prog (run Tryz.prog ov (m + 1)) (.loop mc160_l0) t w) Q:=by
 refine wp_rounds (fun r t w=>∃ L i j,InI C w0 B L w∧Mv a b L0 L∧L[a]?=some p∧a + 1 + r≤i∧i≤j + 1∧j < b∧All (LeP cI p) L (a + 1) i∧All (GtP cI p) L (j + 1) b∧tget t 0=.slice (some ⟨B,0,none⟩) n c∧tget t 1=.int .i64 (a:Nat)∧True∧tget t 9=.int .i64 (i:Nat)∧tget t 10=.int .i64 (j:Nat)) 300 (by decide) ⟨L0,a + 1,b - 1,hw,Mv.refl _ _ _,ha,by omega,by omega,by omega,fun k z h1 h2=>by omega,fun k z h1 h2=>by omega,t0,t1,t4,ti,tj⟩ ?_
 clear t0 t1 t4 ti tj hw ha
 rintro r t w ⟨L,i,j,hw,hp,ha,hr,hij,hj,hA,hG,t0,t1,t4,ti,tj⟩
 have hlen:L.length=n:=by rw [hp.len,hL0]
 simp [mc160_l0]
 refine wp_blockX (wp_seqX (wp_blockX (peq1I m h n c hn a b hab hbn B w0 hl L hlen p ha i j (by omega) hij (by omega) _ _ _ hw t0 t1 t4 ti tj ?_)))
 intro t i' hi1 hi2 hA2 hst2 t0 t1 t4 ti tj
 simp
 refine wp_seqX (wp_blockX (peq2I m h n c hn a b hab hbn B w0 hl L hlen p ha i' j (by omega) hi2 (by omega) _ _ _ hw t0 t1 t4 ti tj ?_))
 intro t j' hj1 hj2 hG2 hst3 t0 t1 t4 ti tj
 have hA3:All (LeP cI p) L (a + 1) i':=fun k z h1 h2 hz=>by
  by_cases hk:k < i
  ·exact hA k z h1 hk hz
  ·exact hA2 k z (by omega) h2 hz
 have hG3:All (GtP cI p) L (j' + 1) b:=fun k z h1 h2 hz=>by
  by_cases hk:k < j + 1
  ·exact hG2 k z h1 hk hz
  ·exact hG k z (by omega) h2 hz
 obtain ⟨zi,hzi⟩:∃ k:Int,k=(i':Int):=⟨_,rfl⟩
 obtain ⟨zj,hzj⟩:∃ k:Int,k=(j':Int):=⟨_,rfl⟩
 rw [← hzi] at ti
 rw [← hzj] at tj
 by_cases hle:i'≤j'
 ·have hle':¬ zj < zi:=by omega
  obtain ⟨x,hx⟩:=at_get (L:=L) (i:=i') (by omega)
  obtain ⟨y,hy⟩:=at_get (L:=L) (i:=j') (by omega)
  have nx:GtP cI p x:=Classical.byContradiction fun hh=>hst2 x (by omega) hx hh
  have ny:LeP cI p y:=hst3 y (by omega) hy
  have hne:i' ≠ j':=fun e=>by subst e; rw [hx] at hy; cases hy; exact ny nx
  have ixi:=h.ix (k:=i') (n:=n) (by omega) hzi B c
  have ixj:=h.ix (k:=j') (n:=n) (by omega) hzj B c
  have ldi:=h.ld hw hx
  have ldj:=h.ld hw hy
  have w1:IntKind.wrap .i64 (zi + 1)=((i' + 1:Nat):Int):=by rw [wrap64_in (by omega) (by omega)]; omega
  have w2:IntKind.wrap .i64 (zj - 1)=((j' - 1:Nat):Int):=by rw [wrap64_in (by omega) (by omega)]; omega
  obtain ⟨w1',w2',s1,s2,hw2⟩:=InS.swap h.T hw hl hx hy
  simp [t0,t1,t4,ti,tj,hle',ixi,ixj,ldi,ldj,s1,s2,w1,w2, -ld3, -st3]
  refine ⟨by omega,_,hw2,hp.trans (Mv.swap hx hy (by omega) (by omega) (by omega) (by omega)),(swp_keep hx hy (by omega) (by omega)).trans ha,i' + 1,by omega,j' - 1,by omega,by omega,hA3.swp_left hx hy (by omega) ny,?_,by omega,by omega⟩
  rw [show j' - 1 + 1=j' by omega]
  exact hG3.swp_right hx hy (by omega) nx
 ·have hle':zj < zi:=by omega
  have e:i'=j' + 1:=by omega
  simp [t0,t1,t4,ti,tj,hle']
  exact hQ _ _ L i' hw hp ha (by omega) (by omega) hA3 (e ▸ hG3) (by simp [ti,hzi])
set_option maxHeartbeats 2000000 in
theorem call160 (m:Nat) (ho:∀ args w,ov 160 args w=none) (h:SI ov C V sz cI fv fc) (n c:Nat) (hn:n≤200) (a b pv:Nat) (hab:a < b) (hbn:b≤n) (hpa:a≤pv) (hpb:pv < b) (B:Nat) (L:List α) (p:α) (hp:L[pv]?=some p) (hL:L.length=n) (w:AW) (hl:w.lim≤B) (hB:w.heap.get B=some (.cells (L.flatMap C) 3 false)) :
  ∃ x w',(run Tryz.prog ov (m + 2)).call 160 [.slice (some ⟨B,0,none⟩) n c,.int .i64 (a:Int),.int .i64 (b:Int),.int .i64 (pv:Int)] w .none=.ok (.ret x) w' .none∧∃ L' k,x=.int .i64 (k:Nat)∧LeftI C w w' B a b L L'∧a < k∧k≤b∧All (LeP cI p) L' a k∧All (GtP cI p) L' k b:=by
 refine call_wp text160 (by simp) (ho _ _) ?_
 obtain ⟨za,hza⟩:∃ k:Int,k=(a:Int):=⟨_,rfl⟩
 obtain ⟨zb,hzb⟩:∃ k:Int,k=(b:Int):=⟨_,rfl⟩
 obtain ⟨zp,hzp⟩:∃ k:Int,k=(pv:Int):=⟨_,rfl⟩
 have e1:IntKind.wrap .i64 (za + 1)=((a + 1:Nat):Int):=by rw [wrap64_in (by omega) (by omega)]; omega
 have e2:IntKind.wrap .i64 (zb - 1)=((b - 1:Nat):Int):=by rw [wrap64_in (by omega) (by omega)]; omega
 obtain ⟨x,hx⟩:=at_get (L:=L) (i:=a) (by omega)
 have hw:InI C w B L w:=InS.refl hB
 have ixa:=h.ix (k:=a) (n:=n) (by omega) hza B c
 have ixp:=h.ix (k:=pv) (n:=n) (by omega) hzp B c
 have lda:=h.ld hw hx
 have ldp:=h.ld hw hp
 obtain ⟨w1,w2,s1,s2,hw2⟩:=InS.swap h.T hw hl hx hp
 have hm1:Mv a b L (swp L a pv x p):=Mv.swap hx hp (by omega) (by omega) (by omega) (by omega)
 have ha1:(swp L a pv x p)[a]?=some p:=swp_first hx hp
 rw [← hza,← hzb,← hzp]
 simp [mc160,ixa,ixp,lda,ldp,s1,s2,e1,e2, -ld3, -st3]
 refine wp_seqX (wp_blockX (peq0I m h n c hn a b (by omega) hbn B w hl _ (by simp [hL]) p ha1 hab _ _ _ hw2 ?_ ?_ ?_ ?_ ?_ ?_))
 case _=>simp
 case _=>simp [hza]
 case _=>simp
 case _=>simp
 case _=>simp
 intro t w' L' i hw' hm' ha' hai hib hA hG ti
 simp [ti,tupV]
 refine ⟨L',i,rfl,⟨hw',hm1.trans hm'⟩,hai,hib,fun k z h1 h2 hz=>?_,hG⟩
 by_cases hk:k=a
 ·subst hk; rw [ha'] at hz; cases hz; exact h.wk.irr _
 ·exact hA k z (by omega) h2 hz
end
section
variable {α:Type} {C:α→List Value} {V:α→Value} {sz:Nat} {cI:α→α→Int} {fv:Value} {fc:FuncId} {ov:Ov}
set_option maxHeartbeats 2000000 in
theorem pin1I (m:Nat) (h:SI ov C V sz cI fv fc) (n c:Nat) (hn:n≤200) (a b:Nat) (hab:a≤b) (hbn:b≤n) (B:Nat) (w0:AW) (hl:w0.lim≤B) (L0:List α) (hL0:L0.length=n) (i:Nat) (hi:a < i) (hib:i≤b) (hS:Srt (fun x y=>cI x y < 0) L0 a i) (v10:Value)
  (Q:Ex→Tm→AW→Prop) (t:Tm) (w:AW) (hw:InI C w0 B L0 w)
  (t0:tget t 0=.slice (some ⟨B,0,none⟩) n c) (t1:tget t 1=.int .i64 (a:Nat)) (t2:tget t 2=.int .i64 (b:Nat)) (t3:True) (t9:tget t 7=.int .i64 (i:Nat)) (t10:tget t 8=v10)
  (hQ:∀ t k,i≤k→k≤b→Srt (fun x y=>cI x y < 0) L0 a k→(∀ x y,k < b→L0[k - 1]?=some x→L0[k]?=some y→cI y x < 0)→tget t 0=.slice (some ⟨B,0,none⟩) n c→tget t 1=.int .i64 (a:Nat)→tget t 2=.int .i64 (b:Nat)→True→tget t 7=.int .i64 (k:Nat)→tget t 8=v10→Q (.exit 2) t w) :
  wp (exM Tryz.prog (run Tryz.prog ov (m + 1)) (.loop mc158_l1) t w) Q:=by
 refine wp_rounds (fun r t w'=>w'=w∧i + r≤b∧Srt (fun x y=>cI x y < 0) L0 a (i + r)∧tget t 0=.slice (some ⟨B,0,none⟩) n c∧tget t 1=.int .i64 (a:Nat)∧tget t 2=.int .i64 (b:Nat)∧True∧tget t 7=.int .i64 ((i + r:Nat):Int)∧tget t 8=v10) 300 (by decide) ⟨rfl,by omega,hS,t0,t1,t2,t3,t9,t10⟩ ?_
 clear t0 t1 t2 t3 t9 t10
 rintro r t w' ⟨rfl,hr,hS,t0,t1,t2,t3,t9,t10⟩
 obtain ⟨zb,hzb⟩:∃ k:Int,k=(b:Int):=⟨_,rfl⟩
 obtain ⟨zi,hzi⟩:∃ k:Int,k=((i + r:Nat):Int):=⟨_,rfl⟩
 rw [← hzb] at t2
 rw [← hzi] at t9
 by_cases hlt:i + r < b
 ·have hlt':zi < zb:=by omega
  obtain ⟨zk,hzk⟩:∃ k:Int,k=((i + r - 1:Nat):Int):=⟨_,rfl⟩
  obtain ⟨x,hx⟩:=at_get (L:=L0) (i:=i + r - 1) (by omega)
  obtain ⟨y,hy⟩:=at_get (L:=L0) (i:=i + r) (by omega)
  have ixi:=h.ix (k:=i + r) (n:=n) (by omega) hzi B c
  have ixk:=h.ix (k:=i + r - 1) (n:=n) (by omega) hzk B c
  have ldi:=h.ld hw hy
  have ldk:=h.ld hw hx
  have cm:=h.cm m w' y x
  have w3:IntKind.wrap .i64 (zi - 1)=zk:=by rw [wrap64_in (by omega) (by omega)]; omega
  have w1:IntKind.wrap .i64 (zi + 1)=((i + (r + 1):Nat):Int):=by rw [wrap64_in (by omega) (by omega)]; omega
  by_cases hc:cI y x < 0
  ·simp [mc158_l1,t0,t1,t2,t3,t9,hlt',ixi,ixk,ldi,ldk,cm,hc,w3, -ld3, -st3]
   exact hQ _ (i + r) (by omega) (by omega) hS (fun x' y' _ h1 h2=>by rw [hx] at h1; rw [hy] at h2; cases h1; cases h2; exact hc) (by simp [t0]) (by simp [t1]) (by simp [t2,hzb]) (by simp [t3]) (by simp [t9,hzi]) (by simp [t10])
  ·simp [mc158_l1,t0,t1,t2,t3,t9,t10,hlt',ixi,ixk,ldi,ldk,cm,hc,w3,w1, -ld3, -st3]
   exact ⟨by omega,by omega,hS.step h.wk (fun x' y' _ h1 h2=>by rw [hx] at h1; rw [hy] at h2; cases h1; cases h2; exact hc) (by omega),by omega⟩
 ·have hlt':¬ zi < zb:=by omega
  simp [mc158_l1,t0,t1,t2,t3,t9,hlt']
  exact hQ _ (i + r) (by omega) (by omega) hS (fun _ _ h0=>absurd h0 hlt) (by simp [t0]) (by simp [t1]) (by simp [t2,hzb]) (by simp [t3]) (by simp [t9,hzi]) (by simp [t10])
set_option maxHeartbeats 2000000 in
theorem pin2I (m:Nat) (h:SI ov C V sz cI fv fc) (n c:Nat) (hn:n≤200) (a b:Nat) (hab:a≤b) (hbn:b≤n) (B:Nat) (w0:AW) (hl:w0.lim≤B) (L0:List α) (hL0:L0.length=n) (low:∀ x,0 < a→L0[a - 1]?=some x→All (fun z=>¬ cI z x < 0) L0 a b) (i:Nat) (hi:a < i) (hib:i≤b) (hX:InsX (fun x y=>cI x y < 0) L0 a i (i - 1)) (v10:Value)
  (Q:Ex→Tm→AW→Prop) (t:Tm) (w:AW) (hw:InI C w0 B L0 w)
  (t0:tget t 0=.slice (some ⟨B,0,none⟩) n c) (t1:tget t 1=.int .i64 (a:Nat)) (t2:tget t 2=.int .i64 (b:Nat)) (t3:True) (t9:tget t 7=.int .i64 (i:Nat)) (t10:tget t 8=v10) (t11:tget t 9=.int .i64 ((i - 1:Nat):Int))
  (hQ:∀ t w L,InI C w0 B L w→Mv a i L0 L→Srt (fun x y=>cI x y < 0) L a i→tget t 0=.slice (some ⟨B,0,none⟩) n c→tget t 1=.int .i64 (a:Nat)→tget t 2=.int .i64 (b:Nat)→True→tget t 7=.int .i64 (i:Nat)→tget t 8=v10→Q (.exit 4) t w) :
  wp (exM Tryz.prog (run Tryz.prog ov (m + 1)) (.loop mc158_l2) t w) Q:=by
 refine wp_rounds (fun r t w=>∃ L j,InI C w0 B L w∧Mv a i L0 L∧j + r + 1=i∧a≤j∧InsX (fun x y=>cI x y < 0) L a i j∧tget t 0=.slice (some ⟨B,0,none⟩) n c∧tget t 1=.int .i64 (a:Nat)∧tget t 2=.int .i64 (b:Nat)∧True∧tget t 7=.int .i64 ((i:Nat))∧tget t 8=v10∧tget t 9=.int .i64 (j:Nat)) 300 (by decide) ⟨L0,i - 1,hw,Mv.refl _ _ _,by omega,by omega,hX,t0,t1,t2,t3,t9,t10,t11⟩ ?_
 clear t0 t1 t2 t3 t9 t10 t11 hw
 rintro r t w ⟨L,j,hw,hp,hj,haj,hX,t0,t1,t2,t3,t9,t10,t11⟩
 have hlen:L.length=n:=by rw [hp.len,hL0]
 obtain ⟨za,hza⟩:∃ k:Int,k=(a:Int):=⟨_,rfl⟩
 obtain ⟨zb,hzb⟩:∃ k:Int,k=(b:Int):=⟨_,rfl⟩
 obtain ⟨zi,hzi⟩:∃ k:Int,k=(i:Int):=⟨_,rfl⟩
 obtain ⟨zj,hzj⟩:∃ k:Int,k=(j:Int):=⟨_,rfl⟩
 rw [← hza] at t1 hQ
 rw [← hzb] at t2 hQ
 rw [← hzi] at t9 hQ
 rw [← hzj] at t11
 by_cases h1:1≤j
 ·have h1':1≤zj:=by omega
  obtain ⟨zk,hzk⟩:∃ k:Int,k=((j - 1:Nat):Int):=⟨_,rfl⟩
  obtain ⟨x,hx⟩:=at_get (L:=L) (i:=j - 1) (by omega)
  obtain ⟨y,hy⟩:=at_get (L:=L) (i:=j) (by omega)
  have ixj:=h.ix (k:=j) (n:=n) (by omega) hzj B c
  have ixk:=h.ix (k:=j - 1) (n:=n) (by omega) hzk B c
  have ldj:=h.ld hw hy
  have ldk:=h.ld hw hx
  have cm:=h.cm m w y x
  have w3:IntKind.wrap .i64 (zj - 1)=zk:=by rw [wrap64_in (by omega) (by omega)]; omega
  by_cases hc:cI y x < 0
  ·have hja:a < j:=by
    apply Classical.byContradiction
    intro hh
    have e:j=a:=by omega
    subst e
    rw [hp.out (j - 1) (.inl (by omega))] at hx
    exact ((low x (by omega) hx).mv (hp.widen (Nat.le_refl _) hib)) j y (by omega) (by omega) hy hc
   obtain ⟨w1,w2,s1,s2,hw2⟩:=InS.swap h.T hw hl hy hx
   simp [mc158_l2,t0,t1,t2,t3,t9,t10,t11,h1',ixj,ixk,ldj,ldk,cm,hc,w3,s1,s2, -ld3, -st3]
   exact ⟨by omega,_,hw2,hp.trans (Mv.swap hy hx (by omega) (by omega) (by omega) (by omega)),j - 1,by omega,by omega,hX.step h.wk hja hy hx hc,hza,hzb,hzi,hzk⟩
  ·simp [mc158_l2,t0,t1,t2,t3,t9,t10,t11,h1',ixj,ixk,ldj,ldk,cm,hc,w3, -ld3, -st3]
   exact hQ _ _ L hw hp (hX.stop h.wk (by omega) (fun x' y' _ k1 k2=>by rw [hx] at k1; rw [hy] at k2; cases k1; cases k2; exact hc)) (by simp [t0]) (by simp [t1]) (by simp [t2]) (by simp [t3]) (by simp [t9]) (by simp [t10])
 ·have h1':¬ 1≤zj:=by omega
  simp [mc158_l2,t0,t1,t2,t3,t9,t10,t11,h1']
  exact hQ _ _ L hw hp (hX.stop h.wk (by omega) (fun _ _ h0=>by omega)) (by simp [t0]) (by simp [t1]) (by simp [t2]) (by simp [t3]) (by simp [t9]) (by simp [t10])
set_option maxHeartbeats 2000000 in
theorem pin3I (m:Nat) (h:SI ov C V sz cI fv fc) (n c:Nat) (hn:n≤200) (a b:Nat) (hab:a≤b) (hbn:b≤n) (B:Nat) (w0:AW) (hl:w0.lim≤B) (L0:List α) (hL0:L0.length=n) (i:Nat) (hi:a < i) (hib:i < b) (v10:Value)
  (Q:Ex→Tm→AW→Prop) (t:Tm) (w:AW) (hw:InI C w0 B L0 w)
  (t0:tget t 0=.slice (some ⟨B,0,none⟩) n c) (t1:tget t 1=.int .i64 (a:Nat)) (t2:tget t 2=.int .i64 (b:Nat)) (t3:True) (t9:tget t 7=.int .i64 (i:Nat)) (t10:tget t 8=v10) (t12:tget t 10=.int .i64 ((i + 1:Nat):Int))
  (hQ:∀ t w L,InI C w0 B L w→Mv i b L0 L→tget t 0=.slice (some ⟨B,0,none⟩) n c→tget t 1=.int .i64 (a:Nat)→tget t 2=.int .i64 (b:Nat)→True→tget t 7=.int .i64 (i:Nat)→tget t 8=v10→Q (.exit 6) t w) :
  wp (exM Tryz.prog (run Tryz.prog ov (m + 1)) (.loop mc158_l3) t w) Q:=by
 refine wp_rounds (fun r t w=>∃ L,InI C w0 B L w∧Mv i b L0 L∧i + r + 1≤b∧tget t 0=.slice (some ⟨B,0,none⟩) n c∧tget t 1=.int .i64 (a:Nat)∧tget t 2=.int .i64 (b:Nat)∧True∧tget t 7=.int .i64 ((i:Nat))∧tget t 8=v10∧tget t 10=.int .i64 ((i + r + 1:Nat):Int)) 300 (by decide) ⟨L0,hw,Mv.refl _ _ _,by omega,t0,t1,t2,t3,t9,t10,t12⟩ ?_
 clear t0 t1 t2 t3 t9 t10 t12 hw
 rintro r t w ⟨L,hw,hp,hr,t0,t1,t2,t3,t9,t10,t12⟩
 have hlen:L.length=n:=by rw [hp.len,hL0]
 obtain ⟨za,hza⟩:∃ k:Int,k=(a:Int):=⟨_,rfl⟩
 obtain ⟨zb,hzb⟩:∃ k:Int,k=(b:Int):=⟨_,rfl⟩
 obtain ⟨zi,hzi⟩:∃ k:Int,k=(i:Int):=⟨_,rfl⟩
 obtain ⟨zj,hzj⟩:∃ k:Int,k=((i + r + 1:Nat):Int):=⟨_,rfl⟩
 rw [← hza] at t1 hQ
 rw [← hzb] at t2 hQ
 rw [← hzi] at t9 hQ
 rw [← hzj] at t12
 by_cases hlt:i + r + 1 < b
 ·have hlt':zj < zb:=by omega
  obtain ⟨zk,hzk⟩:∃ k:Int,k=((i + r:Nat):Int):=⟨_,rfl⟩
  obtain ⟨x,hx⟩:=at_get (L:=L) (i:=i + r) (by omega)
  obtain ⟨y,hy⟩:=at_get (L:=L) (i:=i + r + 1) (by omega)
  have ixj:=h.ix (k:=i + r + 1) (n:=n) (by omega) hzj B c
  have ixk:=h.ix (k:=i + r) (n:=n) (by omega) hzk B c
  have ldj:=h.ld hw hy
  have ldk:=h.ld hw hx
  have cm:=h.cm m w y x
  have w3:IntKind.wrap .i64 (zj - 1)=zk:=by rw [wrap64_in (by omega) (by omega)]; omega
  have w4:IntKind.wrap .i64 (zj + 1)=((i + (r + 1) + 1:Nat):Int):=by rw [wrap64_in (by omega) (by omega)]; omega
  by_cases hc:cI y x < 0
  ·obtain ⟨w1,w2,s1,s2,hw2⟩:=InS.swap h.T hw hl hy hx
   simp [mc158_l3,t0,t1,t2,t3,t9,t10,t12,hlt',ixj,ixk,ldj,ldk,cm,hc,w3,w4,s1,s2, -ld3, -st3]
   exact ⟨by omega,_,hw2,hp.trans (Mv.swap hy hx (by omega) (by omega) (by omega) (by omega)),by omega,by omega⟩
  ·simp [mc158_l3,t0,t1,t2,t3,t9,t10,t12,hlt',ixj,ixk,ldj,ldk,cm,hc,w3, -ld3, -st3]
   exact hQ _ _ L hw hp (by simp [t0]) (by simp [t1]) (by simp [t2]) (by simp [t3]) (by simp [t9]) (by simp [t10])
 ·have hlt':¬ zj < zb:=by omega
  simp [mc158_l3,t0,t1,t2,t3,t9,t10,t12,hlt']
  exact hQ _ _ L hw hp (by simp [t0]) (by simp [t1]) (by simp [t2]) (by simp [t3]) (by simp [t9]) (by simp [t10])
def PinIQ (cI:α→α→Int) (L:List α) (a b:Nat) (ex:Ex) (t:Tm):Prop:=ex=.exit 0∨(ex=.ret∧tget t 6=.bool false)∨(ex=.ret∧tget t 6=.bool true∧Srt (fun x y=>cI x y < 0) L a b)
set_option maxHeartbeats 4000000 in
theorem pin0I (m:Nat) (h:SI ov C V sz cI fv fc) (n c:Nat) (hn:n≤200) (a b:Nat) (hab:a≤b) (hbn:b≤n) (B:Nat) (w0:AW) (hl:w0.lim≤B) (L0:List α) (hL0:L0.length=n) (low:∀ x,0 < a→L0[a - 1]?=some x→All (fun z=>¬ cI z x < 0) L0 a b) (hab':a < b)
  (Q:Ex→Tm→AW→Prop) (t:Tm) (w:AW) (hw:InI C w0 B L0 w)
  (t0:tget t 0=.slice (some ⟨B,0,none⟩) n c) (t1:tget t 1=.int .i64 (a:Nat)) (t2:tget t 2=.int .i64 (b:Nat)) (t3:True) (t9:tget t 7=.int .i64 ((a + 1:Nat):Int)) (t10:tget t 8=.int .i64 0)
  (hQ:∀ ex t w L,InI C w0 B L w→Mv a b L0 L→PinIQ cI L a b ex t→Q ex t w) :
  wp (exM Tryz.prog (run Tryz.prog ov (m + 1)) (.loop mc158_l0) t w) Q:=by
 refine wp_rounds (fun r t w=>∃ L i,InI C w0 B L w∧Mv a b L0 L∧a < i∧i≤b∧Srt (fun x y=>cI x y < 0) L a i∧r≤5∧tget t 0=.slice (some ⟨B,0,none⟩) n c∧tget t 1=.int .i64 (a:Nat)∧tget t 2=.int .i64 (b:Nat)∧True∧tget t 7=.int .i64 (i:Nat)∧tget t 8=.int .i64 (r:Nat)) 10 (by decide) ⟨L0,a + 1,hw,Mv.refl _ _ _,by omega,by omega,Srt.one _ (by omega),by omega,t0,t1,t2,t3,t9,t10⟩ ?_
 clear t0 t1 t2 t3 t9 t10 hw
 rintro r t w ⟨L,i,hw,hp,hai,hib,hS,hr,t0,t1,t2,t3,t9,t10⟩
 have hlen:L.length=n:=by rw [hp.len,hL0]
 have hlow:∀ L',Mv a b L L'→∀ x,0 < a→L'[a - 1]?=some x→All (fun z=>¬ cI z x < 0) L' a b:=fun L' k x h0 hx=>by
  rw [k.out _ (.inl (by omega)),hp.out _ (.inl (by omega))] at hx
  exact ((low x h0 hx).mv hp).mv k
 obtain ⟨zr,hzr⟩:∃ k:Int,k=(r:Int):=⟨_,rfl⟩
 rw [← hzr] at t10
 by_cases h5:r < 5
 ·have h5':zr < 5:=by omega
  have wr:IntKind.wrap .i64 (zr + 1)=((r + 1:Nat):Int):=by rw [wrap64_in (by omega) (by omega)]; omega
  simp [mc158_l0,t10,h5']
  refine wp_seqX (wp_blockX (wp_seqX (wp_blockX (pin1I m h n c hn a b hab hbn B w0 hl L hlen i hai hib hS (.int .i64 zr) _ _ _ hw ?_ ?_ ?_ ?_ ?_ ?_ ?_))))
  case _=>simp [t0]
  case _=>simp [t1]
  case _=>simp [t2]
  case _=>simp [t3]
  case _=>simp [t9]
  case _=>simp [t10]
  clear t0 t1 t2 t3 t9 t10
  intro t k hik hkb hSk hst t0 t1 t2 t3 t9 t10
  obtain ⟨za,hza⟩:∃ k:Int,k=(a:Int):=⟨_,rfl⟩
  obtain ⟨zb,hzb⟩:∃ k:Int,k=(b:Int):=⟨_,rfl⟩
  obtain ⟨zk,hzk⟩:∃ z:Int,z=(k:Int):=⟨_,rfl⟩
  rw [← hza] at t1
  rw [← hzb] at t2
  rw [← hzk] at t9
  have wba:IntKind.wrap .i64 (zb - za)=zb - za:=wrap64_in (by omega) (by omega)
  have wka:IntKind.wrap .i64 (zk - za)=zk - za:=wrap64_in (by omega) (by omega)
  have wbk:IntKind.wrap .i64 (zb - zk)=zb - zk:=wrap64_in (by omega) (by omega)
  have wk1:IntKind.wrap .i64 (zk + 1)=((k + 1:Nat):Int):=by rw [wrap64_in (by omega) (by omega)]; omega
  obtain ⟨zj,hzj⟩:∃ z:Int,z=((k - 1:Nat):Int):=⟨_,rfl⟩
  have wk2:IntKind.wrap .i64 (zk - 1)=zj:=by rw [wrap64_in (by omega) (by omega)]; omega
  by_cases hkb':k < b
  ·have ne:¬ zk=zb:=by omega
   by_cases h50:zb - za < 50
   ·simp [t1,t2,t9,ne,wba,h50]
    exact hQ _ _ _ L hw hp (.inr (.inl ⟨rfl,by simp⟩))
   ·obtain ⟨x,hx⟩:=at_get (L:=L) (i:=k - 1) (by omega)
    obtain ⟨y,hy⟩:=at_get (L:=L) (i:=k) (by omega)
    have hc:=hst x y hkb' hx hy
    have ixk:=h.ix (k:=k) (n:=n) (by omega) hzk B c
    have ixj:=h.ix (k:=k - 1) (n:=n) (by omega) hzj B c
    have ldk:=h.ld hw hy
    have ldj:=h.ld hw hx
    obtain ⟨w1,w2,s1,s2,hw2⟩:=InS.swap h.T hw hl hy hx
    have hm1:Mv a b L (swp L k (k - 1) y x):=Mv.swap hy hx (by omega) (by omega) (by omega) (by omega)
    have hX:InsX (fun x y=>cI x y < 0) (swp L k (k - 1) y x) a k (k - 1):=fun p q u v e1 e2 e3 e4 hu hv=>by
     rw [swp_keep hy hx (by omega) (by omega)] at hu hv
     exact hSk p q u v e1 e2 e3 hu hv
    obtain ⟨L1,hL1⟩:∃ L1,L1=swp L k (k - 1) y x:=⟨_,rfl⟩
    rw [← hL1] at hw2 hm1 hX
    have hlen1:L1.length=n:=by rw [hm1.len,hlen]
    -- behind the shift to the left
    have fin:∀ (t:Tm) (w:AW) (L2:List α),InI C w0 B L2 w→Mv a b L L2→Srt (fun x y=>cI x y < 0) L2 a k→tget t 0=.slice (some ⟨B,0,none⟩) n c→tget t 1=.int .i64 za→tget t 2=.int .i64 zb→True→tget t 7=.int .i64 zk→tget t 8=.int .i64 zr →
      ∃ L i,InI C w0 B L w∧Mv a b L0 L∧a < i∧i≤b∧Srt (fun x y=>cI x y < 0) L a i∧r + 1≤5∧tget t 0=.slice (some ⟨B,0,none⟩) n c∧tget t 1=.int .i64 (a:Nat)∧tget t 2=.int .i64 (b:Nat)∧True∧tget t 7=.int .i64 (i:Nat) :=
     fun t w L2 g1 g2 g3 q0 q1 q2 q3 q9 q10=>⟨L2,k,g1,hp.trans g2,by omega,hkb,g3,by omega,q0,by rw [q1,hza],by rw [q2,hzb],q3,by rw [q9,hzk]⟩
    by_cases h2:2≤zk - za
    ·by_cases h3:2≤zb - zk
     ·simp [t0,t1,t2,t3,t9,t10,ne,wba,h50,ixk,ixj,ldk,ldj,s1,s2,wk2,wka,wbk,h2, -ld3, -st3]
      refine wp_seqX (wp_blockX (pin2I m h n c hn a b hab hbn B w0 hl L1 hlen1 (hlow L1 hm1) k (by omega) hkb hX (.int .i64 zr) _ _ _ hw2 ?_ ?_ ?_ ?_ ?_ ?_ ?_ ?_))
      case _=>simp [t0]
      case _=>simp [t1,hza]
      case _=>simp [t2,hzb]
      case _=>simp [t3]
      case _=>simp [t9,hzk]
      case _=>simp [t10]
      case _=>simp [hzj]
      clear t0 t1 t2 t3 t9 t10
      intro t w3 L2 hw3 hm2 hS2 t0 t1 t2 t3 t9 t10
      have hlen2:L2.length=n:=by rw [hm2.len,hlen1]
      rw [← hza] at t1
      rw [← hzb] at t2
      rw [← hzk] at t9
      simp [t2,t9,wbk,h3,wk1]
      refine wp_blockX (pin3I m h n c hn a b hab hbn B w0 hl L2 hlen2 k (by omega) hkb' (.int .i64 zr) _ _ _ hw3 ?_ ?_ ?_ ?_ ?_ ?_ ?_ ?_)
      case _=>simp [t0]
      case _=>simp [t1,hza]
      case _=>simp [t2,hzb]
      case _=>simp [t3]
      case _=>simp [t9,hzk]
      case _=>simp [t10]
      case _=>simp
      clear t0 t1 t2 t3 t9 t10
      intro t w4 L3 hw4 hm3 t0 t1 t2 t3 t9 t10
      simp [t0,t1,t2,t3,t9,t10,wr]
      exact ⟨by omega,L3,hw4,((hp.trans hm1).trans (hm2.widen (Nat.le_refl _) hkb)).trans (hm3.widen (by omega) (Nat.le_refl _)),k,by omega,hkb,hS2.out hm3 (.inl (Nat.le_refl _)),by omega,by omega⟩
     ·simp [t0,t1,t2,t3,t9,t10,ne,wba,h50,ixk,ixj,ldk,ldj,s1,s2,wk2,wka,wbk,h2, -ld3, -st3]
      refine wp_seqX (wp_blockX (pin2I m h n c hn a b hab hbn B w0 hl L1 hlen1 (hlow L1 hm1) k (by omega) hkb hX (.int .i64 zr) _ _ _ hw2 ?_ ?_ ?_ ?_ ?_ ?_ ?_ ?_))
      case _=>simp [t0]
      case _=>simp [t1,hza]
      case _=>simp [t2,hzb]
      case _=>simp [t3]
      case _=>simp [t9,hzk]
      case _=>simp [t10]
      case _=>simp [hzj]
      clear t0 t1 t2 t3 t9 t10
      intro t w3 L2 hw3 hm2 hS2 t0 t1 t2 t3 t9 t10
      rw [← hza] at t1
      rw [← hzb] at t2
      rw [← hzk] at t9
      simp [t0,t1,t2,t3,t9,t10,wbk,h3,wr]
      exact ⟨by omega,L2,hw3,(hp.trans hm1).trans (hm2.widen (Nat.le_refl _) hkb),k,by omega,hkb,hS2,by omega,by omega⟩
    ·have hS1:Srt (fun x y=>cI x y < 0) L1 a k:=Srt.one _ (by omega)
     by_cases h3:2≤zb - zk
     ·simp [t0,t1,t2,t3,t9,t10,ne,wba,h50,ixk,ixj,ldk,ldj,s1,s2,wk2,wka,wbk,h2,h3,wk1, -ld3, -st3]
      refine wp_blockX (pin3I m h n c hn a b hab hbn B w0 hl L1 hlen1 k (by omega) hkb' (.int .i64 zr) _ _ _ hw2 ?_ ?_ ?_ ?_ ?_ ?_ ?_ ?_)
      case _=>simp [t0]
      case _=>simp [t1,hza]
      case _=>simp [t2,hzb]
      case _=>simp [t3]
      case _=>simp [t9,hzk]
      case _=>simp [t10]
      case _=>simp
      clear t0 t1 t2 t3 t9 t10
      intro t w4 L3 hw4 hm3 t0 t1 t2 t3 t9 t10
      simp [t0,t1,t2,t3,t9,t10,wr]
      exact ⟨by omega,L3,hw4,(hp.trans hm1).trans (hm3.widen (by omega) (Nat.le_refl _)),k,by omega,hkb,hS1.out hm3 (.inl (Nat.le_refl _)),by omega,by omega⟩
     ·simp [t0,t1,t2,t3,t9,t10,ne,wba,h50,ixk,ixj,ldk,ldj,s1,s2,wk2,wka,wbk,h2,h3,wr, -ld3, -st3]
      exact ⟨by omega,L1,hw2,hp.trans hm1,k,by omega,hkb,hS1,by omega,by omega⟩
  ·have e:zk=zb:=by omega
   have e':k=b:=by omega
   simp [t1,t2,t9,e]
   exact hQ _ _ _ L hw hp (.inr (.inr ⟨rfl,by simp,e' ▸ hSk⟩))
 ·have h5':¬ zr < 5:=by omega
  simp [mc158_l0,t10,h5']
  exact hQ _ _ _ L hw hp (.inl rfl)
theorem call158 (m:Nat) (ho:∀ args w,ov 158 args w=none) (h:SI ov C V sz cI fv fc) (n c:Nat) (hn:n≤200) (a b:Nat) (hab:a < b) (hbn:b≤n) (B:Nat) (L0:List α) (hL:L0.length=n) (low:∀ x,0 < a→L0[a - 1]?=some x→All (fun z=>¬ cI z x < 0) L0 a b) (w:AW) (hl:w.lim≤B) (hB:w.heap.get B=some (.cells (L0.flatMap C) 3 false)) :
  ∃ x w',(run Tryz.prog ov (m + 2)).call 158 [.slice (some ⟨B,0,none⟩) n c,.int .i64 (a:Int),.int .i64 (b:Int)] w .none=.ok (.ret x) w' .none∧∃ L' bb,x=.bool bb∧LeftI C w w' B a b L0 L'∧(bb=true→Srt (fun x y=>cI x y < 0) L' a b):=by
 refine call_wp text158 (by simp) (ho _ _) ?_
 obtain ⟨za,hza⟩:∃ k:Int,k=(a:Int):=⟨_,rfl⟩
 have e1:IntKind.wrap .i64 (za + 1)=((a + 1:Nat):Int):=by rw [wrap64_in (by omega) (by omega)]; omega
 rw [← hza]
 simp [mc158,e1]
 refine wp_seqX (wp_blockX (pin0I m h n c hn a b (by omega) hbn B w hl L0 hL low hab _ _ _ (InS.refl hB) ?_ ?_ ?_ ?_ ?_ ?_ ?_))
 case _=>simp
 case _=>simp [hza]
 case _=>simp
 case _=>simp
 case _=>simp
 case _=>simp
 intro ex t w' L' hw' hm hq
 rcases hq with rfl | ⟨rfl,h8⟩ | ⟨rfl,h8,hs⟩
 ·simp [tupV]
  exact ⟨L',hw',hm⟩
 ·simp [h8,tupV]
  exact ⟨L',hw',hm⟩
 ·simp [h8,tupV]
  exact ⟨L',⟨hw',hm⟩,hs⟩
end
section
variable {α:Type} {C:α→List Value} {V:α→Value} {sz:Nat} {cI:α→α→Int} {fv:Value} {fc:FuncId} {ov:Ov}
structure TwI (C:α→List Value) (w0:AW) (B X:Nat) (L:List α) (w:AW):Prop where
 ins:InI C w0 B L w
 ne:X ≠ B
 new:w0.next≤X
 lt:X < w.next
 num:∃ s:Int,w.heap.get X=some (.cells [.int .i64 s] 3 false)
theorem call196 (m:Nat) (ho:∀ args w,ov 196 args w=none) (h:SI ov C V sz cI fv fc) (n c:Nat) (lo hi:Nat) (hhi:hi≤n) (a b:Nat) (ha:lo≤a∧a < hi) (hb:lo≤b∧b < hi) (B X:Nat) (L:List α) (hL:L.length=n) (w0 w:AW) (hl:w0.lim≤w0.next) (hw:TwI C w0 B X L w) :
  ∃ x w',(run Tryz.prog ov (m + 2)).call 196 [.slice (some ⟨B,0,none⟩) n c,.int .i64 (a:Int),.int .i64 (b:Int),.pointer (some ⟨X,0,none⟩)] w .none=.ok (.ret x) w' .none∧Two lo hi x∧TwI C w0 B X L w':=by
 refine call_wp text196 (by simp) (ho _ _) ?_
 obtain ⟨⟨hr,hol,hn,hlm⟩,h1,h2,h3,s,h4⟩:=hw
 obtain ⟨za,hza⟩:∃ k:Int,k=(a:Int):=⟨_,rfl⟩
 obtain ⟨zb,hzb⟩:∃ k:Int,k=(b:Int):=⟨_,rfl⟩
 obtain ⟨x,hx⟩:=at_get (L:=L) (i:=a) (by omega)
 obtain ⟨y,hy⟩:=at_get (L:=L) (i:=b) (by omega)
 have ixa:=h.ix (k:=a) (n:=n) (by omega) hza B c
 have ixb:=h.ix (k:=b) (n:=n) (by omega) hzb B c
 have lda:=h.ld (w0:=w0) ⟨hr,hol,hn,hlm⟩ hx
 have ldb:=h.ld (w0:=w0) ⟨hr,hol,hn,hlm⟩ hy
 have cm:=h.cm m w y x
 have l1:w.lim≤X:=by omega
 have cx:=fun w:AW=>ld3 w ⟨X,0,none⟩
 have cs:=fun (w:AW) (x:Value) hx=>st3 w ⟨X,0,none⟩ x hx
 rw [← hza,← hzb]
 by_cases hc:cI y x < 0
 ·simp [mc196,ixa,ixb,lda,ldb,cm,hc,h4,l1,tupV,cx,cs, -ld3, -st3]
  refine ⟨⟨b,a,by rw [hzb,hza],hb.1,hb.2,ha.1,ha.2⟩,⟨?_,fun z hz1 hz2=>?_,hn,hlm⟩,h1,h2,h3,_,by simp; rfl⟩
  ·simp [Ne.symm h1]; exact hr
  ·simp [show ¬ z=X by omega]; exact hol z hz1 hz2
 ·simp [mc196,ixa,ixb,lda,ldb,cm,hc,tupV, -ld3, -st3]
  exact ⟨⟨a,b,by rw [hzb,hza],ha.1,ha.2,hb.1,hb.2⟩,⟨hr,hol,hn,hlm⟩,h1,h2,h3,s,h4⟩
theorem call181 (m:Nat) (ho:∀ args w,ov 181 args w=none) (ho2:∀ args w,ov 196 args w=none) (h:SI ov C V sz cI fv fc) (n c:Nat) (lo hi:Nat) (hhi:hi≤n) (a b d:Nat) (ha:lo≤a∧a < hi) (hb:lo≤b∧b < hi) (hd:lo≤d∧d < hi) (B X:Nat) (L:List α) (hL:L.length=n) (w0 w:AW) (hl:w0.lim≤w0.next) (hw:TwI C w0 B X L w) :
  ∃ x w',(run Tryz.prog ov (m + 3)).call 181 [.slice (some ⟨B,0,none⟩) n c,.int .i64 (a:Int),.int .i64 (b:Int),.int .i64 (d:Int),.pointer (some ⟨X,0,none⟩)] w .none=.ok (.ret x) w' .none∧(∃ k:Nat,x=.int .i64 (k:Int)∧lo≤k∧k < hi)∧TwI C w0 B X L w':=by
 refine call_wp text181 (by simp) (ho _ _) ?_
 obtain ⟨_,w1,c1,⟨p1,q1,rfl,a1,a2,b1,b2⟩,hw1⟩:=call196 m ho2 h n c lo hi hhi a b ha hb B X L hL w0 w hl hw
 obtain ⟨_,w2,c2,⟨p2,q2,rfl,e1,e2,f1,f2⟩,hw2⟩:=call196 m ho2 h n c lo hi hhi q1 d ⟨b1,b2⟩ hd B X L hL w0 w1 hl hw1
 obtain ⟨_,w3,c3,⟨p3,q3,rfl,g1,g2,k1,k2⟩,hw3⟩:=call196 m ho2 h n c lo hi hhi p1 p2 ⟨a1,a2⟩ ⟨e1,e2⟩ B X L hL w0 w2 hl hw2
 simp [mc181,c1,c2,c3,tupV]
 exact ⟨⟨q3,rfl,k1,k2⟩,hw3⟩
theorem call180 (m:Nat) (ho:∀ args w,ov 180 args w=none) (ho1:∀ args w,ov 181 args w=none) (ho2:∀ args w,ov 196 args w=none) (h:SI ov C V sz cI fv fc) (n c:Nat) (hn:n≤200) (lo hi:Nat) (hhi:hi≤n) (a:Nat) (ha:lo < a∧a + 1 < hi) (B X:Nat) (L:List α) (hL:L.length=n) (w0 w:AW) (hl:w0.lim≤w0.next) (hw:TwI C w0 B X L w) :
  ∃ x w',(run Tryz.prog ov (m + 4)).call 180 [.slice (some ⟨B,0,none⟩) n c,.int .i64 (a:Int),.pointer (some ⟨X,0,none⟩)] w .none=.ok (.ret x) w' .none∧(∃ k:Nat,x=.int .i64 (k:Int)∧lo≤k∧k < hi)∧TwI C w0 B X L w':=by
 refine call_wp text180 (by simp) (ho _ _) ?_
 obtain ⟨za,hza⟩:∃ k:Int,k=(a:Int):=⟨_,rfl⟩
 have e1:IntKind.wrap .i64 (za - 1)=((a - 1:Nat):Int):=by rw [wrap64_in (by omega) (by omega)]; omega
 have e2:IntKind.wrap .i64 (za + 1)=((a + 1:Nat):Int):=by rw [wrap64_in (by omega) (by omega)]; omega
 obtain ⟨_,w1,c1,⟨k,rfl,k1,k2⟩,hw1⟩:=call181 m ho1 ho2 h n c lo hi hhi (a - 1) a (a + 1) (by omega) (by omega) (by omega) B X L hL w0 w hl hw
 obtain ⟨z1,hz1⟩:∃ k:Int,k=((a - 1:Nat):Int):=⟨_,rfl⟩
 obtain ⟨z2,hz2⟩:∃ k:Int,k=((a + 1:Nat):Int):=⟨_,rfl⟩
 rw [← hza,← hz1,← hz2] at c1
 rw [← hz1] at e1
 rw [← hz2] at e2
 rw [← hza]
 simp [mc180,e1,e2,c1,tupV]
 exact ⟨⟨k,rfl,k1,k2⟩,hw1⟩
set_option maxHeartbeats 2000000 in
theorem call156 (m:Nat) (ho:∀ args w,ov 156 args w=none) (ho0:∀ args w,ov 180 args w=none) (ho1:∀ args w,ov 181 args w=none) (ho2:∀ args w,ov 196 args w=none) (h:SI ov C V sz cI fv fc) (n c:Nat) (hn:n≤200) (a b:Nat) (hab:a + 12 < b) (hbn:b≤n) (B:Nat) (L:List α) (hL:L.length=n) (w:AW) (hl:w.lim≤w.next) (hBn:B < w.next) (hB:w.heap.get B=some (.cells (L.flatMap C) 3 false)) :
  ∃ x w',(run Tryz.prog ov (m + 5)).call 156 [.slice (some ⟨B,0,none⟩) n c,.int .i64 (a:Int),.int .i64 (b:Int)] w .none=.ok (.ret x) w' .none∧(∃ (k:Nat) (hint:Int),x=.tuple ⟨[.int .i64 (k:Int),.int .i64 hint]⟩∧a≤k∧k < b)∧InI C w B L w':=by
 refine call_wp text156 (by simp) (ho _ _) ?_
 obtain ⟨za,hza⟩:∃ k:Int,k=(a:Int):=⟨_,rfl⟩
 obtain ⟨zb,hzb⟩:∃ k:Int,k=(b:Int):=⟨_,rfl⟩
 obtain ⟨zl,hzl⟩:∃ k:Int,k=((b - a:Nat):Int):=⟨_,rfl⟩
 obtain ⟨q,hq⟩:∃ q:Nat,q=(b - a) / 4:=⟨_,rfl⟩
 obtain ⟨zi,hzi⟩:∃ k:Int,k=((a + q:Nat):Int):=⟨_,rfl⟩
 obtain ⟨zj,hzj⟩:∃ k:Int,k=((a + q * 2:Nat):Int):=⟨_,rfl⟩
 obtain ⟨zk,hzk⟩:∃ k:Int,k=((a + q * 3:Nat):Int):=⟨_,rfl⟩
 obtain ⟨zq,hzq⟩:∃ k:Int,k=(q:Int):=⟨_,rfl⟩
 have e1:IntKind.wrap .i64 (zb - za)=zl:=by rw [wrap64_in (by omega) (by omega)]; omega
 have e2:IntKind.wrap .i64 (zl.tdiv 4)=zq:=by rw [Int.tdiv_eq_ediv_of_nonneg (by omega),wrap64_in (by omega) (by omega)]; omega
 have e3:IntKind.wrap .i64 zq=zq:=wrap64_in (by omega) (by omega)
 have e4:IntKind.wrap .i64 (zq * 2)=zq * 2:=wrap64_in (by omega) (by omega)
 have e5:IntKind.wrap .i64 (zq * 3)=zq * 3:=wrap64_in (by omega) (by omega)
 have e6:IntKind.wrap .i64 (za + zq)=zi:=by rw [wrap64_in (by omega) (by omega)]; omega
 have e7:IntKind.wrap .i64 (za + zq * 2)=zj:=by rw [wrap64_in (by omega) (by omega)]; omega
 have e8:IntKind.wrap .i64 (za + zq * 3)=zk:=by rw [wrap64_in (by omega) (by omega)]; omega
 have g8:8≤zl:=by omega
 obtain ⟨w0,hw0⟩:∃ w0:AW,w0=⟨w.heap.put w.next (some (.cells [.int .i64 0] 3 false)),w.next + 1,w.lim⟩:=⟨_,rfl⟩
 have t0:TwI C w B w.next L w0:=by
  rw [hw0]
  refine ⟨⟨?_,fun x hx hb=>?_,Nat.le_succ _,rfl⟩,by omega,Nat.le_refl _,Nat.lt_succ_self _,0,by simp⟩
  ·simp [show ¬ B=w.next by omega]; exact hB
  ·simp [show ¬ x=w.next by omega]
 rw [← hza,← hzb]
 by_cases h50:50≤zl
 ·obtain ⟨_,w1,c1,⟨k1,rfl,k2,k3⟩,t1⟩:=call180 m ho0 ho1 ho2 h n c hn a b hbn (a + q) (by omega) B w.next L hL w w0 hl t0
  obtain ⟨_,w2,c2,⟨k4,rfl,k5,k6⟩,t2⟩:=call180 m ho0 ho1 ho2 h n c hn a b hbn (a + q * 2) (by omega) B w.next L hL w w1 hl t1
  obtain ⟨_,w3,c3,⟨k7,rfl,k8,k9⟩,t3⟩:=call180 m ho0 ho1 ho2 h n c hn a b hbn (a + q * 3) (by omega) B w.next L hL w w2 hl t2
  obtain ⟨_,w4,c4,⟨j,rfl,j1,j2⟩,t4⟩:=call181 (m + 1) ho1 ho2 h n c a b hbn k1 k4 k7 ⟨k2,k3⟩ ⟨k5,k6⟩ ⟨k8,k9⟩ B w.next L hL w w3 hl t3
  obtain ⟨s,hs⟩:=t4.num
  rw [← hzi] at c1
  rw [← hzj] at c2
  rw [← hzk] at c3
  rw [hw0] at c1
  by_cases s0:s=0
  ·subst s0
   simp [mc156,bin_quo,e1,e2,e3,e4,e5,e6,e7,e8,g8,h50,c1,c2,c3,c4,hs,tupV]
   exact ⟨⟨j,rfl,j1,j2⟩,t4.ins⟩
  ·by_cases s1:s=12
   ·subst s1
    simp [mc156,bin_quo,e1,e2,e3,e4,e5,e6,e7,e8,g8,h50,c1,c2,c3,c4,hs,tupV]
    exact ⟨⟨j,rfl,j1,j2⟩,t4.ins⟩
   ·simp [mc156,bin_quo,e1,e2,e3,e4,e5,e6,e7,e8,g8,h50,c1,c2,c3,c4,hs,s0,s1,tupV]
    exact ⟨⟨j,rfl,j1,j2⟩,t4.ins⟩
 ·obtain ⟨_,w4,c4,⟨j,rfl,j1,j2⟩,t4⟩:=call181 (m + 1) ho1 ho2 h n c a b hbn (a + q) (a + q * 2) (a + q * 3) (by omega) (by omega) (by omega) B w.next L hL w w0 hl t0
  obtain ⟨s,hs⟩:=t4.num
  rw [← hzi,← hzj,← hzk] at c4
  rw [hw0] at c4
  by_cases s0:s=0
  ·subst s0
   simp [mc156,bin_quo,e1,e2,e3,e4,e5,e6,e7,e8,g8,h50,c4,hs,tupV]
   exact ⟨⟨j,rfl,j1,j2⟩,t4.ins⟩
  ·by_cases s1:s=12
   ·subst s1
    simp [mc156,bin_quo,e1,e2,e3,e4,e5,e6,e7,e8,g8,h50,c4,hs,tupV]
    exact ⟨⟨j,rfl,j1,j2⟩,t4.ins⟩
   ·simp [mc156,bin_quo,e1,e2,e3,e4,e5,e6,e7,e8,g8,h50,c4,hs,s0,s1,tupV]
    exact ⟨⟨j,rfl,j1,j2⟩,t4.ins⟩
set_option maxHeartbeats 2000000 in
theorem brkI (m:Nat) (h:SI ov C V sz cI fv fc) (ho:∀ args w,ov 114 args w=none) (n c:Nat) (hn:n≤200) (a b:Nat) (hab:a + 12 < b) (hbn:b≤n) (B:Nat) (w0:AW) (hl:w0.lim≤B) (hl0:w0.lim≤w0.next) (L0:List α) (hL0:L0.length=n) (X:Nat) (hXB:X ≠ B) (hX0:w0.next≤X)
  (Q:Ex→Tm→AW→Prop) (t:Tm) (w:AW) (hw:InI C w0 B L0 w)
  (t0:tget t 0=.slice (some ⟨B,0,none⟩) n c) (t1:tget t 1=.int .i64 (a:Nat)) (t8:tget t 6=.int .i64 ((b - a:Nat):Int)) (t9:tget t 7=.pointer (some ⟨X,0,none⟩)) (t10:tget t 8=.int .u64 ((2 ^ bl (b - a):Nat):Int)) (t11:tget t 9=.int .i64 ((a + (b - a) / 4 * 2 - 1:Nat):Int)) (hXw:X < w.next) (hXr:∃ r:Int,w.heap.get X=some (.cells [.int .u64 r] 173 false))
  (hQ:∀ t w L,InI C w0 B L w→Mv a b L0 L→Q (.exit 0) t w) :
  wp (exM Tryz.prog (run Tryz.prog ov (m + 3)) (.loop mc155_l0) t w) Q:=by
 refine wp_rounds (fun r t w=>∃ L,InI C w0 B L w∧Mv a b L0 L∧r≤3∧tget t 0=.slice (some ⟨B,0,none⟩) n c∧tget t 1=.int .i64 (a:Nat)∧tget t 6=.int .i64 ((b - a:Nat):Int)∧tget t 7=.pointer (some ⟨X,0,none⟩)∧tget t 8=.int .u64 ((2 ^ bl (b - a):Nat):Int)∧tget t 9=.int .i64 ((a + (b - a) / 4 * 2 - 1 + r:Nat):Int)∧X < w.next∧(∃ r:Int,w.heap.get X=some (.cells [.int .u64 r] 173 false))) 10 (by decide) ⟨L0,hw,Mv.refl _ _ _,by omega,t0,t1,t8,t9,t10,t11,hXw,hXr⟩ ?_
 clear t0 t1 t8 t9 t10 t11 hXw hXr hw
 rintro r t w ⟨L,hw,hp,hr,t0,t1,t8,t9,t10,t11,hXw,s,hX⟩
 have hlen:L.length=n:=by rw [hp.len,hL0]
 have hlm:=hw.lim
 obtain ⟨q,hq⟩:∃ q:Nat,q=(b - a) / 4:=⟨_,rfl⟩
 obtain ⟨M,hM⟩:∃ M:Nat,M=2 ^ bl (b - a):=⟨_,rfl⟩
 obtain ⟨f1,f2⟩:=bl_fact (b - a) (by omega)
 obtain ⟨f3,f4⟩:=f1 (by omega)
 rw [← hM] at f3 f4 t10
 rw [← hq] at t11
 obtain ⟨za,hza⟩:∃ k:Int,k=(a:Int):=⟨_,rfl⟩
 obtain ⟨zl,hzl⟩:∃ k:Int,k=((b - a:Nat):Int):=⟨_,rfl⟩
 obtain ⟨zi,hzi⟩:∃ k:Int,k=((a + q * 2 - 1 + r:Nat):Int):=⟨_,rfl⟩
 obtain ⟨zq,hzq⟩:∃ k:Int,k=(q:Int):=⟨_,rfl⟩
 obtain ⟨zM,hzM⟩:∃ k:Int,k=(M:Int):=⟨_,rfl⟩
 rw [← hza] at t1
 rw [← hzl] at t8
 rw [← hzM] at t10
 rw [← hzi] at t11
 have e2:IntKind.wrap .i64 (zl.tdiv 4)=zq:=by rw [Int.tdiv_eq_ediv_of_nonneg (by omega),wrap64_in (by omega) (by omega)]; omega
 have e3:IntKind.wrap .i64 (zq * 2)=zq * 2:=wrap64_in (by omega) (by omega)
 have e4:IntKind.wrap .i64 (za + zq * 2)=za + zq * 2:=wrap64_in (by omega) (by omega)
 have e5:IntKind.wrap .i64 (za + zq * 2 + 1)=za + zq * 2 + 1:=wrap64_in (by omega) (by omega)
 by_cases hle:r < 3
 ·have hle':zi≤za + zq * 2 + 1:=by omega
  obtain ⟨_,w1,hc,r',rfl,hX1,ho1,hn1,hl1⟩:=call114 (m + 2) ho X s w (by omega) hX
  have hw1:InI C w0 B L w1:=⟨(ho1 B (Ne.symm hXB)).trans hw.row,fun y h1 h2=>(ho1 y (by omega)).trans (hw.old y h1 h2),by rw [hn1]; exact hw.next,by rw [hl1]; exact hlm⟩
  obtain ⟨zN,hzN⟩:∃ k:Int,k=((M - 1:Nat):Int):=⟨_,rfl⟩
  have e6:IntKind.wrap .u64 (zM - 1)=zN:=by rw [IntWalk.u64_in _ ⟨by omega,by omega⟩]; omega
  obtain ⟨u,hu1,hu2⟩:=anU_le r' (q:=M - 1) (by omega)
  rw [← hzN] at hu2
  obtain ⟨zu,hzu⟩:∃ k:Int,k=(u:Int):=⟨_,rfl⟩
  rw [← hzu] at hu2
  have e7:IntKind.wrap .i64 zu=zu:=wrap64_in (by omega) (by omega)
  have e8:IntKind.wrap .i64 (zu - zl)=zu - zl:=wrap64_in (by omega) (by omega)
  have e9:IntKind.wrap .i64 (zi + 1)=((a + q * 2 - 1 + (r + 1):Nat):Int):=by rw [wrap64_in (by omega) (by omega)]; omega
  have key:∀ o:Nat,o < b - a→∃ x y w2 w3,(L[a + q * 2 - 1 + r]?=some x∧L[a + o]?=some y)∧storeA Tryz.prog w1 3 (.pointer (some ⟨B,(a + q * 2 - 1 + r) * sz,none⟩)) (V y)=.val undef w2∧storeA Tryz.prog w2 3 (.pointer (some ⟨B,(a + o) * sz,none⟩)) (V x)=.val undef w3∧(∃ L',InI C w0 B L' w3∧Mv a b L0 L'∧X < w3.next∧∃ r:Int,w3.heap.get X=some (.cells [.int .u64 r] 173 false)):=fun o ho=>by
   obtain ⟨x,hx⟩:=at_get (L:=L) (i:=a + q * 2 - 1 + r) (by omega)
   obtain ⟨y,hy⟩:=at_get (L:=L) (i:=a + o) (by omega)
   have hrow:=hw1.row
   have s1:=h.T.st w1 B (a + q * 2 - 1 + r) L y hrow (by omega) (by rw [hl1]; omega)
   have s2:=h.T.st (⟨w1.heap.put B (some (.cells ((L.set (a + q * 2 - 1 + r) y).flatMap C) 3 false)),w1.next,w1.lim⟩:AW) B (a + o) (L.set (a + q * 2 - 1 + r) y) x (by simp) (by rw [List.length_set]; omega) (by show w1.lim≤B; rw [hl1]; omega)
   refine ⟨x,y,_,_,⟨hx,hy⟩,s1,s2,swp L (a + q * 2 - 1 + r) (a + o) x y,⟨?_,fun z h1 h2=>?_,hw1.next,hw1.lim⟩,hp.trans (Mv.swap hx hy (by omega) (by omega) (by omega) (by omega)),by show X < w1.next; rw [hn1]; exact hXw,r',?_⟩
   ·simp [swp]
   ·simp [h2]; exact hw1.old z h1 h2
   ·simp [hXB]; exact hX1
  by_cases hge:zl≤zu
  ·obtain ⟨x,y,w2,w3,⟨hx,hy⟩,s1,s2,L',hw',hp',hX',hr'⟩:=key (u - (b - a)) (by omega)
   obtain ⟨zo,hzo⟩:∃ k:Int,k=((a + (u - (b - a)):Nat):Int):=⟨_,rfl⟩
   have e10:IntKind.wrap .i64 (za + (zu - zl))=zo:=by rw [wrap64_in (by omega) (by omega)]; omega
   have ixi:=h.ix (k:=a + q * 2 - 1 + r) (n:=n) (by omega) hzi B c
   have ixo:=h.ix (k:=a + (u - (b - a))) (n:=n) (by omega) hzo B c
   have ldi:=h.ld hw1 hx
   have ldo:=h.ld hw1 hy
   simp [mc155_l0,t0,t1,t8,t9,t10,t11,bin_quo,bin_anU,e2,e3,e4,e5,e6,hle',hc,hu2,e7,e8,hge,e9,e10,ixi,ixo,ldi,ldo,s1,s2, -ld3, -st3]
   exact ⟨by omega,L',hw',hp',by omega,hza,hzl,by rw [hzM,hM]; simp,by rw [← hq],hX',hr'⟩
  ·obtain ⟨x,y,w2,w3,⟨hx,hy⟩,s1,s2,L',hw',hp',hX',hr'⟩:=key u (by omega)
   obtain ⟨zo,hzo⟩:∃ k:Int,k=((a + u:Nat):Int):=⟨_,rfl⟩
   have e10:IntKind.wrap .i64 (za + zu)=zo:=by rw [wrap64_in (by omega) (by omega)]; omega
   have ixi:=h.ix (k:=a + q * 2 - 1 + r) (n:=n) (by omega) hzi B c
   have ixo:=h.ix (k:=a + u) (n:=n) (by omega) hzo B c
   have ldi:=h.ld hw1 hx
   have ldo:=h.ld hw1 hy
   simp [mc155_l0,t0,t1,t8,t9,t10,t11,bin_quo,bin_anU,e2,e3,e4,e5,e6,hle',hc,hu2,e7,e8,hge,e9,e10,ixi,ixo,ldi,ldo,s1,s2, -ld3, -st3]
   exact ⟨by omega,L',hw',hp',by omega,hza,hzl,by rw [hzM,hM]; simp,by rw [← hq],hX',hr'⟩
 ·have hle':¬ zi≤za + zq * 2 + 1:=by omega
  simp [mc155_l0,t0,t1,t8,t9,t10,t11,bin_quo,e2,e3,e4,e5,hle']
  exact hQ _ _ L hw hp
end
section
variable {α:Type} {C:α→List Value} {V:α→Value} {sz:Nat} {cI:α→α→Int} {fv:Value} {fc:FuncId} {ov:Ov}
theorem call155 (m:Nat) (ho:∀ args w,ov 155 args w=none) (ho1:∀ args w,ov 114 args w=none) (ho2:∀ args w,ov 113 args w=none) (ho3:∀ args w,ov 65 args w=none) (ho4:∀ args w,ov 91 args w=none) (h:SI ov C V sz cI fv fc) (n c:Nat) (hn:n≤200) (a b:Nat) (hab:a + 12 < b) (hbn:b≤n) (B:Nat) (L:List α) (hL:L.length=n) (w:AW) (hl:w.lim≤B) (hl0:w.lim≤w.next) (hBn:B < w.next) (hB:w.heap.get B=some (.cells (L.flatMap C) 3 false)) :
  ∃ x w',(run Tryz.prog ov (m + 4)).call 155 [.slice (some ⟨B,0,none⟩) n c,.int .i64 (a:Int),.int .i64 (b:Int)] w .none=.ok (.ret x) w' .none∧x=.tuple ⟨[]⟩∧∃ L',LeftI C w w' B a b L L':=by
 refine call_wp text155 (by simp) (ho _ _) ?_
 obtain ⟨za,hza⟩:∃ k:Int,k=(a:Int):=⟨_,rfl⟩
 obtain ⟨zb,hzb⟩:∃ k:Int,k=(b:Int):=⟨_,rfl⟩
 obtain ⟨zl,hzl⟩:∃ k:Int,k=((b - a:Nat):Int):=⟨_,rfl⟩
 obtain ⟨q,hq⟩:∃ q:Nat,q=(b - a) / 4:=⟨_,rfl⟩
 obtain ⟨zq,hzq⟩:∃ k:Int,k=(q:Int):=⟨_,rfl⟩
 have e1:IntKind.wrap .i64 (zb - za)=zl:=by rw [wrap64_in (by omega) (by omega)]; omega
 have e2:IntKind.wrap .i64 (zl.tdiv 4)=zq:=by rw [Int.tdiv_eq_ediv_of_nonneg (by omega),wrap64_in (by omega) (by omega)]; omega
 have e3:IntKind.wrap .i64 (zq * 2)=zq * 2:=wrap64_in (by omega) (by omega)
 have e4:IntKind.wrap .i64 (za + zq * 2)=za + zq * 2:=wrap64_in (by omega) (by omega)
 have e5:IntKind.wrap .i64 (za + zq * 2 - 1)=((a + (b - a) / 4 * 2 - 1:Nat):Int):=by rw [wrap64_in (by omega) (by omega)]; omega
 have e6:IntKind.wrap .u64 zl=zl:=IntWalk.u64_in _ ⟨by omega,by omega⟩
 have g8:8≤zl:=by omega
 obtain ⟨w0,hw0⟩:∃ w0:AW,w0=⟨(w.heap.put w.next (some (.cells [.int .u64 0] 173 false))).put w.next (some (.cells [.int .u64 zl] 173 false)),w.next + 1,w.lim⟩:=⟨_,rfl⟩
 obtain ⟨_,w0',hc,rfl,hw0'⟩:=call113 m ho2 ho3 ho4 (b - a) (by omega) w0
 rw [hw0'] at hc
 have i0:InI C w B L w0:=by
  rw [hw0]
  refine ⟨?_,fun x hx hb=>?_,Nat.le_succ _,rfl⟩
  ·simp [show ¬ B=w.next by omega]; exact hB
  ·simp [show ¬ x=w.next by omega]
 have n0:w0.next=w.next + 1:=by rw [hw0]
 have x0:w0.heap.get w.next=some (.cells [.int .u64 zl] 173 false):=by rw [hw0]; simp
 obtain ⟨M,hM⟩:∃ M:Nat,M=2 ^ bl (b - a):=⟨_,rfl⟩
 rw [← hzl,← hM] at hc
 have hc':=hc
 rw [hw0] at hc'
 rw [← hza,← hzb]
 simp [mc155,bin_quo,e1,e2,e3,e4,e5,e6,g8,hl0,hc']
 rw [← hw0]
 refine wp_blockX (brkI m h ho1 n c hn a b hab hbn B w hl hl0 L hL w.next (by omega) (Nat.le_refl _) _ _ _ i0 ?_ ?_ ?_ ?_ ?_ ?_ (by omega) ⟨_,x0⟩ ?_)
 case _=>simp
 case _=>simp [hza]
 case _=>simp [hzl]
 case _=>simp
 case _=>simp [hM]
 case _=>simp
 case _ =>
  intro t w' L' hw hp
  simp [tupV]
  exact ⟨L',hw,hp⟩
end
section
variable {α:Type} {C:α→List Value} {V:α→Value} {sz:Nat} {cI:α→α→Int} {fv:Value} {fc:FuncId} {ov:Ov}
noncomputable def mc133_r4:MC:=.seq (.ops [⟨false,none,some 95,33,.move (.tmp 0)⟩,⟨false,none,some 96,3,.move (.tmp 1)⟩,⟨false,none,some 97,3,.move (.tmp 2)⟩,⟨false,none,some 98,3,.move (.tmp 11)⟩,⟨false,none,some 99,94,.call ⟨.value (.func 161),#[.tmp 95,.tmp 96,.tmp 97,.tmp 98],#[33,3,3,3]⟩⟩,⟨false,none,some 94,94,.move (.tmp 99)⟩,⟨false,none,some 100,3,.extract (.tmp 94) 0⟩,⟨false,none,some 101,4,.extract (.tmp 94) 1⟩,⟨false,none,some 14,3,.assign (.tmp 100)⟩,⟨false,none,some 15,4,.assign (.tmp 101)⟩]) (.seq (.ops [⟨false,none,some 102,4,.move (.tmp 15)⟩,⟨false,none,some 9,4,.assign (.tmp 102)⟩]) (.seq (.ops [⟨false,none,some 103,3,.move (.tmp 14)⟩,⟨false,none,some 104,3,.move (.tmp 1)⟩,⟨false,none,some 105,3,.binOp .sub 3 (.tmp 103) (.tmp 104) 3⟩,⟨false,none,some 106,3,.move (.tmp 2)⟩,⟨false,none,some 107,3,.move (.tmp 14)⟩,⟨false,none,some 108,3,.binOp .sub 3 (.tmp 106) (.tmp 107) 3⟩,⟨false,none,some 16,3,.assign (.tmp 105)⟩,⟨false,none,some 17,3,.assign (.tmp 108)⟩]) (.seq (.ops [⟨false,none,some 109,3,.move (.tmp 10)⟩,⟨false,none,some 110,3,.binOp .quo 3 (.tmp 109) (.const (.int .i64 8)) 3⟩,⟨false,none,some 18,3,.assign (.tmp 110)⟩]) (.seq (.ops [⟨false,none,some 111,3,.move (.tmp 16)⟩,⟨false,none,some 112,3,.move (.tmp 17)⟩,⟨false,none,some 113,4,.binOp .lss 3 (.tmp 111) (.tmp 112) 3⟩]) (.cond (.tmp 113) (.seq (.ops [⟨false,none,some 114,3,.move (.tmp 16)⟩,⟨false,none,some 115,3,.move (.tmp 18)⟩,⟨false,none,some 116,4,.binOp .geq 3 (.tmp 114) (.tmp 115) 3⟩,⟨false,none,some 8,4,.assign (.tmp 116)⟩]) (.seq (.ops [⟨false,none,some 117,33,.move (.tmp 0)⟩,⟨false,none,some 118,3,.move (.tmp 1)⟩,⟨false,none,some 119,3,.move (.tmp 14)⟩,⟨false,none,some 120,3,.move (.tmp 3)⟩,⟨false,none,some 121,0,.call ⟨.value (.func 133),#[.tmp 117,.tmp 118,.tmp 119,.tmp 120],#[33,3,3,3]⟩⟩]) (.ops [⟨false,none,some 122,3,.move (.tmp 14)⟩,⟨false,none,some 123,3,.binOp .add 3 (.tmp 122) (.const (.int .i64 1)) 3⟩,⟨false,none,some 1,3,.assign (.tmp 123)⟩]))) (.seq (.ops [⟨false,none,some 124,3,.move (.tmp 17)⟩,⟨false,none,some 125,3,.move (.tmp 18)⟩,⟨false,none,some 126,4,.binOp .geq 3 (.tmp 124) (.tmp 125) 3⟩,⟨false,none,some 8,4,.assign (.tmp 126)⟩]) (.seq (.ops [⟨false,none,some 127,33,.move (.tmp 0)⟩,⟨false,none,some 128,3,.move (.tmp 14)⟩,⟨false,none,some 129,3,.binOp .add 3 (.tmp 128) (.const (.int .i64 1)) 3⟩,⟨false,none,some 130,3,.move (.tmp 2)⟩,⟨false,none,some 131,3,.move (.tmp 3)⟩,⟨false,none,some 132,0,.call ⟨.value (.func 133),#[.tmp 127,.tmp 129,.tmp 130,.tmp 131],#[33,3,3,3]⟩⟩]) (.ops [⟨false,none,some 133,3,.move (.tmp 14)⟩,⟨false,none,some 2,3,.assign (.tmp 133)⟩]))))))))
noncomputable def mc133_r3:MC:=.seq (.seq (.ops [⟨true,none,some 73,3,.move (.tmp 1)⟩,⟨true,none,some 74,4,.binOp .gtr 3 (.tmp 73) (.const (.int .i64 0)) 3⟩,⟨true,none,some 75,4,.move (.tmp 74)⟩,⟨true,some (75,true),some 76,33,.move (.tmp 0)⟩,⟨true,some (75,true),some 77,3,.move (.tmp 1)⟩,⟨true,some (75,true),some 78,3,.binOp .sub 3 (.tmp 77) (.const (.int .i64 1)) 3⟩,⟨true,some (75,true),some 79,0,.indexAddr 33 (.tmp 76) (.tmp 78)⟩,⟨true,some (75,true),some 80,3,.load 3 (.tmp 79)⟩,⟨true,some (75,true),some 81,33,.move (.tmp 0)⟩,⟨true,some (75,true),some 82,3,.move (.tmp 11)⟩,⟨true,some (75,true),some 83,0,.indexAddr 33 (.tmp 81) (.tmp 82)⟩,⟨true,some (75,true),some 84,3,.load 3 (.tmp 83)⟩,⟨false,some (75,true),some 85,4,.call ⟨.value (.func 159),#[.tmp 80,.tmp 84],#[3,3]⟩⟩,⟨true,some (75,true),some 86,4,.unOp .not 4 (.tmp 85)⟩,⟨true,none,some 87,4,.pick (.tmp 75) (.tmp 86) (.const (.bool false))⟩]) (.cond (.tmp 87) (.seq (.ops [⟨false,none,some 88,33,.move (.tmp 0)⟩,⟨false,none,some 89,3,.move (.tmp 1)⟩,⟨false,none,some 90,3,.move (.tmp 2)⟩,⟨false,none,some 91,3,.move (.tmp 11)⟩,⟨false,none,some 92,3,.call ⟨.value (.func 160),#[.tmp 88,.tmp 89,.tmp 90,.tmp 91],#[33,3,3,3]⟩⟩,⟨false,none,some 13,3,.assign (.tmp 92)⟩]) (.seq (.ops [⟨false,none,some 93,3,.move (.tmp 13)⟩,⟨false,none,some 1,3,.assign (.tmp 93)⟩]) (.exit 1))) (.skip))) mc133_r4
noncomputable def mc133_r2:MC:=.seq (.seq (.ops [⟨false,none,some 61,4,.move (.tmp 8)⟩,⟨false,none,some 62,4,.move (.tmp 61)⟩,⟨false,some (62,true),some 63,4,.move (.tmp 9)⟩,⟨false,none,some 64,4,.pick (.tmp 62) (.tmp 63) (.const (.bool false))⟩,⟨false,none,some 65,4,.move (.tmp 64)⟩,⟨false,some (65,true),some 66,136,.move (.tmp 12)⟩,⟨false,some (65,true),some 67,4,.binOp .eql 136 (.tmp 66) (.const (.int .i64 1)) 136⟩,⟨false,none,some 68,4,.pick (.tmp 65) (.tmp 67) (.const (.bool false))⟩]) (.cond (.tmp 68) (.seq (.ops [⟨false,none,some 69,33,.move (.tmp 0)⟩,⟨false,none,some 70,3,.move (.tmp 1)⟩,⟨false,none,some 71,3,.move (.tmp 2)⟩,⟨false,none,some 72,4,.call ⟨.value (.func 158),#[.tmp 69,.tmp 70,.tmp 71],#[33,3,3]⟩⟩]) (.cond (.tmp 72) (.ret) (.skip))) (.skip))) mc133_r3
noncomputable def mc133_r1:MC:=.seq (.ops [⟨false,none,some 43,33,.move (.tmp 0)⟩,⟨false,none,some 44,3,.move (.tmp 1)⟩,⟨false,none,some 45,3,.move (.tmp 2)⟩,⟨false,none,some 46,137,.call ⟨.value (.func 156),#[.tmp 43,.tmp 44,.tmp 45],#[33,3,3]⟩⟩,⟨false,none,some 42,137,.move (.tmp 46)⟩,⟨false,none,some 47,3,.extract (.tmp 42) 0⟩,⟨false,none,some 48,136,.extract (.tmp 42) 1⟩,⟨false,none,some 11,3,.assign (.tmp 47)⟩,⟨false,none,some 12,136,.assign (.tmp 48)⟩]) (.seq (.seq (.ops [⟨false,none,some 49,136,.move (.tmp 12)⟩,⟨false,none,some 50,4,.binOp .eql 136 (.tmp 49) (.const (.int .i64 2)) 136⟩]) (.cond (.tmp 50) (.seq (.ops [⟨false,none,some 51,33,.move (.tmp 0)⟩,⟨false,none,some 52,3,.move (.tmp 1)⟩,⟨false,none,some 53,3,.move (.tmp 2)⟩,⟨false,none,some 54,0,.call ⟨.value (.func 157),#[.tmp 51,.tmp 52,.tmp 53],#[33,3,3]⟩⟩]) (.seq (.ops [⟨false,none,some 55,3,.move (.tmp 2)⟩,⟨false,none,some 56,3,.binOp .sub 3 (.tmp 55) (.const (.int .i64 1)) 3⟩,⟨false,none,some 57,3,.move (.tmp 11)⟩,⟨false,none,some 58,3,.move (.tmp 1)⟩,⟨false,none,some 59,3,.binOp .sub 3 (.tmp 57) (.tmp 58) 3⟩,⟨false,none,some 60,3,.binOp .sub 3 (.tmp 56) (.tmp 59) 3⟩,⟨false,none,some 11,3,.assign (.tmp 60)⟩]) (.ops [⟨false,none,some 12,136,.assign (.const (.int .i64 1))⟩]))) (.skip))) mc133_r2)
theorem mc133_l0_eq:mc133_l0=.block 1 (.seq (.ops [⟨false,none,some 19,3,.move (.tmp 2)⟩,⟨false,none,some 20,3,.move (.tmp 1)⟩,⟨false,none,some 21,3,.binOp .sub 3 (.tmp 19) (.tmp 20) 3⟩,⟨false,none,some 10,3,.assign (.tmp 21)⟩]) (.seq (.seq (.ops [⟨false,none,some 22,3,.move (.tmp 10)⟩,⟨false,none,some 23,4,.binOp .leq 3 (.tmp 22) (.const (.int .i64 12)) 3⟩]) (.cond (.tmp 23) (.seq (.ops [⟨false,none,some 24,33,.move (.tmp 0)⟩,⟨false,none,some 25,3,.move (.tmp 1)⟩,⟨false,none,some 26,3,.move (.tmp 2)⟩,⟨false,none,some 27,0,.call ⟨.value (.func 153),#[.tmp 24,.tmp 25,.tmp 26],#[33,3,3]⟩⟩]) (.ret)) (.skip))) (.seq (.seq (.ops [⟨false,none,some 28,3,.move (.tmp 3)⟩,⟨false,none,some 29,4,.binOp .eql 3 (.tmp 28) (.const (.int .i64 0)) 3⟩]) (.cond (.tmp 29) (.seq (.ops [⟨false,none,some 30,33,.move (.tmp 0)⟩,⟨false,none,some 31,3,.move (.tmp 1)⟩,⟨false,none,some 32,3,.move (.tmp 2)⟩,⟨false,none,some 33,0,.call ⟨.value (.func 154),#[.tmp 30,.tmp 31,.tmp 32],#[33,3,3]⟩⟩]) (.ret)) (.skip))) (.seq (.seq (.ops [⟨false,none,some 34,4,.move (.tmp 8)⟩,⟨false,none,some 35,4,.unOp .not 4 (.tmp 34)⟩]) (.cond (.tmp 35) (.seq (.ops [⟨false,none,some 36,33,.move (.tmp 0)⟩,⟨false,none,some 37,3,.move (.tmp 1)⟩,⟨false,none,some 38,3,.move (.tmp 2)⟩,⟨false,none,some 39,0,.call ⟨.value (.func 155),#[.tmp 36,.tmp 37,.tmp 38],#[33,3,3]⟩⟩]) (.ops [⟨false,none,some 40,3,.move (.tmp 3)⟩,⟨false,none,some 41,3,.binOp .sub 3 (.tmp 40) (.const (.int .i64 1)) 3⟩,⟨false,none,some 3,3,.assign (.tmp 41)⟩])) (.skip))) mc133_r1)))):=rfl
def RecI (ov:Ov) (C:α→List Value) (cI:α→α→Int) (fv:Value) (g n c B d:Nat):Prop:=∀ (a b:Nat) (lim:Int) (L:List α) (w:AW),a≤b→b≤n→b - a < d→L.length=n→(∀ x,0 < a→L[a - 1]?=some x→All (fun z=>¬ cI z x < 0) L a b)→w.lim≤B→w.lim≤w.next→B < w.next→w.heap.get B=some (.cells (L.flatMap C) 3 false) →
  ∃ x w',(run Tryz.prog ov (g + 5)).call 133 [.slice (some ⟨B,0,none⟩) n c,.int .i64 (a:Int),.int .i64 (b:Int),.int .i64 lim] w .none=.ok (.ret x) w' .none∧x=.tuple ⟨[]⟩∧∃ L',LeftI C w w' B a b L L'∧Srt (fun x y=>cI x y < 0) L' a b
structure OsI (ov:Ov):Prop where
 oPDQ:∀ args w,ov 133 args w=none
 oINS:∀ args w,ov 153 args w=none
 oHEAP:∀ args w,ov 154 args w=none
 oSIF:∀ args w,ov 179 args w=none
 oBRK:∀ args w,ov 155 args w=none
 oCHO:∀ args w,ov 156 args w=none
 oREV:∀ args w,ov 157 args w=none
 oPIN:∀ args w,ov 158 args w=none
 oPEQ:∀ args w,ov 160 args w=none
 oPAR:∀ args w,ov 161 args w=none
 oNPT:∀ args w,ov 113 args w=none
 oNXT:∀ args w,ov 114 args w=none
 oMDA:∀ args w,ov 180 args w=none
 oMED:∀ args w,ov 181 args w=none
 oORD:∀ args w,ov 196 args w=none
 oLEN:∀ args w,ov 65 args w=none
 oL64:∀ args w,ov 91 args w=none
set_option maxHeartbeats 2000000 in
theorem pdq4I (g:Nat) (h:SI ov C V sz cI fv fc) (o:OsI ov) (n c:Nat) (hn:n≤200) (a b:Nat) (hbn:b≤n) (B:Nat) (w0:AW) (hl:w0.lim≤B) (hl0:w0.lim≤w0.next) (hBn:B < w0.next) (L0:List α) (hL0:L0.length=n) (a1 b1:Nat) (hd:a1 + 12 < b1) (hrec:RecI ov C cI fv g n c B (b1 - a1)) (L:List α) (hP:Pdq (fun x y=>cI x y < 0) a b a1 b1 L0 L) (Q:Ex→Tm→AW→Prop) (t:Tm) (w:AW) (hw:InI C w0 B L w) (lim:Int) (t0:tget t 0=.slice (some ⟨B,0,none⟩) n c) (t1:tget t 1=.int .i64 (a1:Nat)) (t2:tget t 2=.int .i64 (b1:Nat)) (t3:tget t 3=.int .i64 lim) (t4:True) (t12:tget t 10=.int .i64 ((b1 - a1:Nat):Int)) (pv:Nat) (hpa:a1≤pv) (hpb:pv < b1) (t13:tget t 11=.int .i64 (pv:Nat)) (hN:∀ t w L a2 b2,Pdq (fun x y=>cI x y < 0) a b a2 b2 L0 L→b2 - a2 < b1 - a1→InI C w0 B L w→tget t 0=.slice (some ⟨B,0,none⟩) n c→tget t 1=.int .i64 (a2:Nat)→tget t 2=.int .i64 (b2:Nat)→tget t 3=.int .i64 lim→True→(∃ wb,tget t 8=.bool wb)→(∃ wp,tget t 9=.bool wp)→Q .normal t w) :
  wp (exM Tryz.prog (run Tryz.prog ov (g + 5)) mc133_r4 t w) Q:=by
 have hlen:L.length=n:=by rw [hP.mv.len,hL0]
 have hlm:=hw.lim
 have hnx:=hw.next
 have hb0:=hP.b1
 obtain ⟨za,hza⟩:∃ k:Int,k=(a1:Int):=⟨_,rfl⟩
 obtain ⟨zb,hzb⟩:∃ k:Int,k=(b1:Int):=⟨_,rfl⟩
 obtain ⟨zl,hzl⟩:∃ k:Int,k=((b1 - a1:Nat):Int):=⟨_,rfl⟩
 rw [← hza] at t1
 rw [← hzb] at t2
 rw [← hzl] at t12
 obtain ⟨_,w1,c1,L1,k,p,bb,rfl,⟨i1,m1⟩,pt⟩:=call161 (g + 3) o.oPAR h n c hn a1 b1 pv (by omega) (by omega) hpa hpb B L hlen w (by omega) hw.row
 have hP1:=hP.move m1
 have hlen1:L1.length=n:=by rw [m1.len,hlen]
 have hw1:=hw.trans i1
 have hlm1:=hw1.lim
 have hnx1:=hw1.next
 obtain ⟨p1,p2,p3,p4,p5⟩:=pt
 obtain ⟨zp,hzp⟩:∃ k:Int,k=(pv:Int):=⟨_,rfl⟩
 obtain ⟨zk,hzk⟩:∃ z:Int,z=(k:Int):=⟨_,rfl⟩
 obtain ⟨zm,hzm⟩:∃ z:Int,z=((k + 1:Nat):Int):=⟨_,rfl⟩
 rw [← hza,← hzb,← hzp,← hzk] at c1
 rw [← hzp] at t13
 have e1:IntKind.wrap .i64 (zk - za)=zk - za:=wrap64_in (by omega) (by omega)
 have e2:IntKind.wrap .i64 (zb - zk)=zb - zk:=wrap64_in (by omega) (by omega)
 have e3:IntKind.wrap .i64 (zk + 1)=zm:=by rw [wrap64_in (by omega) (by omega)]; omega
 obtain ⟨z8,hz8⟩:∃ z:Int,IntKind.wrap .i64 (zl.tdiv 8)=z:=⟨_,rfl⟩
 have low1:=hP1.low
 have hcr:∀ (L2:List α),L2[k]?=some p→All (LtP cI p) L2 a1 k→All (GeP cI p) L2 (k + 1) b1→∀ i j x y,a1≤i→i < k + 1→k≤j→i < j→j < b1→L2[i]?=some x→L2[j]?=some y→¬ cI y x < 0:=fun L2 q0 q1 q2 i j x y h1 h2 h3 h4 h5 hx hy=>by
  have hx':¬ cI p x < 0:=by
   by_cases hi:i=k
   ·subst hi; rw [q0] at hx; cases hx; exact h.wk.irr _
   ·exact h.wk.asym (q1 i x h1 (by omega) hx)
  have hy':¬ cI y p < 0:=by
   by_cases hj:j=k
   ·subst hj; rw [q0] at hy; cases hy; exact h.wk.irr _
   ·exact q2 j y (by omega) h5 hy
  exact h.wk.trans hx' hy'
 by_cases hlt:zk - za < zb - zk
 ·obtain ⟨_,w2,c2,rfl,L2,⟨i2,m2⟩,s2⟩:=hrec a1 k lim L1 w1 p1 (by omega) (by omega) hlen1 (fun x h0 hx=>(low1 x h0 hx).part (Nat.le_refl _) (by omega)) (by omega) (by omega) (by omega) hw1.row
  rw [← hza,← hzk] at c2
  have q0:L2[k]?=some p:=by rw [m2.out k (.inr (Nat.le_refl _))]; exact p3
  have q1:=p4.mv m2
  have q2:All (GeP cI p) L2 (k + 1) b1:=p5.out m2 (.inr (by omega))
  have hP2:=hP1.move (m2.widen (Nat.le_refl _) (by omega))
  have hS:Srt (fun x y=>cI x y < 0) L2 a1 (k + 1):=fun i j x y h1 h2 h3 hx hy=>by
   by_cases hj:j=k
   ·exact hcr L2 q0 q1 q2 i j x y h1 (by omega) (by omega) h2 (by omega) hx hy
   ·exact s2 i j x y h1 h2 (by omega) hx hy
  have hP3:=hP2.right (m:=k + 1) (by omega) (by omega) hS (fun i j x y h1 h2 h3 h4 hx hy=>hcr L2 q0 q1 q2 i j x y h1 h2 (by omega) (by omega) h4 hx hy) (by omega)
  simp [mc133_r4,t0,t1,t2,t3,t4,t12,t13,c1,e1,e2,hlt,c2,e3,bin_quo,hz8]
  exact hN _ w2 L2 (k + 1) b1 hP3 (by omega) (hw1.trans i2) (by simp [t0]) (by simp [hzm]) (by simp [t2,hzb]) (by simp [t3]) (by simp [t4]) ⟨_,by simp; rfl⟩ ⟨_,by simp; rfl⟩
 ·obtain ⟨_,w2,c2,rfl,L2,⟨i2,m2⟩,s2⟩:=hrec (k + 1) b1 lim L1 w1 (by omega) (by omega) (by omega) hlen1 (fun x h0 hx=>by
   rw [show k + 1 - 1=k by omega,p3] at hx; cases hx; exact p5) (by omega) (by omega) (by omega) hw1.row
  rw [← hzb,← hzm] at c2
  have q0:L2[k]?=some p:=by rw [m2.out k (.inl (by omega))]; exact p3
  have q1:All (LtP cI p) L2 a1 k:=p4.out m2 (.inl (by omega))
  have q2:=p5.mv m2
  have hP2:=hP1.move (m2.widen (by omega) (Nat.le_refl _))
  have hS:Srt (fun x y=>cI x y < 0) L2 k b1:=s2.cons q0 q2
  have hP3:=hP2.left (m:=k) p1 (by omega) hS (fun i j x y h1 h2 h3 h4 hx hy=>hcr L2 q0 q1 q2 i j x y h1 (by omega) h3 (by omega) h4 hx hy)
  simp [mc133_r4,t0,t1,t2,t3,t4,t12,t13,c1,e1,e2,hlt,c2,e3,bin_quo,hz8]
  exact hN _ w2 L2 a1 k hP3 (by omega) (hw1.trans i2) (by simp [t0]) (by simp [t1,hza]) (by simp [hzk]) (by simp [t3]) (by simp [t4]) ⟨_,by simp; rfl⟩ ⟨_,by simp; rfl⟩
end
section
variable {α:Type} {C:α→List Value} {V:α→Value} {sz:Nat} {cI:α→α→Int} {fv:Value} {fc:FuncId} {ov:Ov}
set_option maxHeartbeats 2000000 in
theorem pdq3I (g:Nat) (h:SI ov C V sz cI fv fc) (o:OsI ov) (n c:Nat) (hn:n≤200) (a b:Nat) (hbn:b≤n) (B:Nat) (w0:AW) (hl:w0.lim≤B) (hl0:w0.lim≤w0.next) (hBn:B < w0.next) (L0:List α) (hL0:L0.length=n) (a1 b1:Nat) (hd:a1 + 12 < b1) (hrec:RecI ov C cI fv g n c B (b1 - a1)) (L:List α) (hP:Pdq (fun x y=>cI x y < 0) a b a1 b1 L0 L) (Q:Ex→Tm→AW→Prop) (t:Tm) (w:AW) (hw:InI C w0 B L w) (lim:Int) (t0:tget t 0=.slice (some ⟨B,0,none⟩) n c) (t1:tget t 1=.int .i64 (a1:Nat)) (t2:tget t 2=.int .i64 (b1:Nat)) (t3:tget t 3=.int .i64 lim) (t4:True) (t12:tget t 10=.int .i64 ((b1 - a1:Nat):Int)) (wb wq:Bool) (t10:tget t 8=.bool wb) (t11:tget t 9=.bool wq) (pv:Nat) (hpa:a1≤pv) (hpb:pv < b1) (t13:tget t 11=.int .i64 (pv:Nat)) (hN:∀ t w L a2 b2,Pdq (fun x y=>cI x y < 0) a b a2 b2 L0 L→b2 - a2 < b1 - a1→InI C w0 B L w→tget t 0=.slice (some ⟨B,0,none⟩) n c→tget t 1=.int .i64 (a2:Nat)→tget t 2=.int .i64 (b2:Nat)→tget t 3=.int .i64 lim→True→(∃ wb,tget t 8=.bool wb)→(∃ wp,tget t 9=.bool wp)→Q .normal t w) (hE:∀ t w L a2 b2,Pdq (fun x y=>cI x y < 0) a b a2 b2 L0 L→b2 - a2 < b1 - a1→InI C w0 B L w→tget t 0=.slice (some ⟨B,0,none⟩) n c→tget t 1=.int .i64 (a2:Nat)→tget t 2=.int .i64 (b2:Nat)→tget t 3=.int .i64 lim→True→(∃ wb,tget t 8=.bool wb)→(∃ wp,tget t 9=.bool wp)→Q (.exit 1) t w) :
  wp (exM Tryz.prog (run Tryz.prog ov (g + 5)) mc133_r3 t w) Q:=by
 have key:∀ t',tget t' 0=.slice (some ⟨B,0,none⟩) n c→tget t' 1=.int .i64 (a1:Nat)→tget t' 2=.int .i64 (b1:Nat)→tget t' 3=.int .i64 lim→True→tget t' 10=.int .i64 ((b1 - a1:Nat):Int)→tget t' 11=.int .i64 (pv:Nat)→wp (exM Tryz.prog (run Tryz.prog ov (g + 5)) mc133_r4 t' w) Q:=fun t' s0 s1 s2 s3 s4 s12 s13=>pdq4I g h o n c hn a b hbn B w0 hl hl0 hBn L0 hL0 a1 b1 hd hrec L hP Q t' w hw lim s0 s1 s2 s3 s4 s12 pv hpa hpb s13 hN
 have hlen:L.length=n:=by rw [hP.mv.len,hL0]
 have hlm:=hw.lim
 have hnx:=hw.next
 have hb0:=hP.b1
 obtain ⟨za,hza⟩:∃ k:Int,k=(a1:Int):=⟨_,rfl⟩
 obtain ⟨zb,hzb⟩:∃ k:Int,k=(b1:Int):=⟨_,rfl⟩
 obtain ⟨zl,hzl⟩:∃ k:Int,k=((b1 - a1:Nat):Int):=⟨_,rfl⟩
 rw [← hza] at t1
 rw [← hzb] at t2
 rw [← hzl] at t12
 obtain ⟨zp,hzp⟩:∃ k:Int,k=(pv:Int):=⟨_,rfl⟩
 rw [← hzp] at t13
 by_cases h0:0 < a1
 ·have h0':0 < za:=by omega
  obtain ⟨zx,hzx⟩:∃ k:Int,k=((a1 - 1:Nat):Int):=⟨_,rfl⟩
  have e1:IntKind.wrap .i64 (za - 1)=zx:=by rw [wrap64_in (by omega) (by omega)]; omega
  obtain ⟨x,hx⟩:=at_get (L:=L) (i:=a1 - 1) (by omega)
  obtain ⟨p,hp⟩:=at_get (L:=L) (i:=pv) (by omega)
  have ixx:=h.ix (k:=a1 - 1) (n:=n) (by omega) hzx B c
  have ixp:=h.ix (k:=pv) (n:=n) (by omega) hzp B c
  have ldx:=h.ld hw hx
  have ldp:=h.ld hw hp
  have cm:=h.cm (g + 4) w x p
  by_cases hc:cI x p < 0
  ·simp [mc133_r3,t0,t1,t2,t3,t4,t12,t13,h0',e1,ixx,ixp,ldx,ldp,cm,hc, -ld3, -st3]
   exact key _ (by simp [t0]) (by simp [t1,hza]) (by simp [t2,hzb]) (by simp [t3]) (by simp [t4]) (by simp [t12,hzl]) (by simp [t13,hzp])
  ·obtain ⟨_,w1,c1,L1,k,rfl,⟨i1,m1⟩,k1,k2,g1,g2⟩:=call160 (g + 3) o.oPEQ h n c hn a1 b1 pv (by omega) (by omega) hpa hpb B L p hp hlen w (by omega) hw.row
   have hP1:=hP.move m1
   have hlx:L1[a1 - 1]?=some x:=by rw [m1.out _ (.inl (by omega))]; exact hx
   have low1:=hP1.low x h0 hlx
   have hS:Srt (fun x y=>cI x y < 0) L1 a1 k:=fun i j u v h1 h2 h3 hu hv=>h.wk.trans (h.wk.trans (g1 i u h1 (by omega) hu) hc) (low1 j v (by omega) (by omega) hv)
   have hP2:=hP1.right (m:=k) (by omega) k2 hS (fun i j u v h1 h2 h3 h4 hu hv=>fun hh=>h.wk.asym (g2 j v h3 h4 hv) (h.wk.lt_le hh (g1 i u h1 h2 hu))) k1
   rw [← hza,← hzb,← hzp] at c1
   obtain ⟨zk,hzk⟩:∃ z:Int,z=(k:Int):=⟨_,rfl⟩
   rw [← hzk] at c1
   simp [mc133_r3,t0,t1,t2,t3,t4,t12,t13,h0',e1,ixx,ixp,ldx,ldp,cm,hc,c1, -ld3, -st3]
   exact hE _ w1 L1 k b1 hP2 (by omega) (hw.trans i1) (by simp [t0]) (by simp [hzk]) (by simp [t2,hzb]) (by simp [t3]) (by simp [t4]) ⟨wb,by simp [t10]⟩ ⟨wq,by simp [t11]⟩
 ·have h0':¬ 0 < za:=by omega
  simp [mc133_r3,t0,t1,t2,t3,t4,t12,t13,h0']
  exact key _ (by simp [t0]) (by simp [t1,hza]) (by simp [t2,hzb]) (by simp [t3]) (by simp [t4]) (by simp [t12,hzl]) (by simp [t13,hzp])
end
section
variable {α:Type} {C:α→List Value} {V:α→Value} {sz:Nat} {cI:α→α→Int} {fv:Value} {fc:FuncId} {ov:Ov}
set_option maxHeartbeats 2000000 in
theorem pdq2I (g:Nat) (h:SI ov C V sz cI fv fc) (o:OsI ov) (n c:Nat) (hn:n≤200) (a b:Nat) (hbn:b≤n) (B:Nat) (w0:AW) (hl:w0.lim≤B) (hl0:w0.lim≤w0.next) (hBn:B < w0.next) (L0:List α) (hL0:L0.length=n) (a1 b1:Nat) (hd:a1 + 12 < b1) (hrec:RecI ov C cI fv g n c B (b1 - a1)) (L:List α) (hP:Pdq (fun x y=>cI x y < 0) a b a1 b1 L0 L) (Q:Ex→Tm→AW→Prop) (t:Tm) (w:AW) (hw:InI C w0 B L w) (lim:Int) (t0:tget t 0=.slice (some ⟨B,0,none⟩) n c) (t1:tget t 1=.int .i64 (a1:Nat)) (t2:tget t 2=.int .i64 (b1:Nat)) (t3:tget t 3=.int .i64 lim) (t4:True) (t12:tget t 10=.int .i64 ((b1 - a1:Nat):Int)) (wb wq:Bool) (t10:tget t 8=.bool wb) (t11:tget t 9=.bool wq) (pv:Nat) (hpa:a1≤pv) (hpb:pv < b1) (t13:tget t 11=.int .i64 (pv:Nat)) (hint:Int) (t14:tget t 12=.int .i64 hint) (hN:∀ t w L a2 b2,Pdq (fun x y=>cI x y < 0) a b a2 b2 L0 L→b2 - a2 < b1 - a1→InI C w0 B L w→tget t 0=.slice (some ⟨B,0,none⟩) n c→tget t 1=.int .i64 (a2:Nat)→tget t 2=.int .i64 (b2:Nat)→tget t 3=.int .i64 lim→True→(∃ wb,tget t 8=.bool wb)→(∃ wp,tget t 9=.bool wp)→Q .normal t w) (hE:∀ t w L a2 b2,Pdq (fun x y=>cI x y < 0) a b a2 b2 L0 L→b2 - a2 < b1 - a1→InI C w0 B L w→tget t 0=.slice (some ⟨B,0,none⟩) n c→tget t 1=.int .i64 (a2:Nat)→tget t 2=.int .i64 (b2:Nat)→tget t 3=.int .i64 lim→True→(∃ wb,tget t 8=.bool wb)→(∃ wp,tget t 9=.bool wp)→Q (.exit 1) t w) (hR:∀ t w L,InI C w0 B L w→Mv a b L0 L→Srt (fun x y=>cI x y < 0) L a b→Q .ret t w) :
  wp (exM Tryz.prog (run Tryz.prog ov (g + 5)) mc133_r2 t w) Q:=by
 have key:∀ t' w' L',Pdq (fun x y=>cI x y < 0) a b a1 b1 L0 L'→InI C w0 B L' w'→tget t' 0=.slice (some ⟨B,0,none⟩) n c→tget t' 1=.int .i64 (a1:Nat)→tget t' 2=.int .i64 (b1:Nat)→tget t' 3=.int .i64 lim→True→tget t' 10=.int .i64 ((b1 - a1:Nat):Int)→tget t' 8=.bool wb→tget t' 9=.bool wq→tget t' 11=.int .i64 (pv:Nat)→wp (exM Tryz.prog (run Tryz.prog ov (g + 5)) mc133_r3 t' w') Q:=fun t' w' L' hP' hw' s0 s1 s2 s3 s4 s12 s10 s11 s13=>pdq3I g h o n c hn a b hbn B w0 hl hl0 hBn L0 hL0 a1 b1 hd hrec L' hP' Q t' w' hw' lim s0 s1 s2 s3 s4 s12 wb wq s10 s11 pv hpa hpb s13 hN hE
 have hlen:L.length=n:=by rw [hP.mv.len,hL0]
 have hlm:=hw.lim
 have hnx:=hw.next
 have hb0:=hP.b1
 obtain ⟨za,hza⟩:∃ k:Int,k=(a1:Int):=⟨_,rfl⟩
 obtain ⟨zb,hzb⟩:∃ k:Int,k=(b1:Int):=⟨_,rfl⟩
 obtain ⟨zl,hzl⟩:∃ k:Int,k=((b1 - a1:Nat):Int):=⟨_,rfl⟩
 rw [← hza] at t1
 rw [← hzb] at t2
 rw [← hzl] at t12
 by_cases hcond:wb=true∧wq=true∧hint=1
 ·obtain ⟨rfl,rfl,rfl⟩:=hcond
  obtain ⟨_,w1,c1,L1,bb,rfl,⟨i1,m1⟩,hs⟩:=call158 (g + 3) o.oPIN h n c hn a1 b1 (by omega) (by omega) B L hlen hP.low w (by omega) hw.row
  rw [← hza,← hzb] at c1
  cases bb with
  | true =>
   simp [mc133_r2,t0,t1,t2,t3,t4,t10,t11,t14,c1]
   exact hR _ w1 L1 (hw.trans i1) (hP.move m1).mv ((hP.move m1).done (hs rfl))
  | false =>
   simp [mc133_r2,t0,t1,t2,t3,t4,t10,t11,t14,c1]
   exact key _ w1 L1 (hP.move m1) (hw.trans i1) (by simp [t0]) (by simp [t1,hza]) (by simp [t2,hzb]) (by simp [t3]) (by simp [t4]) (by simp [t12,hzl]) (by simp [t10]) (by simp [t11]) (by simp [t13])
 ·have fin:wp (exM Tryz.prog (run Tryz.prog ov (g + 5)) mc133_r2 t w) Q:=by
   by_cases h1:hint=1
   ·subst h1
    cases wb <;> cases wq <;> first
     | exact absurd ⟨rfl,rfl,rfl⟩ hcond
     | (simp [mc133_r2,t10,t11,t14]; exact key _ w L hP hw (by simp [t0]) (by simp [t1,hza]) (by simp [t2,hzb]) (by simp [t3]) (by simp [t4]) (by simp [t12,hzl]) (by simp [t10]) (by simp [t11]) (by simp [t13]))
   ·cases wb <;> cases wq <;> (simp [mc133_r2,t10,t11,t14,h1]; exact key _ w L hP hw (by simp [t0]) (by simp [t1,hza]) (by simp [t2,hzb]) (by simp [t3]) (by simp [t4]) (by simp [t12,hzl]) (by simp [t10]) (by simp [t11]) (by simp [t13]))
  exact fin
end
section
variable {α:Type} {C:α→List Value} {V:α→Value} {sz:Nat} {cI:α→α→Int} {fv:Value} {fc:FuncId} {ov:Ov}
set_option maxHeartbeats 2000000 in
theorem pdq1I (g:Nat) (h:SI ov C V sz cI fv fc) (o:OsI ov) (n c:Nat) (hn:n≤200) (a b:Nat) (hbn:b≤n) (B:Nat) (w0:AW) (hl:w0.lim≤B) (hl0:w0.lim≤w0.next) (hBn:B < w0.next) (L0:List α) (hL0:L0.length=n) (a1 b1:Nat) (hd:a1 + 12 < b1) (hrec:RecI ov C cI fv g n c B (b1 - a1)) (L:List α) (hP:Pdq (fun x y=>cI x y < 0) a b a1 b1 L0 L) (Q:Ex→Tm→AW→Prop) (t:Tm) (w:AW) (hw:InI C w0 B L w) (lim:Int) (t0:tget t 0=.slice (some ⟨B,0,none⟩) n c) (t1:tget t 1=.int .i64 (a1:Nat)) (t2:tget t 2=.int .i64 (b1:Nat)) (t3:tget t 3=.int .i64 lim) (t4:True) (t12:tget t 10=.int .i64 ((b1 - a1:Nat):Int)) (wb wq:Bool) (t10:tget t 8=.bool wb) (t11:tget t 9=.bool wq) (hN:∀ t w L a2 b2,Pdq (fun x y=>cI x y < 0) a b a2 b2 L0 L→b2 - a2 < b1 - a1→InI C w0 B L w→tget t 0=.slice (some ⟨B,0,none⟩) n c→tget t 1=.int .i64 (a2:Nat)→tget t 2=.int .i64 (b2:Nat)→tget t 3=.int .i64 lim→True→(∃ wb,tget t 8=.bool wb)→(∃ wp,tget t 9=.bool wp)→Q .normal t w) (hE:∀ t w L a2 b2,Pdq (fun x y=>cI x y < 0) a b a2 b2 L0 L→b2 - a2 < b1 - a1→InI C w0 B L w→tget t 0=.slice (some ⟨B,0,none⟩) n c→tget t 1=.int .i64 (a2:Nat)→tget t 2=.int .i64 (b2:Nat)→tget t 3=.int .i64 lim→True→(∃ wb,tget t 8=.bool wb)→(∃ wp,tget t 9=.bool wp)→Q (.exit 1) t w) (hR:∀ t w L,InI C w0 B L w→Mv a b L0 L→Srt (fun x y=>cI x y < 0) L a b→Q .ret t w) :
  wp (exM Tryz.prog (run Tryz.prog ov (g + 5)) mc133_r1 t w) Q:=by
 have key:∀ t' w' L' (pv:Nat) (hint:Int),a1≤pv→pv < b1→Pdq (fun x y=>cI x y < 0) a b a1 b1 L0 L'→InI C w0 B L' w'→tget t' 0=.slice (some ⟨B,0,none⟩) n c→tget t' 1=.int .i64 (a1:Nat)→tget t' 2=.int .i64 (b1:Nat)→tget t' 3=.int .i64 lim→True→tget t' 10=.int .i64 ((b1 - a1:Nat):Int)→tget t' 8=.bool wb→tget t' 9=.bool wq→tget t' 11=.int .i64 (pv:Nat)→tget t' 12=.int .i64 hint→wp (exM Tryz.prog (run Tryz.prog ov (g + 5)) mc133_r2 t' w') Q:=fun t' w' L' pv hint hpa hpb hP' hw' s0 s1 s2 s3 s4 s12 s10 s11 s13 s14=>pdq2I g h o n c hn a b hbn B w0 hl hl0 hBn L0 hL0 a1 b1 hd hrec L' hP' Q t' w' hw' lim s0 s1 s2 s3 s4 s12 wb wq s10 s11 pv hpa hpb s13 hint s14 hN hE hR
 have hlen:L.length=n:=by rw [hP.mv.len,hL0]
 have hlm:=hw.lim
 have hnx:=hw.next
 have hb0:=hP.b1
 obtain ⟨za,hza⟩:∃ k:Int,k=(a1:Int):=⟨_,rfl⟩
 obtain ⟨zb,hzb⟩:∃ k:Int,k=(b1:Int):=⟨_,rfl⟩
 obtain ⟨zl,hzl⟩:∃ k:Int,k=((b1 - a1:Nat):Int):=⟨_,rfl⟩
 rw [← hza] at t1
 rw [← hzb] at t2
 rw [← hzl] at t12
 obtain ⟨_,w1,c1,⟨k,hint,rfl,k1,k2⟩,i1⟩:=call156 g o.oCHO o.oMDA o.oMED o.oORD h n c hn a1 b1 hd (by omega) B L hlen w (by omega) (by omega) hw.row
 have hw1:=hw.trans i1
 have hlm1:=hw1.lim
 rw [← hza,← hzb] at c1
 by_cases h2:hint=2
 ·subst h2
  obtain ⟨_,w2,c2,rfl,L2,i2,m2⟩:=call157 (g + 3) o.oREV h n c hn a1 b1 (by omega) (by omega) B L hlen w1 (by omega) hw1.row
  rw [← hza,← hzb] at c2
  obtain ⟨zk,hzk⟩:∃ z:Int,z=(k:Int):=⟨_,rfl⟩
  rw [← hzk] at c1
  have e1:IntKind.wrap .i64 (zb - 1)=zb - 1:=wrap64_in (by omega) (by omega)
  have e2:IntKind.wrap .i64 (zk - za)=zk - za:=wrap64_in (by omega) (by omega)
  have e3:IntKind.wrap .i64 (zb - 1 - (zk - za))=((b1 - 1 - (k - a1):Nat):Int):=by rw [wrap64_in (by omega) (by omega)]; omega
  simp [mc133_r1,t0,t1,t2,t3,t4,t10,t11,t12,c1,c2,e1,e2,e3]
  exact key _ w2 L2 (b1 - 1 - (k - a1)) 1 (by omega) (by omega) (hP.move m2) (hw1.trans i2) (by simp [t0]) (by simp [t1,hza]) (by simp [t2,hzb]) (by simp [t3]) (by simp [t4]) (by simp [t12,hzl]) (by simp [t10]) (by simp [t11]) (by simp) (by simp)
 ·simp [mc133_r1,t0,t1,t2,t3,t4,t10,t11,t12,c1,h2]
  exact key _ w1 L k hint k1 k2 hP hw1 (by simp [t0]) (by simp [t1,hza]) (by simp [t2,hzb]) (by simp [t3]) (by simp [t4]) (by simp [t12,hzl]) (by simp [t10]) (by simp [t11]) (by simp) (by simp)
end
end Go.Proofs.YthihnhgdbfcabaaGreatDoor.walk
