/- Part of a proof: see the text with the theorem. -/
import Derived.Test.YtnjknghdpobcmaaGreatDoorZWa
import Derived.Test.YtnjknghdpobcmaaGreatDoorZB9
set_option linter.all false
namespace Go.Proofs.YtnjknghdpobcmaaGreatDoor.walk
open Go Go.Sh
set_option maxRecDepth 100000
section
variable {α:Type} {C:α→List Value} {V:α→Value} {sz:Nat} {cI:α→α→Int} {fv:Value} {fc:FuncId} {ov:Ov}
set_option maxHeartbeats 2000000 in
theorem pin1W (m:Nat) (h:SW ov C V sz cI fv fc) (n c:Nat) (hn:n≤200) (a b:Nat) (hab:a≤b) (hbn:b≤n) (B:Nat) (w0:AW) (hl:w0.lim≤B) (L0:List α) (hL0:L0.length=n) (i:Nat) (hi:a < i) (hib:i≤b) (hS:Srt (fun x y=>cI x y < 0) L0 a i) (v10:Value)
  (Q:Ex→Tm→AW→Prop) (t:Tm) (w:AW) (hw:InW C w0 B L0 w)
  (t0:tget t 0=.slice (some ⟨B,0,none⟩) n c) (t1:tget t 1=.int .i64 (a:Nat)) (t2:tget t 2=.int .i64 (b:Nat)) (t3:tget t 3=fv) (t9:tget t 9=.int .i64 (i:Nat)) (t10:tget t 10=v10)
  (hQ:∀ t k,i≤k→k≤b→Srt (fun x y=>cI x y < 0) L0 a k→(∀ x y,k < b→L0[k - 1]?=some x→L0[k]?=some y→cI y x < 0)→tget t 0=.slice (some ⟨B,0,none⟩) n c→tget t 1=.int .i64 (a:Nat)→tget t 2=.int .i64 (b:Nat)→tget t 3=fv→tget t 9=.int .i64 (k:Nat)→tget t 10=v10→Q (.exit 2) t w) :
  wp (exM Tryz.prog (run Tryz.prog ov (m + 1)) (.loop mc190_l1) t w) Q:=by
 refine wp_rounds (fun r t w'=>w'=w∧i + r≤b∧Srt (fun x y=>cI x y < 0) L0 a (i + r)∧tget t 0=.slice (some ⟨B,0,none⟩) n c∧tget t 1=.int .i64 (a:Nat)∧tget t 2=.int .i64 (b:Nat)∧tget t 3=fv∧tget t 9=.int .i64 ((i + r:Nat):Int)∧tget t 10=v10) 300 (by decide) ⟨rfl,by omega,hS,t0,t1,t2,t3,t9,t10⟩ ?_
 clear t0 t1 t2 t3 t9 t10
 rintro r t w' ⟨rfl,hr,hS,t0,t1,t2,t3,t9,t10⟩
 obtain ⟨zb,hzb⟩:∃ k:Int,k=(b:Int):=⟨_,rfl⟩
 obtain ⟨zi,hzi⟩:∃ k:Int,k=((i + r:Nat):Int):=⟨_,rfl⟩
 rw [← hzb] at t2
 rw [← hzi] at t9
 by_cases hlt:i + r < b
 ·have hlt':zi < zb:=by omega
  obtain ⟨zk,hzk⟩:∃ k:Int,k=((i + r - 1:Nat):Int):=⟨_,rfl⟩
  obtain ⟨x,hx⟩:=at_get (L:=L0) (i:=i + r - 1) (by omega)
  obtain ⟨y,hy⟩:=at_get (L:=L0) (i:=i + r) (by omega)
  have ixi:=h.ix (k:=i + r) (n:=n) (by omega) hzi B c
  have ixk:=h.ix (k:=i + r - 1) (n:=n) (by omega) hzk B c
  have ldi:=h.ld hw hy
  have ldk:=h.ld hw hx
  have cm:=h.cm m w' y x
  have w3:IntKind.wrap .i64 (zi - 1)=zk:=by rw [w6i (by omega) (by omega)]; omega
  have w1:IntKind.wrap .i64 (zi + 1)=((i + (r + 1):Nat):Int):=by rw [w6i (by omega) (by omega)]; omega
  by_cases hc:cI y x < 0
  ·simp [mc190_l1,t0,t1,t2,t3,t9,hlt',ixi,ixk,ldi,ldk,h.cv,cm,hc,w3, -ld9, -st9]
   exact hQ _ (i + r) (by omega) (by omega) hS (fun x' y' _ h1 h2=>by rw [hx] at h1; rw [hy] at h2; cases h1; cases h2; exact hc) (by simp [t0]) (by simp [t1]) (by simp [t2,hzb]) (by simp [t3]) (by simp [t9,hzi]) (by simp [t10])
  ·simp [mc190_l1,t0,t1,t2,t3,t9,t10,hlt',ixi,ixk,ldi,ldk,h.cv,cm,hc,w3,w1, -ld9, -st9]
   exact ⟨by omega,by omega,hS.step h.wk (fun x' y' _ h1 h2=>by rw [hx] at h1; rw [hy] at h2; cases h1; cases h2; exact hc) (by omega),by omega⟩
 ·have hlt':¬ zi < zb:=by omega
  simp [mc190_l1,t0,t1,t2,t3,t9,hlt']
  exact hQ _ (i + r) (by omega) (by omega) hS (fun _ _ h0=>absurd h0 hlt) (by simp [t0]) (by simp [t1]) (by simp [t2,hzb]) (by simp [t3]) (by simp [t9,hzi]) (by simp [t10])
set_option maxHeartbeats 2000000 in
theorem pin2W (m:Nat) (h:SW ov C V sz cI fv fc) (n c:Nat) (hn:n≤200) (a b:Nat) (hab:a≤b) (hbn:b≤n) (B:Nat) (w0:AW) (hl:w0.lim≤B) (L0:List α) (hL0:L0.length=n) (low:∀ x,0 < a→L0[a - 1]?=some x→All (fun z=>¬ cI z x < 0) L0 a b) (i:Nat) (hi:a < i) (hib:i≤b) (hX:InsX (fun x y=>cI x y < 0) L0 a i (i - 1)) (v10:Value)
  (Q:Ex→Tm→AW→Prop) (t:Tm) (w:AW) (hw:InW C w0 B L0 w)
  (t0:tget t 0=.slice (some ⟨B,0,none⟩) n c) (t1:tget t 1=.int .i64 (a:Nat)) (t2:tget t 2=.int .i64 (b:Nat)) (t3:tget t 3=fv) (t9:tget t 9=.int .i64 (i:Nat)) (t10:tget t 10=v10) (t11:tget t 11=.int .i64 ((i - 1:Nat):Int))
  (hQ:∀ t w L,InW C w0 B L w→Mv a i L0 L→Srt (fun x y=>cI x y < 0) L a i→tget t 0=.slice (some ⟨B,0,none⟩) n c→tget t 1=.int .i64 (a:Nat)→tget t 2=.int .i64 (b:Nat)→tget t 3=fv→tget t 9=.int .i64 (i:Nat)→tget t 10=v10→Q (.exit 4) t w) :
  wp (exM Tryz.prog (run Tryz.prog ov (m + 1)) (.loop mc190_l2) t w) Q:=by
 refine wp_rounds (fun r t w=>∃ L j,InW C w0 B L w∧Mv a i L0 L∧j + r + 1=i∧a≤j∧InsX (fun x y=>cI x y < 0) L a i j∧tget t 0=.slice (some ⟨B,0,none⟩) n c∧tget t 1=.int .i64 (a:Nat)∧tget t 2=.int .i64 (b:Nat)∧tget t 3=fv∧tget t 9=.int .i64 ((i:Nat))∧tget t 10=v10∧tget t 11=.int .i64 (j:Nat)) 300 (by decide) ⟨L0,i - 1,hw,Mv.refl _ _ _,by omega,by omega,hX,t0,t1,t2,t3,t9,t10,t11⟩ ?_
 clear t0 t1 t2 t3 t9 t10 t11 hw
 rintro r t w ⟨L,j,hw,hp,hj,haj,hX,t0,t1,t2,t3,t9,t10,t11⟩
 have hlen:L.length=n:=by rw [hp.len,hL0]
 obtain ⟨za,hza⟩:∃ k:Int,k=(a:Int):=⟨_,rfl⟩
 obtain ⟨zb,hzb⟩:∃ k:Int,k=(b:Int):=⟨_,rfl⟩
 obtain ⟨zi,hzi⟩:∃ k:Int,k=(i:Int):=⟨_,rfl⟩
 obtain ⟨zj,hzj⟩:∃ k:Int,k=(j:Int):=⟨_,rfl⟩
 rw [← hza] at t1 hQ
 rw [← hzb] at t2 hQ
 rw [← hzi] at t9 hQ
 rw [← hzj] at t11
 by_cases h1:1≤j
 ·have h1':1≤zj:=by omega
  obtain ⟨zk,hzk⟩:∃ k:Int,k=((j - 1:Nat):Int):=⟨_,rfl⟩
  obtain ⟨x,hx⟩:=at_get (L:=L) (i:=j - 1) (by omega)
  obtain ⟨y,hy⟩:=at_get (L:=L) (i:=j) (by omega)
  have ixj:=h.ix (k:=j) (n:=n) (by omega) hzj B c
  have ixk:=h.ix (k:=j - 1) (n:=n) (by omega) hzk B c
  have ldj:=h.ld hw hy
  have ldk:=h.ld hw hx
  have cm:=h.cm m w y x
  have w3:IntKind.wrap .i64 (zj - 1)=zk:=by rw [w6i (by omega) (by omega)]; omega
  by_cases hc:cI y x < 0
  ·have hja:a < j:=by
    apply Classical.byContradiction
    intro hh
    have e:j=a:=by omega
    subst e
    rw [hp.out (j - 1) (.inl (by omega))] at hx
    exact ((low x (by omega) hx).mv (hp.widen (Nat.le_refl _) hib)) j y (by omega) (by omega) hy hc
   obtain ⟨w1,w2,s1,s2,hw2⟩:=InS.swap h.T hw hl hy hx
   simp [mc190_l2,t0,t1,t2,t3,t9,t10,t11,h1',ixj,ixk,ldj,ldk,h.cv,cm,hc,w3,s1,s2, -ld9, -st9]
   exact ⟨by omega,_,hw2,hp.trans (Mv.swap hy hx (by omega) (by omega) (by omega) (by omega)),j - 1,by omega,by omega,hX.step h.wk hja hy hx hc,hza,hzb,hzi,hzk⟩
  ·simp [mc190_l2,t0,t1,t2,t3,t9,t10,t11,h1',ixj,ixk,ldj,ldk,h.cv,cm,hc,w3, -ld9, -st9]
   exact hQ _ _ L hw hp (hX.stop h.wk (by omega) (fun x' y' _ k1 k2=>by rw [hx] at k1; rw [hy] at k2; cases k1; cases k2; exact hc)) (by simp [t0]) (by simp [t1]) (by simp [t2]) (by simp [t3]) (by simp [t9]) (by simp [t10])
 ·have h1':¬ 1≤zj:=by omega
  simp [mc190_l2,t0,t1,t2,t3,t9,t10,t11,h1']
  exact hQ _ _ L hw hp (hX.stop h.wk (by omega) (fun _ _ h0=>by omega)) (by simp [t0]) (by simp [t1]) (by simp [t2]) (by simp [t3]) (by simp [t9]) (by simp [t10])
set_option maxHeartbeats 2000000 in
theorem pin3W (m:Nat) (h:SW ov C V sz cI fv fc) (n c:Nat) (hn:n≤200) (a b:Nat) (hab:a≤b) (hbn:b≤n) (B:Nat) (w0:AW) (hl:w0.lim≤B) (L0:List α) (hL0:L0.length=n) (i:Nat) (hi:a < i) (hib:i < b) (v10:Value)
  (Q:Ex→Tm→AW→Prop) (t:Tm) (w:AW) (hw:InW C w0 B L0 w)
  (t0:tget t 0=.slice (some ⟨B,0,none⟩) n c) (t1:tget t 1=.int .i64 (a:Nat)) (t2:tget t 2=.int .i64 (b:Nat)) (t3:tget t 3=fv) (t9:tget t 9=.int .i64 (i:Nat)) (t10:tget t 10=v10) (t12:tget t 12=.int .i64 ((i + 1:Nat):Int))
  (hQ:∀ t w L,InW C w0 B L w→Mv i b L0 L→tget t 0=.slice (some ⟨B,0,none⟩) n c→tget t 1=.int .i64 (a:Nat)→tget t 2=.int .i64 (b:Nat)→tget t 3=fv→tget t 9=.int .i64 (i:Nat)→tget t 10=v10→Q (.exit 6) t w) :
  wp (exM Tryz.prog (run Tryz.prog ov (m + 1)) (.loop mc190_l3) t w) Q:=by
 refine wp_rounds (fun r t w=>∃ L,InW C w0 B L w∧Mv i b L0 L∧i + r + 1≤b∧tget t 0=.slice (some ⟨B,0,none⟩) n c∧tget t 1=.int .i64 (a:Nat)∧tget t 2=.int .i64 (b:Nat)∧tget t 3=fv∧tget t 9=.int .i64 ((i:Nat))∧tget t 10=v10∧tget t 12=.int .i64 ((i + r + 1:Nat):Int)) 300 (by decide) ⟨L0,hw,Mv.refl _ _ _,by omega,t0,t1,t2,t3,t9,t10,t12⟩ ?_
 clear t0 t1 t2 t3 t9 t10 t12 hw
 rintro r t w ⟨L,hw,hp,hr,t0,t1,t2,t3,t9,t10,t12⟩
 have hlen:L.length=n:=by rw [hp.len,hL0]
 obtain ⟨za,hza⟩:∃ k:Int,k=(a:Int):=⟨_,rfl⟩
 obtain ⟨zb,hzb⟩:∃ k:Int,k=(b:Int):=⟨_,rfl⟩
 obtain ⟨zi,hzi⟩:∃ k:Int,k=(i:Int):=⟨_,rfl⟩
 obtain ⟨zj,hzj⟩:∃ k:Int,k=((i + r + 1:Nat):Int):=⟨_,rfl⟩
 rw [← hza] at t1 hQ
 rw [← hzb] at t2 hQ
 rw [← hzi] at t9 hQ
 rw [← hzj] at t12
 by_cases hlt:i + r + 1 < b
 ·have hlt':zj < zb:=by omega
  obtain ⟨zk,hzk⟩:∃ k:Int,k=((i + r:Nat):Int):=⟨_,rfl⟩
  obtain ⟨x,hx⟩:=at_get (L:=L) (i:=i + r) (by omega)
  obtain ⟨y,hy⟩:=at_get (L:=L) (i:=i + r + 1) (by omega)
  have ixj:=h.ix (k:=i + r + 1) (n:=n) (by omega) hzj B c
  have ixk:=h.ix (k:=i + r) (n:=n) (by omega) hzk B c
  have ldj:=h.ld hw hy
  have ldk:=h.ld hw hx
  have cm:=h.cm m w y x
  have w3:IntKind.wrap .i64 (zj - 1)=zk:=by rw [w6i (by omega) (by omega)]; omega
  have w4:IntKind.wrap .i64 (zj + 1)=((i + (r + 1) + 1:Nat):Int):=by rw [w6i (by omega) (by omega)]; omega
  by_cases hc:cI y x < 0
  ·obtain ⟨w1,w2,s1,s2,hw2⟩:=InS.swap h.T hw hl hy hx
   simp [mc190_l3,t0,t1,t2,t3,t9,t10,t12,hlt',ixj,ixk,ldj,ldk,h.cv,cm,hc,w3,w4,s1,s2, -ld9, -st9]
   exact ⟨by omega,_,hw2,hp.trans (Mv.swap hy hx (by omega) (by omega) (by omega) (by omega)),by omega,by omega⟩
  ·simp [mc190_l3,t0,t1,t2,t3,t9,t10,t12,hlt',ixj,ixk,ldj,ldk,h.cv,cm,hc,w3, -ld9, -st9]
   exact hQ _ _ L hw hp (by simp [t0]) (by simp [t1]) (by simp [t2]) (by simp [t3]) (by simp [t9]) (by simp [t10])
 ·have hlt':¬ zj < zb:=by omega
  simp [mc190_l3,t0,t1,t2,t3,t9,t10,t12,hlt']
  exact hQ _ _ L hw hp (by simp [t0]) (by simp [t1]) (by simp [t2]) (by simp [t3]) (by simp [t9]) (by simp [t10])
def PinWQ (cI:α→α→Int) (L:List α) (a b:Nat) (ex:Ex) (t:Tm):Prop:=ex=.exit 0∨(ex=.ret∧tget t 8=.bool false)∨(ex=.ret∧tget t 8=.bool true∧Srt (fun x y=>cI x y < 0) L a b)
set_option maxHeartbeats 4000000 in
theorem pin0W (m:Nat) (h:SW ov C V sz cI fv fc) (n c:Nat) (hn:n≤200) (a b:Nat) (hab:a≤b) (hbn:b≤n) (B:Nat) (w0:AW) (hl:w0.lim≤B) (L0:List α) (hL0:L0.length=n) (low:∀ x,0 < a→L0[a - 1]?=some x→All (fun z=>¬ cI z x < 0) L0 a b) (hab':a < b)
  (Q:Ex→Tm→AW→Prop) (t:Tm) (w:AW) (hw:InW C w0 B L0 w)
  (t0:tget t 0=.slice (some ⟨B,0,none⟩) n c) (t1:tget t 1=.int .i64 (a:Nat)) (t2:tget t 2=.int .i64 (b:Nat)) (t3:tget t 3=fv) (t9:tget t 9=.int .i64 ((a + 1:Nat):Int)) (t10:tget t 10=.int .i64 0)
  (hQ:∀ ex t w L,InW C w0 B L w→Mv a b L0 L→PinWQ cI L a b ex t→Q ex t w) :
  wp (exM Tryz.prog (run Tryz.prog ov (m + 1)) (.loop mc190_l0) t w) Q:=by
 refine wp_rounds (fun r t w=>∃ L i,InW C w0 B L w∧Mv a b L0 L∧a < i∧i≤b∧Srt (fun x y=>cI x y < 0) L a i∧r≤5∧tget t 0=.slice (some ⟨B,0,none⟩) n c∧tget t 1=.int .i64 (a:Nat)∧tget t 2=.int .i64 (b:Nat)∧tget t 3=fv∧tget t 9=.int .i64 (i:Nat)∧tget t 10=.int .i64 (r:Nat)) 10 (by decide) ⟨L0,a + 1,hw,Mv.refl _ _ _,by omega,by omega,Srt.one _ (by omega),by omega,t0,t1,t2,t3,t9,t10⟩ ?_
 clear t0 t1 t2 t3 t9 t10 hw
 rintro r t w ⟨L,i,hw,hp,hai,hib,hS,hr,t0,t1,t2,t3,t9,t10⟩
 have hlen:L.length=n:=by rw [hp.len,hL0]
 have hlow:∀ L',Mv a b L L'→∀ x,0 < a→L'[a - 1]?=some x→All (fun z=>¬ cI z x < 0) L' a b:=fun L' k x h0 hx=>by
  rw [k.out _ (.inl (by omega)),hp.out _ (.inl (by omega))] at hx
  exact ((low x h0 hx).mv hp).mv k
 obtain ⟨zr,hzr⟩:∃ k:Int,k=(r:Int):=⟨_,rfl⟩
 rw [← hzr] at t10
 by_cases h5:r < 5
 ·have h5':zr < 5:=by omega
  have wr:IntKind.wrap .i64 (zr + 1)=((r + 1:Nat):Int):=by rw [w6i (by omega) (by omega)]; omega
  simp [mc190_l0,t10,h5']
  refine wp_seqX (wp_blockX (wp_seqX (wp_blockX (pin1W m h n c hn a b hab hbn B w0 hl L hlen i hai hib hS (.int .i64 zr) _ _ _ hw ?_ ?_ ?_ ?_ ?_ ?_ ?_))))
  case _=>simp [t0]
  case _=>simp [t1]
  case _=>simp [t2]
  case _=>simp [t3]
  case _=>simp [t9]
  case _=>simp [t10]
  clear t0 t1 t2 t3 t9 t10
  intro t k hik hkb hSk hst t0 t1 t2 t3 t9 t10
  obtain ⟨za,hza⟩:∃ k:Int,k=(a:Int):=⟨_,rfl⟩
  obtain ⟨zb,hzb⟩:∃ k:Int,k=(b:Int):=⟨_,rfl⟩
  obtain ⟨zk,hzk⟩:∃ z:Int,z=(k:Int):=⟨_,rfl⟩
  rw [← hza] at t1
  rw [← hzb] at t2
  rw [← hzk] at t9
  have wba:IntKind.wrap .i64 (zb - za)=zb - za:=w6i (by omega) (by omega)
  have wka:IntKind.wrap .i64 (zk - za)=zk - za:=w6i (by omega) (by omega)
  have wbk:IntKind.wrap .i64 (zb - zk)=zb - zk:=w6i (by omega) (by omega)
  have wk1:IntKind.wrap .i64 (zk + 1)=((k + 1:Nat):Int):=by rw [w6i (by omega) (by omega)]; omega
  obtain ⟨zj,hzj⟩:∃ z:Int,z=((k - 1:Nat):Int):=⟨_,rfl⟩
  have wk2:IntKind.wrap .i64 (zk - 1)=zj:=by rw [w6i (by omega) (by omega)]; omega
  by_cases hkb':k < b
  ·have ne:¬ zk=zb:=by omega
   by_cases h50:zb - za < 50
   ·simp [t1,t2,t9,ne,wba,h50]
    exact hQ _ _ _ L hw hp (.inr (.inl ⟨rfl,by simp⟩))
   ·obtain ⟨x,hx⟩:=at_get (L:=L) (i:=k - 1) (by omega)
    obtain ⟨y,hy⟩:=at_get (L:=L) (i:=k) (by omega)
    have hc:=hst x y hkb' hx hy
    have ixk:=h.ix (k:=k) (n:=n) (by omega) hzk B c
    have ixj:=h.ix (k:=k - 1) (n:=n) (by omega) hzj B c
    have ldk:=h.ld hw hy
    have ldj:=h.ld hw hx
    obtain ⟨w1,w2,s1,s2,hw2⟩:=InS.swap h.T hw hl hy hx
    have hm1:Mv a b L (swp L k (k - 1) y x):=Mv.swap hy hx (by omega) (by omega) (by omega) (by omega)
    have hX:InsX (fun x y=>cI x y < 0) (swp L k (k - 1) y x) a k (k - 1):=fun p q u v e1 e2 e3 e4 hu hv=>by
     rw [swp_keep hy hx (by omega) (by omega)] at hu hv
     exact hSk p q u v e1 e2 e3 hu hv
    obtain ⟨L1,hL1⟩:∃ L1,L1=swp L k (k - 1) y x:=⟨_,rfl⟩
    rw [← hL1] at hw2 hm1 hX
    have hlen1:L1.length=n:=by rw [hm1.len,hlen]
    -- behind the shift to the left
    have fin:∀ (t:Tm) (w:AW) (L2:List α),InW C w0 B L2 w→Mv a b L L2→Srt (fun x y=>cI x y < 0) L2 a k→tget t 0=.slice (some ⟨B,0,none⟩) n c→tget t 1=.int .i64 za→tget t 2=.int .i64 zb→tget t 3=fv→tget t 9=.int .i64 zk→tget t 10=.int .i64 zr →
      ∃ L i,InW C w0 B L w∧Mv a b L0 L∧a < i∧i≤b∧Srt (fun x y=>cI x y < 0) L a i∧r + 1≤5∧tget t 0=.slice (some ⟨B,0,none⟩) n c∧tget t 1=.int .i64 (a:Nat)∧tget t 2=.int .i64 (b:Nat)∧tget t 3=fv∧tget t 9=.int .i64 (i:Nat) :=
     fun t w L2 g1 g2 g3 q0 q1 q2 q3 q9 q10=>⟨L2,k,g1,hp.trans g2,by omega,hkb,g3,by omega,q0,by rw [q1,hza],by rw [q2,hzb],q3,by rw [q9,hzk]⟩
    by_cases h2:2≤zk - za
    ·by_cases h3:2≤zb - zk
     ·simp [t0,t1,t2,t3,t9,t10,ne,wba,h50,ixk,ixj,ldk,ldj,s1,s2,wk2,wka,wbk,h2, -ld9, -st9]
      refine wp_seqX (wp_blockX (pin2W m h n c hn a b hab hbn B w0 hl L1 hlen1 (hlow L1 hm1) k (by omega) hkb hX (.int .i64 zr) _ _ _ hw2 ?_ ?_ ?_ ?_ ?_ ?_ ?_ ?_))
      case _=>simp [t0]
      case _=>simp [t1,hza]
      case _=>simp [t2,hzb]
      case _=>simp [t3]
      case _=>simp [t9,hzk]
      case _=>simp [t10]
      case _=>simp [hzj]
      clear t0 t1 t2 t3 t9 t10
      intro t w3 L2 hw3 hm2 hS2 t0 t1 t2 t3 t9 t10
      have hlen2:L2.length=n:=by rw [hm2.len,hlen1]
      rw [← hza] at t1
      rw [← hzb] at t2
      rw [← hzk] at t9
      simp [t2,t9,wbk,h3,wk1]
      refine wp_blockX (pin3W m h n c hn a b hab hbn B w0 hl L2 hlen2 k (by omega) hkb' (.int .i64 zr) _ _ _ hw3 ?_ ?_ ?_ ?_ ?_ ?_ ?_ ?_)
      case _=>simp [t0]
      case _=>simp [t1,hza]
      case _=>simp [t2,hzb]
      case _=>simp [t3]
      case _=>simp [t9,hzk]
      case _=>simp [t10]
      case _=>simp
      clear t0 t1 t2 t3 t9 t10
      intro t w4 L3 hw4 hm3 t0 t1 t2 t3 t9 t10
      simp [t0,t1,t2,t3,t9,t10,wr]
      exact ⟨by omega,L3,hw4,((hp.trans hm1).trans (hm2.widen (Nat.le_refl _) hkb)).trans (hm3.widen (by omega) (Nat.le_refl _)),k,by omega,hkb,hS2.out hm3 (.inl (Nat.le_refl _)),by omega,by omega⟩
     ·simp [t0,t1,t2,t3,t9,t10,ne,wba,h50,ixk,ixj,ldk,ldj,s1,s2,wk2,wka,wbk,h2, -ld9, -st9]
      refine wp_seqX (wp_blockX (pin2W m h n c hn a b hab hbn B w0 hl L1 hlen1 (hlow L1 hm1) k (by omega) hkb hX (.int .i64 zr) _ _ _ hw2 ?_ ?_ ?_ ?_ ?_ ?_ ?_ ?_))
      case _=>simp [t0]
      case _=>simp [t1,hza]
      case _=>simp [t2,hzb]
      case _=>simp [t3]
      case _=>simp [t9,hzk]
      case _=>simp [t10]
      case _=>simp [hzj]
      clear t0 t1 t2 t3 t9 t10
      intro t w3 L2 hw3 hm2 hS2 t0 t1 t2 t3 t9 t10
      rw [← hza] at t1
      rw [← hzb] at t2
      rw [← hzk] at t9
      simp [t0,t1,t2,t3,t9,t10,wbk,h3,wr]
      exact ⟨by omega,L2,hw3,(hp.trans hm1).trans (hm2.widen (Nat.le_refl _) hkb),k,by omega,hkb,hS2,by omega,by omega⟩
    ·have hS1:Srt (fun x y=>cI x y < 0) L1 a k:=Srt.one _ (by omega)
     by_cases h3:2≤zb - zk
     ·simp [t0,t1,t2,t3,t9,t10,ne,wba,h50,ixk,ixj,ldk,ldj,s1,s2,wk2,wka,wbk,h2,h3,wk1, -ld9, -st9]
      refine wp_blockX (pin3W m h n c hn a b hab hbn B w0 hl L1 hlen1 k (by omega) hkb' (.int .i64 zr) _ _ _ hw2 ?_ ?_ ?_ ?_ ?_ ?_ ?_ ?_)
      case _=>simp [t0]
      case _=>simp [t1,hza]
      case _=>simp [t2,hzb]
      case _=>simp [t3]
      case _=>simp [t9,hzk]
      case _=>simp [t10]
      case _=>simp
      clear t0 t1 t2 t3 t9 t10
      intro t w4 L3 hw4 hm3 t0 t1 t2 t3 t9 t10
      simp [t0,t1,t2,t3,t9,t10,wr]
      exact ⟨by omega,L3,hw4,(hp.trans hm1).trans (hm3.widen (by omega) (Nat.le_refl _)),k,by omega,hkb,hS1.out hm3 (.inl (Nat.le_refl _)),by omega,by omega⟩
     ·simp [t0,t1,t2,t3,t9,t10,ne,wba,h50,ixk,ixj,ldk,ldj,s1,s2,wk2,wka,wbk,h2,h3,wr, -ld9, -st9]
      exact ⟨by omega,L1,hw2,hp.trans hm1,k,by omega,hkb,hS1,by omega,by omega⟩
  ·have e:zk=zb:=by omega
   have e':k=b:=by omega
   simp [t1,t2,t9,e]
   exact hQ _ _ _ L hw hp (.inr (.inr ⟨rfl,by simp,e' ▸ hSk⟩))
 ·have h5':¬ zr < 5:=by omega
  simp [mc190_l0,t10,h5']
  exact hQ _ _ _ L hw hp (.inl rfl)
theorem call190 (m:Nat) (ho:∀ args w,ov 190 args w=none) (h:SW ov C V sz cI fv fc) (n c:Nat) (hn:n≤200) (a b:Nat) (hab:a < b) (hbn:b≤n) (B:Nat) (L0:List α) (hL:L0.length=n) (low:∀ x,0 < a→L0[a - 1]?=some x→All (fun z=>¬ cI z x < 0) L0 a b) (w:AW) (hl:w.lim≤B) (hB:w.heap.get B=some (.cells (L0.flatMap C) 9 false)) :
  ∃ x w',(run Tryz.prog ov (m + 2)).call 190 [.slice (some ⟨B,0,none⟩) n c,.int .i64 (a:Int),.int .i64 (b:Int),fv] w .none=.ok (.ret x) w' .none∧∃ L' bb,x=.bool bb∧LeftW C w w' B a b L0 L'∧(bb=true→Srt (fun x y=>cI x y < 0) L' a b):=by
 refine call_wp text190 (by simp) (ho _ _) ?_
 obtain ⟨za,hza⟩:∃ k:Int,k=(a:Int):=⟨_,rfl⟩
 have e1:IntKind.wrap .i64 (za + 1)=((a + 1:Nat):Int):=by rw [w6i (by omega) (by omega)]; omega
 rw [← hza]
 simp [mc190,e1]
 refine wp_seqX (wp_blockX (pin0W m h n c hn a b (by omega) hbn B w hl L0 hL low hab _ _ _ (InS.refl hB) ?_ ?_ ?_ ?_ ?_ ?_ ?_))
 case _=>simp
 case _=>simp [hza]
 case _=>simp
 case _=>simp
 case _=>simp
 case _=>simp
 intro ex t w' L' hw' hm hq
 rcases hq with rfl | ⟨rfl,h8⟩ | ⟨rfl,h8,hs⟩
 ·simp [tupV]
  exact ⟨L',hw',hm⟩
 ·simp [h8,tupV]
  exact ⟨L',hw',hm⟩
 ·simp [h8,tupV]
  exact ⟨L',⟨hw',hm⟩,hs⟩
end
section
variable {α:Type} {C:α→List Value} {V:α→Value} {sz:Nat} {cI:α→α→Int} {fv:Value} {fc:FuncId} {ov:Ov}
structure TwW (C:α→List Value) (w0:AW) (B X:Nat) (L:List α) (w:AW):Prop where
 ins:InW C w0 B L w
 ne:X ≠ B
 new:w0.next≤X
 lt:X < w.next
 num:∃ s:Int,w.heap.get X=some (.cells [.int .i64 s] 3 false)
theorem call220 (m:Nat) (ho:∀ args w,ov 220 args w=none) (h:SW ov C V sz cI fv fc) (n c:Nat) (lo hi:Nat) (hhi:hi≤n) (a b:Nat) (ha:lo≤a∧a < hi) (hb:lo≤b∧b < hi) (B X:Nat) (L:List α) (hL:L.length=n) (w0 w:AW) (hl:w0.lim≤w0.next) (hw:TwW C w0 B X L w) :
  ∃ x w',(run Tryz.prog ov (m + 2)).call 220 [.slice (some ⟨B,0,none⟩) n c,.int .i64 (a:Int),.int .i64 (b:Int),.pointer (some ⟨X,0,none⟩),fv] w .none=.ok (.ret x) w' .none∧Two lo hi x∧TwW C w0 B X L w':=by
 refine call_wp text220 (by simp) (ho _ _) ?_
 obtain ⟨⟨hr,hol,hn,hlm⟩,h1,h2,h3,s,h4⟩:=hw
 obtain ⟨za,hza⟩:∃ k:Int,k=(a:Int):=⟨_,rfl⟩
 obtain ⟨zb,hzb⟩:∃ k:Int,k=(b:Int):=⟨_,rfl⟩
 obtain ⟨x,hx⟩:=at_get (L:=L) (i:=a) (by omega)
 obtain ⟨y,hy⟩:=at_get (L:=L) (i:=b) (by omega)
 have ixa:=h.ix (k:=a) (n:=n) (by omega) hza B c
 have ixb:=h.ix (k:=b) (n:=n) (by omega) hzb B c
 have lda:=h.ld (w0:=w0) ⟨hr,hol,hn,hlm⟩ hx
 have ldb:=h.ld (w0:=w0) ⟨hr,hol,hn,hlm⟩ hy
 have cm:=h.cm m w y x
 have l1:w.lim≤X:=by omega
 rw [← hza,← hzb]
 by_cases hc:cI y x < 0
 ·simp [mc220,ixa,ixb,lda,ldb,h.cv,cm,hc,h4,l1,tupV, -ld9, -st9]
  refine ⟨⟨b,a,by rw [hzb,hza],hb.1,hb.2,ha.1,ha.2⟩,⟨?_,fun z hz1 hz2=>?_,hn,hlm⟩,h1,h2,h3,_,by simp; rfl⟩
  ·simp [Ne.symm h1]; exact hr
  ·simp [show ¬ z=X by omega]; exact hol z hz1 hz2
 ·simp [mc220,ixa,ixb,lda,ldb,h.cv,cm,hc,tupV, -ld9, -st9]
  exact ⟨⟨a,b,by rw [hzb,hza],ha.1,ha.2,hb.1,hb.2⟩,⟨hr,hol,hn,hlm⟩,h1,h2,h3,s,h4⟩
theorem call205 (m:Nat) (ho:∀ args w,ov 205 args w=none) (ho2:∀ args w,ov 220 args w=none) (h:SW ov C V sz cI fv fc) (n c:Nat) (lo hi:Nat) (hhi:hi≤n) (a b d:Nat) (ha:lo≤a∧a < hi) (hb:lo≤b∧b < hi) (hd:lo≤d∧d < hi) (B X:Nat) (L:List α) (hL:L.length=n) (w0 w:AW) (hl:w0.lim≤w0.next) (hw:TwW C w0 B X L w) :
  ∃ x w',(run Tryz.prog ov (m + 3)).call 205 [.slice (some ⟨B,0,none⟩) n c,.int .i64 (a:Int),.int .i64 (b:Int),.int .i64 (d:Int),.pointer (some ⟨X,0,none⟩),fv] w .none=.ok (.ret x) w' .none∧(∃ k:Nat,x=.int .i64 (k:Int)∧lo≤k∧k < hi)∧TwW C w0 B X L w':=by
 refine call_wp text205 (by simp) (ho _ _) ?_
 obtain ⟨_,w1,c1,⟨p1,q1,rfl,a1,a2,b1,b2⟩,hw1⟩:=call220 m ho2 h n c lo hi hhi a b ha hb B X L hL w0 w hl hw
 obtain ⟨_,w2,c2,⟨p2,q2,rfl,e1,e2,f1,f2⟩,hw2⟩:=call220 m ho2 h n c lo hi hhi q1 d ⟨b1,b2⟩ hd B X L hL w0 w1 hl hw1
 obtain ⟨_,w3,c3,⟨p3,q3,rfl,g1,g2,k1,k2⟩,hw3⟩:=call220 m ho2 h n c lo hi hhi p1 p2 ⟨a1,a2⟩ ⟨e1,e2⟩ B X L hL w0 w2 hl hw2
 simp [mc205,c1,c2,c3,tupV]
 exact ⟨⟨q3,rfl,k1,k2⟩,hw3⟩
theorem call204 (m:Nat) (ho:∀ args w,ov 204 args w=none) (ho1:∀ args w,ov 205 args w=none) (ho2:∀ args w,ov 220 args w=none) (h:SW ov C V sz cI fv fc) (n c:Nat) (hn:n≤200) (lo hi:Nat) (hhi:hi≤n) (a:Nat) (ha:lo < a∧a + 1 < hi) (B X:Nat) (L:List α) (hL:L.length=n) (w0 w:AW) (hl:w0.lim≤w0.next) (hw:TwW C w0 B X L w) :
  ∃ x w',(run Tryz.prog ov (m + 4)).call 204 [.slice (some ⟨B,0,none⟩) n c,.int .i64 (a:Int),.pointer (some ⟨X,0,none⟩),fv] w .none=.ok (.ret x) w' .none∧(∃ k:Nat,x=.int .i64 (k:Int)∧lo≤k∧k < hi)∧TwW C w0 B X L w':=by
 refine call_wp text204 (by simp) (ho _ _) ?_
 obtain ⟨za,hza⟩:∃ k:Int,k=(a:Int):=⟨_,rfl⟩
 have e1:IntKind.wrap .i64 (za - 1)=((a - 1:Nat):Int):=by rw [w6i (by omega) (by omega)]; omega
 have e2:IntKind.wrap .i64 (za + 1)=((a + 1:Nat):Int):=by rw [w6i (by omega) (by omega)]; omega
 obtain ⟨_,w1,c1,⟨k,rfl,k1,k2⟩,hw1⟩:=call205 m ho1 ho2 h n c lo hi hhi (a - 1) a (a + 1) (by omega) (by omega) (by omega) B X L hL w0 w hl hw
 obtain ⟨z1,hz1⟩:∃ k:Int,k=((a - 1:Nat):Int):=⟨_,rfl⟩
 obtain ⟨z2,hz2⟩:∃ k:Int,k=((a + 1:Nat):Int):=⟨_,rfl⟩
 rw [← hza,← hz1,← hz2] at c1
 rw [← hz1] at e1
 rw [← hz2] at e2
 rw [← hza]
 simp [mc204,e1,e2,c1,tupV]
 exact ⟨⟨k,rfl,k1,k2⟩,hw1⟩
set_option maxHeartbeats 2000000 in
theorem call188 (m:Nat) (ho:∀ args w,ov 188 args w=none) (ho0:∀ args w,ov 204 args w=none) (ho1:∀ args w,ov 205 args w=none) (ho2:∀ args w,ov 220 args w=none) (h:SW ov C V sz cI fv fc) (n c:Nat) (hn:n≤200) (a b:Nat) (hab:a + 12 < b) (hbn:b≤n) (B:Nat) (L:List α) (hL:L.length=n) (w:AW) (hl:w.lim≤w.next) (hBn:B < w.next) (hB:w.heap.get B=some (.cells (L.flatMap C) 9 false)) :
  ∃ x w',(run Tryz.prog ov (m + 5)).call 188 [.slice (some ⟨B,0,none⟩) n c,.int .i64 (a:Int),.int .i64 (b:Int),fv] w .none=.ok (.ret x) w' .none∧(∃ (k:Nat) (hint:Int),x=.tuple ⟨[.int .i64 (k:Int),.int .i64 hint]⟩∧a≤k∧k < b)∧InW C w B L w':=by
 refine call_wp text188 (by simp) (ho _ _) ?_
 obtain ⟨za,hza⟩:∃ k:Int,k=(a:Int):=⟨_,rfl⟩
 obtain ⟨zb,hzb⟩:∃ k:Int,k=(b:Int):=⟨_,rfl⟩
 obtain ⟨zl,hzl⟩:∃ k:Int,k=((b - a:Nat):Int):=⟨_,rfl⟩
 obtain ⟨q,hq⟩:∃ q:Nat,q=(b - a) / 4:=⟨_,rfl⟩
 obtain ⟨zi,hzi⟩:∃ k:Int,k=((a + q:Nat):Int):=⟨_,rfl⟩
 obtain ⟨zj,hzj⟩:∃ k:Int,k=((a + q * 2:Nat):Int):=⟨_,rfl⟩
 obtain ⟨zk,hzk⟩:∃ k:Int,k=((a + q * 3:Nat):Int):=⟨_,rfl⟩
 obtain ⟨zq,hzq⟩:∃ k:Int,k=(q:Int):=⟨_,rfl⟩
 have e1:IntKind.wrap .i64 (zb - za)=zl:=by rw [w6i (by omega) (by omega)]; omega
 have e2:IntKind.wrap .i64 (zl.tdiv 4)=zq:=by rw [Int.tdiv_eq_ediv_of_nonneg (by omega),w6i (by omega) (by omega)]; omega
 have e3:IntKind.wrap .i64 zq=zq:=w6i (by omega) (by omega)
 have e4:IntKind.wrap .i64 (zq * 2)=zq * 2:=w6i (by omega) (by omega)
 have e5:IntKind.wrap .i64 (zq * 3)=zq * 3:=w6i (by omega) (by omega)
 have e6:IntKind.wrap .i64 (za + zq)=zi:=by rw [w6i (by omega) (by omega)]; omega
 have e7:IntKind.wrap .i64 (za + zq * 2)=zj:=by rw [w6i (by omega) (by omega)]; omega
 have e8:IntKind.wrap .i64 (za + zq * 3)=zk:=by rw [w6i (by omega) (by omega)]; omega
 have g8:8≤zl:=by omega
 obtain ⟨w0,hw0⟩:∃ w0:AW,w0=⟨w.heap.put w.next (some (.cells [.int .i64 0] 3 false)),w.next + 1,w.lim⟩:=⟨_,rfl⟩
 have t0:TwW C w B w.next L w0:=by
  rw [hw0]
  refine ⟨⟨?_,fun x hx hb=>?_,Nat.le_succ _,rfl⟩,by omega,Nat.le_refl _,Nat.lt_succ_self _,0,by simp⟩
  ·simp [show ¬ B=w.next by omega]; exact hB
  ·simp [show ¬ x=w.next by omega]
 rw [← hza,← hzb]
 by_cases h50:50≤zl
 ·obtain ⟨_,w1,c1,⟨k1,rfl,k2,k3⟩,t1⟩:=call204 m ho0 ho1 ho2 h n c hn a b hbn (a + q) (by omega) B w.next L hL w w0 hl t0
  obtain ⟨_,w2,c2,⟨k4,rfl,k5,k6⟩,t2⟩:=call204 m ho0 ho1 ho2 h n c hn a b hbn (a + q * 2) (by omega) B w.next L hL w w1 hl t1
  obtain ⟨_,w3,c3,⟨k7,rfl,k8,k9⟩,t3⟩:=call204 m ho0 ho1 ho2 h n c hn a b hbn (a + q * 3) (by omega) B w.next L hL w w2 hl t2
  obtain ⟨_,w4,c4,⟨j,rfl,j1,j2⟩,t4⟩:=call205 (m + 1) ho1 ho2 h n c a b hbn k1 k4 k7 ⟨k2,k3⟩ ⟨k5,k6⟩ ⟨k8,k9⟩ B w.next L hL w w3 hl t3
  obtain ⟨s,hs⟩:=t4.num
  rw [← hzi] at c1
  rw [← hzj] at c2
  rw [← hzk] at c3
  rw [hw0] at c1
  by_cases s0:s=0
  ·subst s0
   simp [mc188,bin_quo,e1,e2,e3,e4,e5,e6,e7,e8,g8,h50,c1,c2,c3,c4,hs,tupV]
   exact ⟨⟨j,rfl,j1,j2⟩,t4.ins⟩
  ·by_cases s1:s=12
   ·subst s1
    simp [mc188,bin_quo,e1,e2,e3,e4,e5,e6,e7,e8,g8,h50,c1,c2,c3,c4,hs,tupV]
    exact ⟨⟨j,rfl,j1,j2⟩,t4.ins⟩
   ·simp [mc188,bin_quo,e1,e2,e3,e4,e5,e6,e7,e8,g8,h50,c1,c2,c3,c4,hs,s0,s1,tupV]
    exact ⟨⟨j,rfl,j1,j2⟩,t4.ins⟩
 ·obtain ⟨_,w4,c4,⟨j,rfl,j1,j2⟩,t4⟩:=call205 (m + 1) ho1 ho2 h n c a b hbn (a + q) (a + q * 2) (a + q * 3) (by omega) (by omega) (by omega) B w.next L hL w w0 hl t0
  obtain ⟨s,hs⟩:=t4.num
  rw [← hzi,← hzj,← hzk] at c4
  rw [hw0] at c4
  by_cases s0:s=0
  ·subst s0
   simp [mc188,bin_quo,e1,e2,e3,e4,e5,e6,e7,e8,g8,h50,c4,hs,tupV]
   exact ⟨⟨j,rfl,j1,j2⟩,t4.ins⟩
  ·by_cases s1:s=12
   ·subst s1
    simp [mc188,bin_quo,e1,e2,e3,e4,e5,e6,e7,e8,g8,h50,c4,hs,tupV]
    exact ⟨⟨j,rfl,j1,j2⟩,t4.ins⟩
   ·simp [mc188,bin_quo,e1,e2,e3,e4,e5,e6,e7,e8,g8,h50,c4,hs,s0,s1,tupV]
    exact ⟨⟨j,rfl,j1,j2⟩,t4.ins⟩
set_option maxHeartbeats 2000000 in
theorem brkW (m:Nat) (h:SW ov C V sz cI fv fc) (ho:∀ args w,ov 180 args w=none) (n c:Nat) (hn:n≤200) (a b:Nat) (hab:a + 12 < b) (hbn:b≤n) (B:Nat) (w0:AW) (hl:w0.lim≤B) (hl0:w0.lim≤w0.next) (L0:List α) (hL0:L0.length=n) (X:Nat) (hXB:X ≠ B) (hX0:w0.next≤X)
  (Q:Ex→Tm→AW→Prop) (t:Tm) (w:AW) (hw:InW C w0 B L0 w)
  (t0:tget t 0=.slice (some ⟨B,0,none⟩) n c) (t1:tget t 1=.int .i64 (a:Nat)) (t8:tget t 8=.int .i64 ((b - a:Nat):Int)) (t9:tget t 9=.pointer (some ⟨X,0,none⟩)) (t10:tget t 10=.int .u64 ((2 ^ bl (b - a):Nat):Int)) (t11:tget t 11=.int .i64 ((a + (b - a) / 4 * 2 - 1:Nat):Int)) (hXw:X < w.next) (hXr:∃ r:Int,w.heap.get X=some (.cells [.int .u64 r] 194 false))
  (hQ:∀ t w L,InW C w0 B L w→Mv a b L0 L→Q (.exit 0) t w) :
  wp (exM Tryz.prog (run Tryz.prog ov (m + 3)) (.loop mc187_l0) t w) Q:=by
 refine wp_rounds (fun r t w=>∃ L,InW C w0 B L w∧Mv a b L0 L∧r≤3∧tget t 0=.slice (some ⟨B,0,none⟩) n c∧tget t 1=.int .i64 (a:Nat)∧tget t 8=.int .i64 ((b - a:Nat):Int)∧tget t 9=.pointer (some ⟨X,0,none⟩)∧tget t 10=.int .u64 ((2 ^ bl (b - a):Nat):Int)∧tget t 11=.int .i64 ((a + (b - a) / 4 * 2 - 1 + r:Nat):Int)∧X < w.next∧(∃ r:Int,w.heap.get X=some (.cells [.int .u64 r] 194 false))) 10 (by decide) ⟨L0,hw,Mv.refl _ _ _,by omega,t0,t1,t8,t9,t10,t11,hXw,hXr⟩ ?_
 clear t0 t1 t8 t9 t10 t11 hXw hXr hw
 rintro r t w ⟨L,hw,hp,hr,t0,t1,t8,t9,t10,t11,hXw,s,hX⟩
 have hlen:L.length=n:=by rw [hp.len,hL0]
 have hlm:=hw.lim
 obtain ⟨q,hq⟩:∃ q:Nat,q=(b - a) / 4:=⟨_,rfl⟩
 obtain ⟨M,hM⟩:∃ M:Nat,M=2 ^ bl (b - a):=⟨_,rfl⟩
 obtain ⟨f1,f2⟩:=bl_fact (b - a) (by omega)
 obtain ⟨f3,f4⟩:=f1 (by omega)
 rw [← hM] at f3 f4 t10
 rw [← hq] at t11
 obtain ⟨za,hza⟩:∃ k:Int,k=(a:Int):=⟨_,rfl⟩
 obtain ⟨zl,hzl⟩:∃ k:Int,k=((b - a:Nat):Int):=⟨_,rfl⟩
 obtain ⟨zi,hzi⟩:∃ k:Int,k=((a + q * 2 - 1 + r:Nat):Int):=⟨_,rfl⟩
 obtain ⟨zq,hzq⟩:∃ k:Int,k=(q:Int):=⟨_,rfl⟩
 obtain ⟨zM,hzM⟩:∃ k:Int,k=(M:Int):=⟨_,rfl⟩
 rw [← hza] at t1
 rw [← hzl] at t8
 rw [← hzM] at t10
 rw [← hzi] at t11
 have e2:IntKind.wrap .i64 (zl.tdiv 4)=zq:=by rw [Int.tdiv_eq_ediv_of_nonneg (by omega),w6i (by omega) (by omega)]; omega
 have e3:IntKind.wrap .i64 (zq * 2)=zq * 2:=w6i (by omega) (by omega)
 have e4:IntKind.wrap .i64 (za + zq * 2)=za + zq * 2:=w6i (by omega) (by omega)
 have e5:IntKind.wrap .i64 (za + zq * 2 + 1)=za + zq * 2 + 1:=w6i (by omega) (by omega)
 by_cases hle:r < 3
 ·have hle':zi≤za + zq * 2 + 1:=by omega
  obtain ⟨_,w1,hc,r',rfl,hX1,ho1,hn1,hl1⟩:=call180 (m + 2) ho X s w (by omega) hX
  have hw1:InW C w0 B L w1:=⟨(ho1 B (Ne.symm hXB)).trans hw.row,fun y h1 h2=>(ho1 y (by omega)).trans (hw.old y h1 h2),by rw [hn1]; exact hw.next,by rw [hl1]; exact hlm⟩
  obtain ⟨zN,hzN⟩:∃ k:Int,k=((M - 1:Nat):Int):=⟨_,rfl⟩
  have e6:IntKind.wrap .u64 (zM - 1)=zN:=by rw [IntWalk.u64_in _ ⟨by omega,by omega⟩]; omega
  obtain ⟨u,hu1,hu2⟩:=anU_le r' (q:=M - 1) (by omega)
  rw [← hzN] at hu2
  obtain ⟨zu,hzu⟩:∃ k:Int,k=(u:Int):=⟨_,rfl⟩
  rw [← hzu] at hu2
  have e7:IntKind.wrap .i64 zu=zu:=w6i (by omega) (by omega)
  have e8:IntKind.wrap .i64 (zu - zl)=zu - zl:=w6i (by omega) (by omega)
  have e9:IntKind.wrap .i64 (zi + 1)=((a + q * 2 - 1 + (r + 1):Nat):Int):=by rw [w6i (by omega) (by omega)]; omega
  have key:∀ o:Nat,o < b - a→∃ x y w2 w3,(L[a + q * 2 - 1 + r]?=some x∧L[a + o]?=some y)∧storeA Tryz.prog w1 9 (.pointer (some ⟨B,(a + q * 2 - 1 + r) * sz,none⟩)) (V y)=.val undef w2∧storeA Tryz.prog w2 9 (.pointer (some ⟨B,(a + o) * sz,none⟩)) (V x)=.val undef w3∧(∃ L',InW C w0 B L' w3∧Mv a b L0 L'∧X < w3.next∧∃ r:Int,w3.heap.get X=some (.cells [.int .u64 r] 194 false)):=fun o ho=>by
   obtain ⟨x,hx⟩:=at_get (L:=L) (i:=a + q * 2 - 1 + r) (by omega)
   obtain ⟨y,hy⟩:=at_get (L:=L) (i:=a + o) (by omega)
   have hrow:=hw1.row
   have s1:=h.T.st w1 B (a + q * 2 - 1 + r) L y hrow (by omega) (by rw [hl1]; omega)
   have s2:=h.T.st (⟨w1.heap.put B (some (.cells ((L.set (a + q * 2 - 1 + r) y).flatMap C) 9 false)),w1.next,w1.lim⟩:AW) B (a + o) (L.set (a + q * 2 - 1 + r) y) x (by simp) (by rw [List.length_set]; omega) (by show w1.lim≤B; rw [hl1]; omega)
   refine ⟨x,y,_,_,⟨hx,hy⟩,s1,s2,swp L (a + q * 2 - 1 + r) (a + o) x y,⟨?_,fun z h1 h2=>?_,hw1.next,hw1.lim⟩,hp.trans (Mv.swap hx hy (by omega) (by omega) (by omega) (by omega)),by show X < w1.next; rw [hn1]; exact hXw,r',?_⟩
   ·simp [swp]
   ·simp [h2]; exact hw1.old z h1 h2
   ·simp [hXB]; exact hX1
  by_cases hge:zl≤zu
  ·obtain ⟨x,y,w2,w3,⟨hx,hy⟩,s1,s2,L',hw',hp',hX',hr'⟩:=key (u - (b - a)) (by omega)
   obtain ⟨zo,hzo⟩:∃ k:Int,k=((a + (u - (b - a)):Nat):Int):=⟨_,rfl⟩
   have e10:IntKind.wrap .i64 (za + (zu - zl))=zo:=by rw [w6i (by omega) (by omega)]; omega
   have ixi:=h.ix (k:=a + q * 2 - 1 + r) (n:=n) (by omega) hzi B c
   have ixo:=h.ix (k:=a + (u - (b - a))) (n:=n) (by omega) hzo B c
   have ldi:=h.ld hw1 hx
   have ldo:=h.ld hw1 hy
   simp [mc187_l0,t0,t1,t8,t9,t10,t11,bin_quo,bin_anU,e2,e3,e4,e5,e6,hle',hc,hu2,e7,e8,hge,e9,e10,ixi,ixo,ldi,ldo,s1,s2, -ld9, -st9]
   exact ⟨by omega,L',hw',hp',by omega,hza,hzl,by rw [hzM,hM]; simp,by rw [← hq],hX',hr'⟩
  ·obtain ⟨x,y,w2,w3,⟨hx,hy⟩,s1,s2,L',hw',hp',hX',hr'⟩:=key u (by omega)
   obtain ⟨zo,hzo⟩:∃ k:Int,k=((a + u:Nat):Int):=⟨_,rfl⟩
   have e10:IntKind.wrap .i64 (za + zu)=zo:=by rw [w6i (by omega) (by omega)]; omega
   have ixi:=h.ix (k:=a + q * 2 - 1 + r) (n:=n) (by omega) hzi B c
   have ixo:=h.ix (k:=a + u) (n:=n) (by omega) hzo B c
   have ldi:=h.ld hw1 hx
   have ldo:=h.ld hw1 hy
   simp [mc187_l0,t0,t1,t8,t9,t10,t11,bin_quo,bin_anU,e2,e3,e4,e5,e6,hle',hc,hu2,e7,e8,hge,e9,e10,ixi,ixo,ldi,ldo,s1,s2, -ld9, -st9]
   exact ⟨by omega,L',hw',hp',by omega,hza,hzl,by rw [hzM,hM]; simp,by rw [← hq],hX',hr'⟩
 ·have hle':¬ zi≤za + zq * 2 + 1:=by omega
  simp [mc187_l0,t0,t1,t8,t9,t10,t11,bin_quo,e2,e3,e4,e5,hle']
  exact hQ _ _ L hw hp
end
section
variable {α:Type} {C:α→List Value} {V:α→Value} {sz:Nat} {cI:α→α→Int} {fv:Value} {fc:FuncId} {ov:Ov}
theorem call187 (m:Nat) (ho:∀ args w,ov 187 args w=none) (ho1:∀ args w,ov 180 args w=none) (ho2:∀ args w,ov 179 args w=none) (ho3:∀ args w,ov 124 args w=none) (ho4:∀ args w,ov 163 args w=none) (h:SW ov C V sz cI fv fc) (n c:Nat) (hn:n≤200) (a b:Nat) (hab:a + 12 < b) (hbn:b≤n) (B:Nat) (L:List α) (hL:L.length=n) (w:AW) (hl:w.lim≤B) (hl0:w.lim≤w.next) (hBn:B < w.next) (hB:w.heap.get B=some (.cells (L.flatMap C) 9 false)) :
  ∃ x w',(run Tryz.prog ov (m + 4)).call 187 [.slice (some ⟨B,0,none⟩) n c,.int .i64 (a:Int),.int .i64 (b:Int),fv] w .none=.ok (.ret x) w' .none∧x=.tuple ⟨[]⟩∧∃ L',LeftW C w w' B a b L L':=by
 refine call_wp text187 (by simp) (ho _ _) ?_
 obtain ⟨za,hza⟩:∃ k:Int,k=(a:Int):=⟨_,rfl⟩
 obtain ⟨zb,hzb⟩:∃ k:Int,k=(b:Int):=⟨_,rfl⟩
 obtain ⟨zl,hzl⟩:∃ k:Int,k=((b - a:Nat):Int):=⟨_,rfl⟩
 obtain ⟨q,hq⟩:∃ q:Nat,q=(b - a) / 4:=⟨_,rfl⟩
 obtain ⟨zq,hzq⟩:∃ k:Int,k=(q:Int):=⟨_,rfl⟩
 have e1:IntKind.wrap .i64 (zb - za)=zl:=by rw [w6i (by omega) (by omega)]; omega
 have e2:IntKind.wrap .i64 (zl.tdiv 4)=zq:=by rw [Int.tdiv_eq_ediv_of_nonneg (by omega),w6i (by omega) (by omega)]; omega
 have e3:IntKind.wrap .i64 (zq * 2)=zq * 2:=w6i (by omega) (by omega)
 have e4:IntKind.wrap .i64 (za + zq * 2)=za + zq * 2:=w6i (by omega) (by omega)
 have e5:IntKind.wrap .i64 (za + zq * 2 - 1)=((a + (b - a) / 4 * 2 - 1:Nat):Int):=by rw [w6i (by omega) (by omega)]; omega
 have e6:IntKind.wrap .u64 zl=zl:=IntWalk.u64_in _ ⟨by omega,by omega⟩
 have g8:8≤zl:=by omega
 obtain ⟨w0,hw0⟩:∃ w0:AW,w0=⟨(w.heap.put w.next (some (.cells [.int .u64 0] 194 false))).put w.next (some (.cells [.int .u64 zl] 194 false)),w.next + 1,w.lim⟩:=⟨_,rfl⟩
 obtain ⟨_,w0',hc,rfl,hw0'⟩:=call179 m ho2 ho3 ho4 (b - a) (by omega) w0
 rw [hw0'] at hc
 have i0:InW C w B L w0:=by
  rw [hw0]
  refine ⟨?_,fun x hx hb=>?_,Nat.le_succ _,rfl⟩
  ·simp [show ¬ B=w.next by omega]; exact hB
  ·simp [show ¬ x=w.next by omega]
 have n0:w0.next=w.next + 1:=by rw [hw0]
 have x0:w0.heap.get w.next=some (.cells [.int .u64 zl] 194 false):=by rw [hw0]; simp
 obtain ⟨M,hM⟩:∃ M:Nat,M=2 ^ bl (b - a):=⟨_,rfl⟩
 rw [← hzl,← hM] at hc
 have hc':=hc
 rw [hw0] at hc'
 rw [← hza,← hzb]
 simp [mc187,bin_quo,e1,e2,e3,e4,e5,e6,g8,hl0,hc']
 rw [← hw0]
 refine wp_blockX (brkW m h ho1 n c hn a b hab hbn B w hl hl0 L hL w.next (by omega) (Nat.le_refl _) _ _ _ i0 ?_ ?_ ?_ ?_ ?_ ?_ (by omega) ⟨_,x0⟩ ?_)
 case _=>simp
 case _=>simp [hza]
 case _=>simp [hzl]
 case _=>simp
 case _=>simp [hM]
 case _=>simp
 case _ =>
  intro t w' L' hw hp
  simp [tupV]
  exact ⟨L',hw,hp⟩
end
end Go.Proofs.YtnjknghdpobcmaaGreatDoor.walk
