/- Part of a proof: see the text with the theorem. -/
import Derived.Test.YtnjknghdpobcmaaGreatDoorPQ
import Derived.Test.YtnjknghdpobcmaaGreatDoorZT2
set_option linter.all false
namespace Go.Proofs.YtnjknghdpobcmaaGreatDoor.walk
open Go Go.Sh
set_option maxRecDepth 100000
section
variable {α:Type} {C:α→List Value} {V:α→Value} {sz:Nat} {cI:α→α→Int} {fv:Value} {fc:FuncId} {ov:Ov}
structure SW (ov:Ov) (C:α→List Value) (V:α→Value) (sz:Nat) (cI:α→α→Int) (fv:Value) (fc:FuncId):Prop where
 T:SortT Tryz.prog 28 9 sz C V
 cv:∀ w args,callV Tryz.prog w fv args=.enter fc args w
 cm:∀ k w x y,(run Tryz.prog ov (k + 1)).call fc [V x,V y] w .none=.ok (.ret (.int .i64 (cI x y))) w .none
 wk:Wk fun x y=>cI x y < 0
abbrev InW (C:α→List Value) (w0:AW) (B:Nat) (L:List α) (w:AW):Prop:=InS C 9 w0 B L w
theorem SW.ix (h:SW ov C V sz cI fv fc) {k n:Nat} (hk:k < n) {z:Int} (hz:z=(k:Int)) (B c:Nat) (w:AW):indexAddrA Tryz.prog w 28 (.slice (some ⟨B,0,none⟩) n c) (.int .i64 z)=.val (.pointer (some ⟨B,k * sz,none⟩)) w:=by
 subst hz; exact h.T.ix w B n c k hk
theorem SW.ld (h:SW ov C V sz cI fv fc) {w0 w:AW} {B k:Nat} {L:List α} {x:α} (hw:InW C w0 B L w) (hx:L[k]?=some x):loadA Tryz.prog w 9 (.pointer (some ⟨B,k * sz,none⟩))=.val (V x) w:=h.T.ld w B k L x hw.row hx
set_option maxHeartbeats 2000000 in
theorem insW_in (m:Nat) (h:SW ov C V sz cI fv fc) (n c:Nat) (hn:n≤200) (a i b:Nat) (hai:a≤i) (hib:i < b) (hbn:b≤n) (B:Nat) (w0:AW) (hl:w0.lim≤B) (L0:List α) (hL0:L0.length=n) (hs:Srt (fun x y=>cI x y < 0) L0 a i)
  (Q:Ex→Tm→AW→Prop) (t:Tm) (w:AW) (hw:InW C w0 B L0 w)
  (t0:tget t 0=.slice (some ⟨B,0,none⟩) n c) (t1:tget t 1=.int .i64 (a:Nat)) (t2:tget t 2=.int .i64 (b:Nat)) (t3:tget t 3=fv) (t8:tget t 8=.int .i64 (i:Nat)) (t9:tget t 9=.int .i64 (i:Nat))
  (hQ:∀ t w L,InW C w0 B L w→Mv a b L0 L→Srt (fun x y=>cI x y < 0) L a (i + 1)→tget t 0=.slice (some ⟨B,0,none⟩) n c→tget t 1=.int .i64 (a:Nat)→tget t 2=.int .i64 (b:Nat)→tget t 3=fv→tget t 8=.int .i64 (i:Nat)→Q (.exit 2) t w) :
  wp (exM Tryz.prog (run Tryz.prog ov (m + 1)) (.loop mc185_l1) t w) Q:=by
 refine wp_rounds (fun r t w=>∃ j L,j + r=i∧a≤j∧InW C w0 B L w∧Mv a b L0 L∧InsX (fun x y=>cI x y < 0) L a (i + 1) j∧tget t 0=.slice (some ⟨B,0,none⟩) n c∧tget t 1=.int .i64 (a:Nat)∧tget t 2=.int .i64 (b:Nat)∧tget t 3=fv∧tget t 8=.int .i64 (i:Nat)∧tget t 9=.int .i64 (j:Nat)) 300 (by decide) ⟨i,L0,rfl,hai,hw,Mv.refl _ _ _,InsX.start hs,t0,t1,t2,t3,t8,t9⟩ ?_
 clear t0 t1 t2 t3 t8 t9 hw hs
 rintro r t w ⟨j,L,hj,haj,hw,hp,hs,t0,t1,t2,t3,t8,t9⟩
 have hlen:L.length=n:=by rw [hp.len,hL0]
 obtain ⟨za,hza⟩:∃ k:Int,k=(a:Int):=⟨_,rfl⟩
 obtain ⟨zb,hzb⟩:∃ k:Int,k=(b:Int):=⟨_,rfl⟩
 obtain ⟨zi,hzi⟩:∃ k:Int,k=(i:Int):=⟨_,rfl⟩
 obtain ⟨zj,hzj⟩:∃ k:Int,k=(j:Int):=⟨_,rfl⟩
 rw [← hza] at t1 hQ
 rw [← hzb] at t2 hQ
 rw [← hzi] at t8 hQ
 rw [← hzj] at t9
 by_cases hpos:a < j
 ·have hp0:za < zj:=by omega
  obtain ⟨x,hx⟩:=at_get (L:=L) (i:=j - 1) (by omega)
  obtain ⟨y,hy⟩:=at_get (L:=L) (i:=j) (by omega)
  have ixj:=h.ix (k:=j) (n:=n) (by omega) hzj B c
  obtain ⟨zk,hzk⟩:∃ k:Int,k=((j - 1:Nat):Int):=⟨_,rfl⟩
  have w3:IntKind.wrap .i64 (zj - 1)=zk:=by rw [w6i (by omega) (by omega)]; omega
  have ixk:=h.ix (k:=j - 1) (n:=n) (by omega) hzk B c
  have ldj:=h.ld hw hy
  have ldk:=h.ld hw hx
  have cm:=h.cm m w y x
  by_cases hc:cI y x < 0
  ·obtain ⟨w1,w2,s1,s2,hw2⟩:=InS.swap h.T hw hl hy hx
   simp [mc185_l1,t0,t1,t2,t3,t8,t9,hp0,w3,ixj,ixk,ldj,ldk,h.cv,cm,hc,s1,s2, -ld9, -st9]
   refine ⟨by omega,j - 1,by omega,by omega,_,hw2,hp.trans (Mv.swap hy hx (by omega) (by omega) (by omega) (by omega)),hs.step h.wk hpos hy hx hc,?_⟩
   simp [hza,hzb,hzi,hzk]
  ·simp [mc185_l1,t0,t1,t2,t3,t8,t9,hp0,w3,ixj,ixk,ldj,ldk,h.cv,cm,hc, -ld9, -st9]
   exact hQ _ _ L hw hp (hs.stop h.wk (by omega) (fun x' y' _ h1 h2=>by rw [hx] at h1; rw [hy] at h2; cases h1; cases h2; exact hc)) (by simp [t0]) (by simp [t1]) (by simp [t2]) (by simp [t3]) (by simp [t8])
 ·have hp0:¬ za < zj:=by omega
  simp [mc185_l1,t0,t1,t2,t3,t8,t9,hp0]
  exact hQ _ _ L hw hp (hs.stop h.wk (by omega) (fun _ _ h0=>absurd h0 hpos)) (by simp [t0]) (by simp [t1]) (by simp [t2]) (by simp [t3]) (by simp [t8])
set_option maxHeartbeats 2000000 in
theorem insW_out (m:Nat) (h:SW ov C V sz cI fv fc) (n c:Nat) (hn:n≤200) (a b:Nat) (hab:a≤b) (hbn:b≤n) (B:Nat) (w0:AW) (hl:w0.lim≤B) (L0:List α) (hL0:L0.length=n)
  (Q:Ex→Tm→AW→Prop) (t:Tm) (w:AW) (hw:InW C w0 B L0 w)
  (t0:tget t 0=.slice (some ⟨B,0,none⟩) n c) (t1:tget t 1=.int .i64 (a:Nat)) (t2:tget t 2=.int .i64 (b:Nat)) (t3:tget t 3=fv) (t8:tget t 8=.int .i64 ((a + 1:Nat):Int))
  (hQ:∀ t w L,InW C w0 B L w→Mv a b L0 L→Srt (fun x y=>cI x y < 0) L a b→Q (.exit 0) t w) :
  wp (exM Tryz.prog (run Tryz.prog ov (m + 1)) (.loop mc185_l0) t w) Q:=by
 refine wp_rounds (fun r t w=>∃ L,a + r≤b∧InW C w0 B L w∧Mv a b L0 L∧Srt (fun x y=>cI x y < 0) L a (a + r + 1)∧tget t 0=.slice (some ⟨B,0,none⟩) n c∧tget t 1=.int .i64 (a:Nat)∧tget t 2=.int .i64 (b:Nat)∧tget t 3=fv∧tget t 8=.int .i64 ((a + r + 1:Nat):Int)) 300 (by decide) ⟨L0,by omega,hw,Mv.refl _ _ _,Srt.one _ (by omega),t0,t1,t2,t3,t8⟩ ?_
 clear t0 t1 t2 t3 t8 hw
 rintro r t w ⟨L,har,hw,hp,hs,t0,t1,t2,t3,t8⟩
 obtain ⟨zb,hzb⟩:∃ k:Int,k=(b:Int):=⟨_,rfl⟩
 obtain ⟨zi,hzi⟩:∃ k:Int,k=((a + r + 1:Nat):Int):=⟨_,rfl⟩
 have hlen:L.length=n:=by rw [hp.len,hL0]
 by_cases hlt:a + r + 1 < b
 ·have hlt':zi < zb:=by omega
  obtain ⟨zk,hzk⟩:∃ k:Int,k=((a + (r + 1) + 1:Nat):Int):=⟨_,rfl⟩
  have w1:IntKind.wrap .i64 (zi + 1)=zk:=by rw [w6i (by omega) (by omega)]; omega
  rw [← hzi] at t8
  rw [← hzb] at t2
  simp [mc185_l0,t2,t8,hlt']
  refine wp_seqX (wp_blockX (wp_blockX (insW_in m h n c hn a (a + r + 1) b (by omega) hlt hbn B w0 hl L hlen hs _ _ _ hw ?_ ?_ ?_ ?_ ?_ ?_ ?_)))
  case _=>simp [t0]
  case _=>simp [t1]
  case _=>simp [t2,hzb]
  case _=>simp [t3]
  case _=>rw [← hzi]; simp [t8]
  case _=>rw [← hzi]; simp
  case _ =>
   intro t w L' hw' hp' hs' s0 s1 s2 s3 s8
   rw [← hzi] at s8
   simp [s0,s1,s2,s3,s8,w1]
   refine ⟨by omega,by omega,L',hw',hp.trans hp',hs',hzk⟩
 ·have hge:¬ zi < zb:=by omega
  rw [← hzi] at t8
  rw [← hzb] at t2
  simp [mc185_l0,t2,t8,hge]
  exact hQ _ _ L hw hp (hs.part (Nat.le_refl _) (by omega))
def LeftW (C:α→List Value) (w w':AW) (B a b:Nat) (L L':List α):Prop:=InW C w B L' w'∧Mv a b L L'
theorem call185 (m:Nat) (ho:∀ args w,ov 185 args w=none) (h:SW ov C V sz cI fv fc) (n c:Nat) (hn:n≤200) (a b:Nat) (hab:a≤b) (hbn:b≤n) (B:Nat) (L:List α) (hL:L.length=n) (w:AW) (hl:w.lim≤B) (hB:w.heap.get B=some (.cells (L.flatMap C) 9 false)) :
  ∃ x w',(run Tryz.prog ov (m + 2)).call 185 [.slice (some ⟨B,0,none⟩) n c,.int .i64 (a:Int),.int .i64 (b:Int),fv] w .none=.ok (.ret x) w' .none∧x=.tuple ⟨[]⟩∧∃ L',LeftW C w w' B a b L L'∧Srt (fun x y=>cI x y < 0) L' a b:=by
 refine call_wp text185 (by simp) (ho _ _) ?_
 obtain ⟨za,hza⟩:∃ k:Int,k=(a:Int):=⟨_,rfl⟩
 have w1:IntKind.wrap .i64 (za + 1)=((a + 1:Nat):Int):=by rw [w6i (by omega) (by omega)]; omega
 rw [← hza]
 simp [mc185]
 refine wp_blockX (insW_out m h n c hn a b hab hbn B w hl L hL _ _ _ (InS.refl hB) ?_ ?_ ?_ ?_ ?_ ?_)
 case _=>simp
 case _=>simp [hza]
 case _=>simp
 case _=>simp
 case _=>simp [w1]
 case _ =>
  intro t w' L' hw hp hs
  simp [tupV]
  exact ⟨L',⟨hw,hp⟩,hs⟩
end
section
variable {α:Type} {C:α→List Value} {V:α→Value} {sz:Nat} {cI:α→α→Int} {fv:Value} {fc:FuncId} {ov:Ov}
set_option maxHeartbeats 2000000 in
theorem revW (m:Nat) (h:SW ov C V sz cI fv fc) (n c:Nat) (hn:n≤200) (a b:Nat) (hab:a≤b) (hbn:b≤n) (B:Nat) (w0:AW) (hl:w0.lim≤B) (L0:List α) (hL0:L0.length=n)
  (Q:Ex→Tm→AW→Prop) (t:Tm) (w:AW) (hw:InW C w0 B L0 w)
  (t0:tget t 0=.slice (some ⟨B,0,none⟩) n c) (t8:tget t 8=.int .i64 (a:Nat)) (t9:tget t 9=.int .i64 ((b:Int) - 1))
  (hQ:∀ t w L,InW C w0 B L w→Mv a b L0 L→Q (.exit 0) t w) :
  wp (exM Tryz.prog (run Tryz.prog ov (m + 1)) (.loop mc189_l0) t w) Q:=by
 refine wp_rounds (fun r t w=>∃ L,InW C w0 B L w∧Mv a b L0 L∧tget t 0=.slice (some ⟨B,0,none⟩) n c∧tget t 8=.int .i64 ((a + r:Nat):Int)∧tget t 9=.int .i64 ((b:Int) - 1 - (r:Int))∧a + r≤b) 300 (by decide) ⟨L0,hw,Mv.refl _ _ _,t0,t8,by simpa using t9,by omega⟩ ?_
 clear t0 t8 t9 hw
 rintro r t w ⟨L,hw,hp,t0,t8,t9,hr⟩
 have hlen:L.length=n:=by rw [hp.len,hL0]
 obtain ⟨z8,hz8⟩:∃ k:Int,k=((a + r:Nat):Int):=⟨_,rfl⟩
 obtain ⟨z9,hz9⟩:∃ k:Int,k=(b:Int) - 1 - (r:Int):=⟨_,rfl⟩
 rw [← hz8] at t8
 rw [← hz9] at t9
 by_cases hlt:z8 < z9
 ·obtain ⟨x,hx⟩:=at_get (L:=L) (i:=a + r) (by omega)
  obtain ⟨y,hy⟩:=at_get (L:=L) (i:=b - 1 - r) (by omega)
  have hz9':z9=((b - 1 - r:Nat):Int):=by omega
  have ixi:=h.ix (k:=a + r) (n:=n) (by omega) hz8 B c
  have ixj:=h.ix (k:=b - 1 - r) (n:=n) (by omega) hz9' B c
  have ldi:=h.ld hw hx
  have ldj:=h.ld hw hy
  have w1:IntKind.wrap .i64 (z8 + 1)=((a + (r + 1):Nat):Int):=by rw [w6i (by omega) (by omega)]; omega
  have w2:IntKind.wrap .i64 (z9 - 1)=(b:Int) - 1 - ((r + 1:Nat):Int):=by rw [w6i (by omega) (by omega)]; omega
  obtain ⟨w1',w2',s1,s2,hw2⟩:=InS.swap h.T hw hl hx hy
  simp [mc189_l0,t0,t8,t9,hlt,ixi,ixj,ldi,ldj,s1,s2,w1,w2, -ld9, -st9]
  exact ⟨by omega,_,hw2,hp.trans (Mv.swap hx hy (by omega) (by omega) (by omega) (by omega)),by omega⟩
 ·simp [mc189_l0,t0,t8,t9,hlt]
  exact hQ _ _ L hw hp
theorem call189 (m:Nat) (ho:∀ args w,ov 189 args w=none) (h:SW ov C V sz cI fv fc) (n c:Nat) (hn:n≤200) (a b:Nat) (hab:a≤b) (hbn:b≤n) (B:Nat) (L:List α) (hL:L.length=n) (w:AW) (hl:w.lim≤B) (hB:w.heap.get B=some (.cells (L.flatMap C) 9 false)) :
  ∃ x w',(run Tryz.prog ov (m + 2)).call 189 [.slice (some ⟨B,0,none⟩) n c,.int .i64 (a:Int),.int .i64 (b:Int),fv] w .none=.ok (.ret x) w' .none∧x=.tuple ⟨[]⟩∧∃ L',LeftW C w w' B a b L L':=by
 refine call_wp text189 (by simp) (ho _ _) ?_
 obtain ⟨za,hza⟩:∃ k:Int,k=(a:Int):=⟨_,rfl⟩
 obtain ⟨zb,hzb⟩:∃ k:Int,k=(b:Int):=⟨_,rfl⟩
 have w1:IntKind.wrap .i64 (zb - 1)=(b:Int) - 1:=by rw [w6i (by omega) (by omega)]; omega
 rw [← hza,← hzb]
 simp [mc189]
 refine wp_blockX (revW m h n c hn a b hab hbn B w hl L hL _ _ _ (InS.refl hB) ?_ ?_ ?_ ?_)
 case _=>simp
 case _=>simp [hza]
 case _=>simp [w1]
 case _ =>
  intro t w' L' hw hp
  simp [tupV]
  exact ⟨L',hw,hp⟩
set_option maxHeartbeats 4000000 in
theorem siftW (m:Nat) (h:SW ov C V sz cI fv fc) (n c:Nat) (hn:n≤200) (f lo hi:Nat) (hf:f + hi≤n) (hlo:lo≤200) (B:Nat) (w0:AW) (hl:w0.lim≤B) (L0:List α) (hL0:L0.length=n) (hH:Heap (fun x y=>cI x y < 0) L0 f (lo + 1) hi)
  (Q:Ex→Tm→AW→Prop) (t:Tm) (w:AW) (hw:InW C w0 B L0 w)
  (t0:tget t 0=.slice (some ⟨B,0,none⟩) n c) (t2:tget t 2=.int .i64 (hi:Nat)) (t3:tget t 3=.int .i64 (f:Nat)) (t4:tget t 4=fv) (t10:tget t 10=.int .i64 (lo:Nat))
  (hQ:∀ t w L,InW C w0 B L w→Mv f (f + hi) L0 L→Heap (fun x y=>cI x y < 0) L f lo hi→Q (.exit 0) t w∧Q .ret t w) :
  wp (exM Tryz.prog (run Tryz.prog ov (m + 1)) (.loop mc203_l0) t w) Q:=by
 refine wp_rounds (fun r t w=>∃ L q,InW C w0 B L w∧Mv f (f + hi) L0 L∧Hp (fun x y=>cI x y < 0) L f lo hi q∧lo + r≤q∧q≤200∧tget t 0=.slice (some ⟨B,0,none⟩) n c∧tget t 2=.int .i64 (hi:Nat)∧tget t 3=.int .i64 (f:Nat)∧tget t 4=fv∧tget t 10=.int .i64 (q:Nat)) 300 (by decide) ⟨L0,lo,hw,Mv.refl _ _ _,Hp.start hH,by omega,hlo,t0,t2,t3,t4,t10⟩ ?_
 clear t0 t2 t3 t4 t10 hw
 rintro r t w ⟨L,q,hw,hp,hH,hq,hq2,t0,t2,t3,t4,t10⟩
 have hlen:L.length=n:=by rw [hp.len,hL0]
 obtain ⟨zh,hzh⟩:∃ k:Int,k=(hi:Int):=⟨_,rfl⟩
 obtain ⟨zf,hzf⟩:∃ k:Int,k=(f:Int):=⟨_,rfl⟩
 obtain ⟨zq,hzq⟩:∃ k:Int,k=(q:Int):=⟨_,rfl⟩
 obtain ⟨zc,hzc⟩:∃ k:Int,k=((2 * q + 1:Nat):Int):=⟨_,rfl⟩
 obtain ⟨zd,hzd⟩:∃ k:Int,k=((2 * q + 2:Nat):Int):=⟨_,rfl⟩
 obtain ⟨ze,hze⟩:∃ k:Int,k=((f + (2 * q + 1):Nat):Int):=⟨_,rfl⟩
 obtain ⟨zg,hzg⟩:∃ k:Int,k=((f + (2 * q + 2):Nat):Int):=⟨_,rfl⟩
 obtain ⟨zr,hzr⟩:∃ k:Int,k=((f + q:Nat):Int):=⟨_,rfl⟩
 rw [← hzh] at t2
 rw [← hzf] at t3
 rw [← hzq] at t10
 have e0:IntKind.wrap .i64 (2 * zq)=2 * zq:=w6i (by omega) (by omega)
 have e1:IntKind.wrap .i64 (2 * zq + 1)=zc:=by rw [w6i (by omega) (by omega)]; omega
 have e2:IntKind.wrap .i64 (zc + 1)=zd:=by rw [w6i (by omega) (by omega)]; omega
 have e3:IntKind.wrap .i64 (zf + zc)=ze:=by rw [w6i (by omega) (by omega)]; omega
 have e4:IntKind.wrap .i64 (ze + 1)=zg:=by rw [w6i (by omega) (by omega)]; omega
 have e5:IntKind.wrap .i64 (zf + zd)=zg:=by rw [w6i (by omega) (by omega)]; omega
 have e6:IntKind.wrap .i64 (zf + zq)=zr:=by rw [w6i (by omega) (by omega)]; omega
 by_cases hc:2 * q + 1 < hi
 ·have hc':¬ zh≤zc:=by omega
  obtain ⟨x,hx⟩:=at_get (L:=L) (i:=f + q) (by omega)
  obtain ⟨y,hy⟩:=at_get (L:=L) (i:=f + (2 * q + 1)) (by omega)
  have ixr:=h.ix (k:=f + q) (n:=n) (by omega) hzr B c
  have ixe:=h.ix (k:=f + (2 * q + 1)) (n:=n) (by omega) hze B c
  have ldr:=h.ld hw hx
  have lde:=h.ld hw hy
  by_cases hd:2 * q + 2 < hi
  ·have hd':zd < zh:=by omega
   obtain ⟨z,hz⟩:=at_get (L:=L) (i:=f + (2 * q + 2)) (by omega)
   have ixg:=h.ix (k:=f + (2 * q + 2)) (n:=n) (by omega) hzg B c
   have ldg:=h.ld hw hz
   have cm1:=h.cm m w y z
   by_cases hyz:cI y z < 0
   ·have cm2:=h.cm m w x z
    by_cases hxz:cI x z < 0
    ·obtain ⟨w1,w2,s1,s2,hw2⟩:=InS.swap h.T hw hl hx hz
     simp [mc203_l0,t0,t2,t3,t4,t10,e0,e1,e2,e3,e4,e5,e6,hc',hd',ixr,ixe,ixg,ldr,lde,ldg,h.cv,cm1,cm2,hyz,hxz,s1,s2, -ld9, -st9]
     refine ⟨by omega,_,hw2,hp.trans (Mv.swap hx hz (by omega) (by omega) (by omega) (by omega)),2 * q + 2,hH.down h.wk (by omega) hx hz (.inr rfl) hd hxz (fun d u h1 h2 h3=>?_),by omega,by omega,by omega⟩
     rcases h1 with rfl | rfl
     ·rw [hy] at h3; cases h3; exact h.wk.asym hyz
     ·rw [hz] at h3; cases h3; exact h.wk.irr _
    ·simp [mc203_l0,t0,t2,t3,t4,t10,e0,e1,e2,e3,e4,e5,e6,hc',hd',ixr,ixe,ixg,ldr,lde,ldg,h.cv,cm1,cm2,hyz,hxz, -ld9, -st9]
     refine (hQ _ _ L hw hp (hH.stop fun d u v h1 h2 h3 h4=>?_)).2
     rw [hx] at h3; cases h3
     rcases h1 with rfl | rfl
     ·rw [hy] at h4; cases h4; exact fun k=>hxz (h.wk.lt_le k (h.wk.asym hyz))
     ·rw [hz] at h4; cases h4; exact hxz
   ·have cm2:=h.cm m w x y
    by_cases hxy:cI x y < 0
    ·obtain ⟨w1,w2,s1,s2,hw2⟩:=InS.swap h.T hw hl hx hy
     simp [mc203_l0,t0,t2,t3,t4,t10,e0,e1,e2,e3,e4,e5,e6,hc',hd',ixr,ixe,ixg,ldr,lde,ldg,h.cv,cm1,cm2,hyz,hxy,s1,s2, -ld9, -st9]
     refine ⟨by omega,_,hw2,hp.trans (Mv.swap hx hy (by omega) (by omega) (by omega) (by omega)),2 * q + 1,hH.down h.wk (by omega) hx hy (.inl rfl) hc hxy (fun d u h1 h2 h3=>?_),by omega,by omega,by omega⟩
     rcases h1 with rfl | rfl
     ·rw [hy] at h3; cases h3; exact h.wk.irr _
     ·rw [hz] at h3; cases h3; exact hyz
    ·simp [mc203_l0,t0,t2,t3,t4,t10,e0,e1,e2,e3,e4,e5,e6,hc',hd',ixr,ixe,ixg,ldr,lde,ldg,h.cv,cm1,cm2,hyz,hxy, -ld9, -st9]
     refine (hQ _ _ L hw hp (hH.stop fun d u v h1 h2 h3 h4=>?_)).2
     rw [hx] at h3; cases h3
     rcases h1 with rfl | rfl
     ·rw [hy] at h4; cases h4; exact hxy
     ·rw [hz] at h4; cases h4; exact fun k=>hxy (h.wk.lt_le k hyz)
  ·have hd':¬ zd < zh:=by omega
   have cm2:=h.cm m w x y
   by_cases hxy:cI x y < 0
   ·obtain ⟨w1,w2,s1,s2,hw2⟩:=InS.swap h.T hw hl hx hy
    simp [mc203_l0,t0,t2,t3,t4,t10,e0,e1,e2,e3,e4,e5,e6,hc',hd',ixr,ixe,ldr,lde,h.cv,cm2,hxy,s1,s2, -ld9, -st9]
    refine ⟨by omega,_,hw2,hp.trans (Mv.swap hx hy (by omega) (by omega) (by omega) (by omega)),2 * q + 1,hH.down h.wk (by omega) hx hy (.inl rfl) hc hxy (fun d u h1 h2 h3=>?_),by omega,by omega,by omega⟩
    rcases h1 with rfl | rfl
    ·rw [hy] at h3; cases h3; exact h.wk.irr _
    ·omega
   ·simp [mc203_l0,t0,t2,t3,t4,t10,e0,e1,e2,e3,e4,e5,e6,hc',hd',ixr,ixe,ldr,lde,h.cv,cm2,hxy, -ld9, -st9]
    refine (hQ _ _ L hw hp (hH.stop fun d u v h1 h2 h3 h4=>?_)).2
    rw [hx] at h3; cases h3
    rcases h1 with rfl | rfl
    ·rw [hy] at h4; cases h4; exact hxy
    ·omega
 ·have hc':zh≤zc:=by omega
  simp [mc203_l0,t0,t2,t3,t4,t10,e0,e1,hc']
  exact (hQ _ _ L hw hp (hH.stop fun d u v h1 h2=>by omega)).1
theorem call203 (m:Nat) (ho:∀ args w,ov 203 args w=none) (h:SW ov C V sz cI fv fc) (n c:Nat) (hn:n≤200) (f lo hi:Nat) (hf:f + hi≤n) (hlo:lo≤200) (B:Nat) (L:List α) (hL:L.length=n) (hH:Heap (fun x y=>cI x y < 0) L f (lo + 1) hi) (w:AW) (hl:w.lim≤B) (hB:w.heap.get B=some (.cells (L.flatMap C) 9 false)) :
  ∃ x w',(run Tryz.prog ov (m + 2)).call 203 [.slice (some ⟨B,0,none⟩) n c,.int .i64 (lo:Int),.int .i64 (hi:Int),.int .i64 (f:Int),fv] w .none=.ok (.ret x) w' .none∧x=.tuple ⟨[]⟩∧∃ L',LeftW C w w' B f (f + hi) L L'∧Heap (fun x y=>cI x y < 0) L' f lo hi:=by
 refine call_wp text203 (by simp) (ho _ _) ?_
 obtain ⟨za,hza⟩:∃ k:Int,k=(lo:Int):=⟨_,rfl⟩
 rw [← hza]
 simp [mc203]
 refine wp_blockX (siftW m h n c hn f lo hi hf hlo B w hl L hL hH _ _ _ (InS.refl hB) ?_ ?_ ?_ ?_ ?_ ?_)
 case _=>simp
 case _=>simp
 case _=>simp
 case _=>simp
 case _=>simp [hza]
 case _ =>
  intro t w' L' hw hp hh
  simp [tupV]
  exact ⟨L',⟨hw,hp⟩,hh⟩
end
section
variable {α:Type} {C:α→List Value} {V:α→Value} {sz:Nat} {cI:α→α→Int} {fv:Value} {fc:FuncId} {ov:Ov}
set_option maxHeartbeats 2000000 in
theorem heap1W (m:Nat) (h:SW ov C V sz cI fv fc) (n c:Nat) (hn:n≤200) (a b:Nat) (hab:a < b) (hbn:b≤n) (B:Nat) (w0:AW) (hl:w0.lim≤B) (L0:List α) (hL0:L0.length=n) (ho:∀ args w,ov 203 args w=none)
  (Q:Ex→Tm→AW→Prop) (t:Tm) (w:AW) (hw:InW C w0 B L0 w)
  (t0:tget t 0=.slice (some ⟨B,0,none⟩) n c) (t3:tget t 3=fv) (t8:tget t 8=.int .i64 (a:Nat)) (t9:tget t 9=.int .i64 0) (t10:tget t 10=.int .i64 ((b - a:Nat):Int)) (k0:Nat) (hk0:k0≤b - a) (hK:Heap (fun x y=>cI x y < 0) L0 a k0 (b - a)) (t11:tget t 11=.int .i64 ((k0:Int) - 1))
  (hQ:∀ t w L,InW C w0 B L w→Mv a b L0 L→Heap (fun x y=>cI x y < 0) L a 0 (b - a)→tget t 0=.slice (some ⟨B,0,none⟩) n c→tget t 3=fv→tget t 8=.int .i64 (a:Nat)→tget t 9=.int .i64 0→tget t 10=.int .i64 ((b - a:Nat):Int)→Q (.exit 0) t w) :
  wp (exM Tryz.prog (run Tryz.prog ov (m + 2)) (.loop mc186_l0) t w) Q:=by
 refine wp_rounds (fun r t w=>∃ L k,InW C w0 B L w∧Mv a b L0 L∧k + r=k0∧Heap (fun x y=>cI x y < 0) L a k (b - a)∧tget t 0=.slice (some ⟨B,0,none⟩) n c∧tget t 3=fv∧tget t 8=.int .i64 (a:Nat)∧tget t 9=.int .i64 0∧tget t 10=.int .i64 ((b - a:Nat):Int)∧tget t 11=.int .i64 ((k:Int) - 1)) 300 (by decide) ⟨L0,k0,hw,Mv.refl _ _ _,rfl,hK,t0,t3,t8,t9,t10,t11⟩ ?_
 clear t0 t3 t8 t9 t10 t11 hw
 rintro r t w ⟨L,k,hw,hp,hk,hH,t0,t3,t8,t9,t10,t11⟩
 have hlen:L.length=n:=by rw [hp.len,hL0]
 have hlm:=hw.lim
 obtain ⟨za,hza⟩:∃ k:Int,k=(a:Int):=⟨_,rfl⟩
 obtain ⟨zh,hzh⟩:∃ k:Int,k=((b - a:Nat):Int):=⟨_,rfl⟩
 rw [← hza] at t8
 rw [← hzh] at t10
 rcases Nat.eq_zero_or_pos k with rfl | hpos
 ·have e:((0:Nat):Int) - 1 = -1:=rfl
  rw [e] at t11
  simp [mc186_l0,t11]
  exact hQ _ _ L hw hp hH (by simp [t0]) (by simp [t3]) (by simp [t8,hza]) (by simp [t9]) (by simp [t10,hzh])
 ·obtain ⟨zk,hzk⟩:∃ z:Int,z=((k - 1:Nat):Int):=⟨_,rfl⟩
  have e1:(k:Int) - 1=zk:=by omega
  rw [e1] at t11
  have hge:0≤zk:=by omega
  have e2:IntKind.wrap .i64 (zk - 1)=((k - 1:Nat):Int) - 1:=by rw [w6i (by omega) (by omega)]; omega
  obtain ⟨_,w',hc,rfl,L',⟨hi,hm⟩,hh⟩:=call203 m ho h n c hn a (k - 1) (b - a) (by omega) (by omega) B L hlen (by rw [show k - 1 + 1=k by omega]; exact hH) w (by omega) hw.row
  rw [← hzk,← hzh,← hza] at hc
  simp [mc186_l0,t0,t3,t8,t10,t11,hge,hc,e2]
  exact ⟨by omega,L',hw.trans hi,hp.trans (hm.widen (Nat.le_refl _) (by omega)),k - 1,by omega,hh,by simp [t9,hza,hzh]⟩
set_option maxHeartbeats 2000000 in
theorem heap2W (m:Nat) (h:SW ov C V sz cI fv fc) (n c:Nat) (hn:n≤200) (a b:Nat) (hab:a < b) (hbn:b≤n) (B:Nat) (w0:AW) (hl:w0.lim≤B) (L0:List α) (hL0:L0.length=n) (ho:∀ args w,ov 203 args w=none) (hH:Heap (fun x y=>cI x y < 0) L0 a 0 (b - a))
  (Q:Ex→Tm→AW→Prop) (t:Tm) (w:AW) (hw:InW C w0 B L0 w)
  (t0:tget t 0=.slice (some ⟨B,0,none⟩) n c) (t3:tget t 3=fv) (t8:tget t 8=.int .i64 (a:Nat)) (t9:tget t 9=.int .i64 0) (t12:tget t 12=.int .i64 (((b - a:Nat):Int) - 1))
  (hQ:∀ t w L,InW C w0 B L w→Mv a b L0 L→Srt (fun x y=>cI x y < 0) L a b→Q (.exit 2) t w) :
  wp (exM Tryz.prog (run Tryz.prog ov (m + 2)) (.loop mc186_l1) t w) Q:=by
 refine wp_rounds (fun r t w=>∃ L k,InW C w0 B L w∧Mv a b L0 L∧k + r=b - a∧Heap (fun x y=>cI x y < 0) L a 0 k∧Srt (fun x y=>cI x y < 0) L (a + k) b∧Crs cI L a (a + k) b∧tget t 0=.slice (some ⟨B,0,none⟩) n c∧tget t 3=fv∧tget t 8=.int .i64 (a:Nat)∧tget t 9=.int .i64 0∧tget t 12=.int .i64 ((k:Int) - 1)) 300 (by decide) ⟨L0,b - a,hw,Mv.refl _ _ _,rfl,hH,Srt.one _ (by omega),fun p q x y h1 h2 h3 h4=>by omega,t0,t3,t8,t9,t12⟩ ?_
 clear t0 t3 t8 t9 t12 hw
 rintro r t w ⟨L,k,hw,hp,hk,hH,hS,hC,t0,t3,t8,t9,t12⟩
 have hlen:L.length=n:=by rw [hp.len,hL0]
 have hlm:=hw.lim
 obtain ⟨za,hza⟩:∃ k:Int,k=(a:Int):=⟨_,rfl⟩
 rw [← hza] at t8
 rcases Nat.eq_zero_or_pos k with rfl | hpos
 ·have e:((0:Nat):Int) - 1 = -1:=rfl
  rw [e] at t12
  simp [mc186_l1,t12]
  exact hQ _ _ L hw hp hS
 ·obtain ⟨i,rfl⟩:∃ i,k=i + 1:=⟨k - 1,by omega⟩
  obtain ⟨zk,hzk⟩:∃ z:Int,z=(i:Int):=⟨_,rfl⟩
  obtain ⟨zm,hzm⟩:∃ z:Int,z=((a + i:Nat):Int):=⟨_,rfl⟩
  have e1:((i + 1:Nat):Int) - 1=zk:=by omega
  rw [e1] at t12
  have hge:0≤zk:=by omega
  have e2:IntKind.wrap .i64 (zk - 1)=(i:Int) - 1:=by rw [w6i (by omega) (by omega)]; omega
  have e3:IntKind.wrap .i64 (za + zk)=zm:=by rw [w6i (by omega) (by omega)]; omega
  obtain ⟨x,hx⟩:=at_get (L:=L) (i:=a) (by omega)
  obtain ⟨y,hy⟩:=at_get (L:=L) (i:=a + i) (by omega)
  have ixa:=h.ix (k:=a) (n:=n) (by omega) hza B c
  have ixm:=h.ix (k:=a + i) (n:=n) (by omega) hzm B c
  have lda:=h.ld hw hx
  have ldm:=h.ld hw hy
  obtain ⟨w1,w2,s1,s2,hw2⟩:=InS.swap h.T hw hl hx hy
  have hlm2:=hw2.lim
  obtain ⟨g1,g2,g3⟩:=Heap.take h.wk (f:=a) (i:=i) (n:=b - a) hH hx hy (by omega) (by omega) (by rw [show a + i + 1=a + (i + 1) by omega,show a + (b - a)=b by omega]; exact hS) (fun p q u v h1 h2 h3 h4 hu hv=>hC p q u v h1 (by omega) (by omega) (by omega) hu hv)
  obtain ⟨_,w',hc,rfl,L',⟨hi,hm⟩,hh⟩:=call203 m ho h n c hn a 0 i (by omega) (by omega) B (swp L a (a + i) x y) (by simp [hlen]) g1 w2 (by omega) hw2.row
  rw [← hzk,← hza] at hc
  rw [show a + (b - a)=b by omega] at g2 g3
  simp only [Int.natCast_zero] at hc
  simp [mc186_l1,t0,t3,t8,t9,t12,hge,hc,e2,e3,ixa,ixm,lda,ldm,s1,s2, -ld9, -st9]
  exact ⟨by omega,L',hw2.trans hi,(hp.trans (Mv.swap hx hy (by omega) (by omega) (by omega) (by omega))).trans (hm.widen (Nat.le_refl _) (by omega)),i,by omega,hh,g2.out hm (.inr (Nat.le_refl _)),(show Crs cI (swp L a (a + i) x y) a (a + i) b from g3).mv_left hm,by simp [t9,hza]⟩
theorem call186 (m:Nat) (ho:∀ args w,ov 186 args w=none) (ho2:∀ args w,ov 203 args w=none) (h:SW ov C V sz cI fv fc) (n c:Nat) (hn:n≤200) (a b:Nat) (hab:a < b) (hbn:b≤n) (B:Nat) (L:List α) (hL:L.length=n) (w:AW) (hl:w.lim≤B) (hB:w.heap.get B=some (.cells (L.flatMap C) 9 false)) :
  ∃ x w',(run Tryz.prog ov (m + 3)).call 186 [.slice (some ⟨B,0,none⟩) n c,.int .i64 (a:Int),.int .i64 (b:Int),fv] w .none=.ok (.ret x) w' .none∧x=.tuple ⟨[]⟩∧∃ L',LeftW C w w' B a b L L'∧Srt (fun x y=>cI x y < 0) L' a b:=by
 refine call_wp text186 (by simp) (ho _ _) ?_
 obtain ⟨za,hza⟩:∃ k:Int,k=(a:Int):=⟨_,rfl⟩
 obtain ⟨zb,hzb⟩:∃ k:Int,k=(b:Int):=⟨_,rfl⟩
 obtain ⟨zh,hzh⟩:∃ k:Int,k=((b - a:Nat):Int):=⟨_,rfl⟩
 have w1:IntKind.wrap .i64 (zb - za)=zh:=by rw [w6i (by omega) (by omega)]; omega
 have w2:IntKind.wrap .i64 (zh - 1)=zh - 1:=w6i (by omega) (by omega)
 have w3:IntKind.wrap .i64 ((zh - 1).tdiv 2)=(((b - a - 1) / 2 + 1:Nat):Int) - 1:=by
  rw [Int.tdiv_eq_ediv_of_nonneg (by omega),w6i (by omega) (by omega)]
  omega
 rw [← hza,← hzb]
 simp [mc186,w1,w2,w3,bin_quo]
 refine wp_seqX (wp_blockX (heap1W m h n c hn a b hab hbn B w hl L hL ho2 _ _ _ (InS.refl hB) ?_ ?_ ?_ ?_ ?_ ((b - a - 1) / 2 + 1) (by omega) (Heap.half _ (by omega)) ?_ ?_))
 case _=>simp
 case _=>simp
 case _=>simp [hza]
 case _=>simp
 case _=>simp [hzh]
 case _=>simp
 case _ =>
  intro t w' L' hw hp hh s0 s3 s8 s9 s10
  rw [← hzh] at s10
  simp [s10,w2]
  have hlm:=hw.lim
  refine wp_blockX (heap2W m h n c hn a b hab hbn B w hl L' (by rw [hp.len,hL]) ho2 hh _ _ _ hw ?_ ?_ ?_ ?_ ?_ ?_)
  case _=>simp [s0]
  case _=>simp [s3]
  case _=>simp [s8]
  case _=>simp [s9]
  case _=>simp [hzh]
  case _ =>
   intro t w'' L'' hw'' hp'' hs
   simp [tupV]
   exact ⟨L'',⟨hw'',hp.trans hp''⟩,hs⟩
end
section
variable {α:Type} {C:α→List Value} {V:α→Value} {sz:Nat} {cI:α→α→Int} {fv:Value} {fc:FuncId} {ov:Ov}
set_option maxHeartbeats 2000000 in
theorem par0W (m:Nat) (h:SW ov C V sz cI fv fc) (n c:Nat) (hn:n≤200) (a b:Nat) (hab:a≤b) (hbn:b≤n) (B:Nat) (w0:AW) (hl:w0.lim≤B) (L0:List α) (hL0:L0.length=n) (p:α) (ha:L0[a]?=some p) (i j:Nat) (hi:a < i) (hij:i≤j + 1) (hj:j < n)
  (Q:Ex→Tm→AW→Prop) (t:Tm) (w:AW) (hw:InW C w0 B L0 w)
  (t0:tget t 0=.slice (some ⟨B,0,none⟩) n c) (t1:tget t 1=.int .i64 (a:Nat)) (t4:tget t 4=fv) (ti:tget t 12=.int .i64 (i:Nat)) (tj:tget t 13=.int .i64 (j:Nat))
  (hQ:∀ t k,i≤k→k≤j + 1→All (LtP cI p) L0 i k→(∀ x,k≤j→L0[k]?=some x→¬ LtP cI p x)→tget t 0=.slice (some ⟨B,0,none⟩) n c→tget t 1=.int .i64 (a:Nat)→tget t 4=fv→tget t 12=.int .i64 (k:Nat)→tget t 13=.int .i64 (j:Nat)→Q (.exit 0) t w) :
  wp (exM Tryz.prog (run Tryz.prog ov (m + 1)) (.loop mc192_l0) t w) Q:=by
 refine wp_rounds (fun r t w'=>w'=w∧i + r≤j + 1∧All (LtP cI p) L0 i (i + r)∧tget t 0=.slice (some ⟨B,0,none⟩) n c∧tget t 1=.int .i64 (a:Nat)∧tget t 4=fv∧tget t 12=.int .i64 ((i + r:Nat):Int)∧tget t 13=.int .i64 (j:Nat)) 300 (by decide) ⟨rfl,by omega,fun k x h1 h2=>by omega,t0,t1,t4,ti,tj⟩ ?_
 clear t0 t1 t4 ti tj
 rintro r t w' ⟨rfl,hr,hA,t0,t1,t4,ti,tj⟩
 obtain ⟨za,hza⟩:∃ k:Int,k=(a:Int):=⟨_,rfl⟩
 obtain ⟨zi,hzi⟩:∃ k:Int,k=((i + r:Nat):Int):=⟨_,rfl⟩
 obtain ⟨zj,hzj⟩:∃ k:Int,k=(j:Int):=⟨_,rfl⟩
 rw [← hza] at t1
 rw [← hzi] at ti
 rw [← hzj] at tj
 by_cases hle:i + r≤j
 ·have hle':zi≤zj:=by omega
  obtain ⟨x,hx⟩:=at_get (L:=L0) (i:=i + r) (by omega)
  have ixa:=h.ix (k:=a) (n:=n) (by omega) hza B c
  have ixi:=h.ix (k:=i + r) (n:=n) (by omega) hzi B c
  have lda:=h.ld hw ha
  have ldi:=h.ld hw hx
  have cm:=h.cm m w' x p
  have w1:IntKind.wrap .i64 (zi + 1)=((i + (r + 1):Nat):Int):=by rw [w6i (by omega) (by omega)]; omega
  by_cases hc:cI x p < 0
  ·simp [mc192_l0,t0,t1,t4,ti,tj,hle',ixa,ixi,lda,ldi,h.cv,cm,hc,w1, -ld9, -st9]
   exact ⟨by omega,by omega,fun k u h1 h2 h3=>by
    by_cases hk:k=i + r
    ·subst hk; rw [hx] at h3; cases h3; exact hc
    ·exact hA k u h1 (by omega) h3,by omega,by omega⟩
  ·simp [mc192_l0,t0,t1,t4,ti,tj,hle',ixa,ixi,lda,ldi,h.cv,cm,hc,w1, -ld9, -st9]
   exact hQ _ (i + r) (by omega) (by omega) hA (fun u h1 h2=>by rw [hx] at h2; cases h2; exact hc) (by simp [t0]) (by simp [t1,hza]) (by simp [t4]) (by simp [ti,hzi]) (by simp [tj,hzj])
 ·have hle':¬ zi≤zj:=by omega
  simp [mc192_l0,t0,t1,t4,ti,tj,hle']
  exact hQ _ (i + r) (by omega) (by omega) hA (fun x h1=>absurd h1 hle) (by simp [t0]) (by simp [t1,hza]) (by simp [t4]) (by simp [ti,hzi]) (by simp [tj,hzj])
set_option maxHeartbeats 2000000 in
theorem par1W (m:Nat) (h:SW ov C V sz cI fv fc) (n c:Nat) (hn:n≤200) (a b:Nat) (hab:a≤b) (hbn:b≤n) (B:Nat) (w0:AW) (hl:w0.lim≤B) (L0:List α) (hL0:L0.length=n) (p:α) (ha:L0[a]?=some p) (i j:Nat) (hi:a < i) (hij:i≤j + 1) (hj:j < n)
  (Q:Ex→Tm→AW→Prop) (t:Tm) (w:AW) (hw:InW C w0 B L0 w)
  (t0:tget t 0=.slice (some ⟨B,0,none⟩) n c) (t1:tget t 1=.int .i64 (a:Nat)) (t4:tget t 4=fv) (ti:tget t 12=.int .i64 (i:Nat)) (tj:tget t 13=.int .i64 (j:Nat))
  (hQ:∀ t k,i≤k + 1→k≤j→All (GeP cI p) L0 (k + 1) (j + 1)→(∀ x,i≤k→L0[k]?=some x→¬ GeP cI p x)→tget t 0=.slice (some ⟨B,0,none⟩) n c→tget t 1=.int .i64 (a:Nat)→tget t 4=fv→tget t 12=.int .i64 (i:Nat)→tget t 13=.int .i64 (k:Nat)→Q (.exit 2) t w) :
  wp (exM Tryz.prog (run Tryz.prog ov (m + 1)) (.loop mc192_l1) t w) Q:=by
 refine wp_rounds (fun r t w'=>∃ k,w'=w∧k + r=j∧i≤k + 1∧All (GeP cI p) L0 (k + 1) (j + 1)∧tget t 0=.slice (some ⟨B,0,none⟩) n c∧tget t 1=.int .i64 (a:Nat)∧tget t 4=fv∧tget t 12=.int .i64 (i:Nat)∧tget t 13=.int .i64 (k:Nat)) 300 (by decide) ⟨j,rfl,rfl,hij,fun k x h1 h2=>by omega,t0,t1,t4,ti,tj⟩ ?_
 clear t0 t1 t4 ti tj
 rintro r t w' ⟨k,rfl,hr,hik,hA,t0,t1,t4,ti,tj⟩
 obtain ⟨za,hza⟩:∃ k:Int,k=(a:Int):=⟨_,rfl⟩
 obtain ⟨zi,hzi⟩:∃ k:Int,k=(i:Int):=⟨_,rfl⟩
 obtain ⟨zj,hzj⟩:∃ z:Int,z=(k:Int):=⟨_,rfl⟩
 rw [← hza] at t1
 rw [← hzi] at ti
 rw [← hzj] at tj
 by_cases hle:i≤k
 ·have hle':zi≤zj:=by omega
  obtain ⟨x,hx⟩:=at_get (L:=L0) (i:=k) (by omega)
  have ixa:=h.ix (k:=a) (n:=n) (by omega) hza B c
  have ixi:=h.ix (k:=k) (n:=n) (by omega) hzj B c
  have lda:=h.ld hw ha
  have ldi:=h.ld hw hx
  have cm:=h.cm m w' x p
  have w1:IntKind.wrap .i64 (zj - 1)=((k - 1:Nat):Int):=by rw [w6i (by omega) (by omega)]; omega
  by_cases hc:cI x p < 0
  ·simp [mc192_l1,t0,t1,t4,ti,tj,hle',ixa,ixi,lda,ldi,h.cv,cm,hc,w1, -ld9, -st9]
   exact hQ _ k (by omega) (by omega) hA (fun u h1 h2=>by rw [hx] at h2; cases h2; exact fun hh=>hh hc) (by simp [t0]) (by simp [t1,hza]) (by simp [t4]) (by simp [ti,hzi]) (by simp [tj,hzj])
  ·simp [mc192_l1,t0,t1,t4,ti,tj,hle',ixa,ixi,lda,ldi,h.cv,cm,hc,w1, -ld9, -st9]
   exact ⟨by omega,k - 1,by omega,by omega,fun q u h1 h2 h3=>by
    by_cases hk:q=k
    ·subst hk; rw [hx] at h3; cases h3; exact hc
    ·exact hA q u (by omega) h2 h3,by omega⟩
 ·have hle':¬ zi≤zj:=by omega
  simp [mc192_l1,t0,t1,t4,ti,tj,hle']
  exact hQ _ k (by omega) (by omega) hA (fun x h1=>absurd h1 hle) (by simp [t0]) (by simp [t1,hza]) (by simp [t4]) (by simp [ti,hzi]) (by simp [tj,hzj])
set_option maxHeartbeats 2000000 in
theorem par3W (m:Nat) (h:SW ov C V sz cI fv fc) (n c:Nat) (hn:n≤200) (a b:Nat) (hab:a≤b) (hbn:b≤n) (B:Nat) (w0:AW) (hl:w0.lim≤B) (L0:List α) (hL0:L0.length=n) (p:α) (ha:L0[a]?=some p) (i j:Nat) (hi:a < i) (hij:i≤j + 1) (hj:j < n)
  (Q:Ex→Tm→AW→Prop) (t:Tm) (w:AW) (hw:InW C w0 B L0 w)
  (t0:tget t 0=.slice (some ⟨B,0,none⟩) n c) (t1:tget t 1=.int .i64 (a:Nat)) (t4:tget t 4=fv) (ti:tget t 12=.int .i64 (i:Nat)) (tj:tget t 13=.int .i64 (j:Nat))
  (hQ:∀ t k,i≤k→k≤j + 1→All (LtP cI p) L0 i k→(∀ x,k≤j→L0[k]?=some x→¬ LtP cI p x)→tget t 0=.slice (some ⟨B,0,none⟩) n c→tget t 1=.int .i64 (a:Nat)→tget t 4=fv→tget t 12=.int .i64 (k:Nat)→tget t 13=.int .i64 (j:Nat)→Q (.exit 6) t w) :
  wp (exM Tryz.prog (run Tryz.prog ov (m + 1)) (.loop mc192_l3) t w) Q:=by
 refine wp_rounds (fun r t w'=>w'=w∧i + r≤j + 1∧All (LtP cI p) L0 i (i + r)∧tget t 0=.slice (some ⟨B,0,none⟩) n c∧tget t 1=.int .i64 (a:Nat)∧tget t 4=fv∧tget t 12=.int .i64 ((i + r:Nat):Int)∧tget t 13=.int .i64 (j:Nat)) 300 (by decide) ⟨rfl,by omega,fun k x h1 h2=>by omega,t0,t1,t4,ti,tj⟩ ?_
 clear t0 t1 t4 ti tj
 rintro r t w' ⟨rfl,hr,hA,t0,t1,t4,ti,tj⟩
 obtain ⟨za,hza⟩:∃ k:Int,k=(a:Int):=⟨_,rfl⟩
 obtain ⟨zi,hzi⟩:∃ k:Int,k=((i + r:Nat):Int):=⟨_,rfl⟩
 obtain ⟨zj,hzj⟩:∃ k:Int,k=(j:Int):=⟨_,rfl⟩
 rw [← hza] at t1
 rw [← hzi] at ti
 rw [← hzj] at tj
 by_cases hle:i + r≤j
 ·have hle':zi≤zj:=by omega
  obtain ⟨x,hx⟩:=at_get (L:=L0) (i:=i + r) (by omega)
  have ixa:=h.ix (k:=a) (n:=n) (by omega) hza B c
  have ixi:=h.ix (k:=i + r) (n:=n) (by omega) hzi B c
  have lda:=h.ld hw ha
  have ldi:=h.ld hw hx
  have cm:=h.cm m w' x p
  have w1:IntKind.wrap .i64 (zi + 1)=((i + (r + 1):Nat):Int):=by rw [w6i (by omega) (by omega)]; omega
  by_cases hc:cI x p < 0
  ·simp [mc192_l3,t0,t1,t4,ti,tj,hle',ixa,ixi,lda,ldi,h.cv,cm,hc,w1, -ld9, -st9]
   exact ⟨by omega,by omega,fun k u h1 h2 h3=>by
    by_cases hk:k=i + r
    ·subst hk; rw [hx] at h3; cases h3; exact hc
    ·exact hA k u h1 (by omega) h3,by omega,by omega⟩
  ·simp [mc192_l3,t0,t1,t4,ti,tj,hle',ixa,ixi,lda,ldi,h.cv,cm,hc,w1, -ld9, -st9]
   exact hQ _ (i + r) (by omega) (by omega) hA (fun u h1 h2=>by rw [hx] at h2; cases h2; exact hc) (by simp [t0]) (by simp [t1,hza]) (by simp [t4]) (by simp [ti,hzi]) (by simp [tj,hzj])
 ·have hle':¬ zi≤zj:=by omega
  simp [mc192_l3,t0,t1,t4,ti,tj,hle']
  exact hQ _ (i + r) (by omega) (by omega) hA (fun x h1=>absurd h1 hle) (by simp [t0]) (by simp [t1,hza]) (by simp [t4]) (by simp [ti,hzi]) (by simp [tj,hzj])
set_option maxHeartbeats 2000000 in
theorem par4W (m:Nat) (h:SW ov C V sz cI fv fc) (n c:Nat) (hn:n≤200) (a b:Nat) (hab:a≤b) (hbn:b≤n) (B:Nat) (w0:AW) (hl:w0.lim≤B) (L0:List α) (hL0:L0.length=n) (p:α) (ha:L0[a]?=some p) (i j:Nat) (hi:a < i) (hij:i≤j + 1) (hj:j < n)
  (Q:Ex→Tm→AW→Prop) (t:Tm) (w:AW) (hw:InW C w0 B L0 w)
  (t0:tget t 0=.slice (some ⟨B,0,none⟩) n c) (t1:tget t 1=.int .i64 (a:Nat)) (t4:tget t 4=fv) (ti:tget t 12=.int .i64 (i:Nat)) (tj:tget t 13=.int .i64 (j:Nat))
  (hQ:∀ t k,i≤k + 1→k≤j→All (GeP cI p) L0 (k + 1) (j + 1)→(∀ x,i≤k→L0[k]?=some x→¬ GeP cI p x)→tget t 0=.slice (some ⟨B,0,none⟩) n c→tget t 1=.int .i64 (a:Nat)→tget t 4=fv→tget t 12=.int .i64 (i:Nat)→tget t 13=.int .i64 (k:Nat)→Q (.exit 8) t w) :
  wp (exM Tryz.prog (run Tryz.prog ov (m + 1)) (.loop mc192_l4) t w) Q:=by
 refine wp_rounds (fun r t w'=>∃ k,w'=w∧k + r=j∧i≤k + 1∧All (GeP cI p) L0 (k + 1) (j + 1)∧tget t 0=.slice (some ⟨B,0,none⟩) n c∧tget t 1=.int .i64 (a:Nat)∧tget t 4=fv∧tget t 12=.int .i64 (i:Nat)∧tget t 13=.int .i64 (k:Nat)) 300 (by decide) ⟨j,rfl,rfl,hij,fun k x h1 h2=>by omega,t0,t1,t4,ti,tj⟩ ?_
 clear t0 t1 t4 ti tj
 rintro r t w' ⟨k,rfl,hr,hik,hA,t0,t1,t4,ti,tj⟩
 obtain ⟨za,hza⟩:∃ k:Int,k=(a:Int):=⟨_,rfl⟩
 obtain ⟨zi,hzi⟩:∃ k:Int,k=(i:Int):=⟨_,rfl⟩
 obtain ⟨zj,hzj⟩:∃ z:Int,z=(k:Int):=⟨_,rfl⟩
 rw [← hza] at t1
 rw [← hzi] at ti
 rw [← hzj] at tj
 by_cases hle:i≤k
 ·have hle':zi≤zj:=by omega
  obtain ⟨x,hx⟩:=at_get (L:=L0) (i:=k) (by omega)
  have ixa:=h.ix (k:=a) (n:=n) (by omega) hza B c
  have ixi:=h.ix (k:=k) (n:=n) (by omega) hzj B c
  have lda:=h.ld hw ha
  have ldi:=h.ld hw hx
  have cm:=h.cm m w' x p
  have w1:IntKind.wrap .i64 (zj - 1)=((k - 1:Nat):Int):=by rw [w6i (by omega) (by omega)]; omega
  by_cases hc:cI x p < 0
  ·simp [mc192_l4,t0,t1,t4,ti,tj,hle',ixa,ixi,lda,ldi,h.cv,cm,hc,w1, -ld9, -st9]
   exact hQ _ k (by omega) (by omega) hA (fun u h1 h2=>by rw [hx] at h2; cases h2; exact fun hh=>hh hc) (by simp [t0]) (by simp [t1,hza]) (by simp [t4]) (by simp [ti,hzi]) (by simp [tj,hzj])
  ·simp [mc192_l4,t0,t1,t4,ti,tj,hle',ixa,ixi,lda,ldi,h.cv,cm,hc,w1, -ld9, -st9]
   exact ⟨by omega,k - 1,by omega,by omega,fun q u h1 h2 h3=>by
    by_cases hk:q=k
    ·subst hk; rw [hx] at h3; cases h3; exact hc
    ·exact hA q u (by omega) h2 h3,by omega⟩
 ·have hle':¬ zi≤zj:=by omega
  simp [mc192_l4,t0,t1,t4,ti,tj,hle']
  exact hQ _ k (by omega) (by omega) hA (fun x h1=>absurd h1 hle) (by simp [t0]) (by simp [t1,hza]) (by simp [t4]) (by simp [ti,hzi]) (by simp [tj,hzj])
set_option maxHeartbeats 2000000 in
theorem peq1W (m:Nat) (h:SW ov C V sz cI fv fc) (n c:Nat) (hn:n≤200) (a b:Nat) (hab:a≤b) (hbn:b≤n) (B:Nat) (w0:AW) (hl:w0.lim≤B) (L0:List α) (hL0:L0.length=n) (p:α) (ha:L0[a]?=some p) (i j:Nat) (hi:a < i) (hij:i≤j + 1) (hj:j < n)
  (Q:Ex→Tm→AW→Prop) (t:Tm) (w:AW) (hw:InW C w0 B L0 w)
  (t0:tget t 0=.slice (some ⟨B,0,none⟩) n c) (t1:tget t 1=.int .i64 (a:Nat)) (t4:tget t 4=fv) (ti:tget t 11=.int .i64 (i:Nat)) (tj:tget t 12=.int .i64 (j:Nat))
  (hQ:∀ t k,i≤k→k≤j + 1→All (LeP cI p) L0 i k→(∀ x,k≤j→L0[k]?=some x→¬ LeP cI p x)→tget t 0=.slice (some ⟨B,0,none⟩) n c→tget t 1=.int .i64 (a:Nat)→tget t 4=fv→tget t 11=.int .i64 (k:Nat)→tget t 12=.int .i64 (j:Nat)→Q (.exit 2) t w) :
  wp (exM Tryz.prog (run Tryz.prog ov (m + 1)) (.loop mc191_l1) t w) Q:=by
 refine wp_rounds (fun r t w'=>w'=w∧i + r≤j + 1∧All (LeP cI p) L0 i (i + r)∧tget t 0=.slice (some ⟨B,0,none⟩) n c∧tget t 1=.int .i64 (a:Nat)∧tget t 4=fv∧tget t 11=.int .i64 ((i + r:Nat):Int)∧tget t 12=.int .i64 (j:Nat)) 300 (by decide) ⟨rfl,by omega,fun k x h1 h2=>by omega,t0,t1,t4,ti,tj⟩ ?_
 clear t0 t1 t4 ti tj
 rintro r t w' ⟨rfl,hr,hA,t0,t1,t4,ti,tj⟩
 obtain ⟨za,hza⟩:∃ k:Int,k=(a:Int):=⟨_,rfl⟩
 obtain ⟨zi,hzi⟩:∃ k:Int,k=((i + r:Nat):Int):=⟨_,rfl⟩
 obtain ⟨zj,hzj⟩:∃ k:Int,k=(j:Int):=⟨_,rfl⟩
 rw [← hza] at t1
 rw [← hzi] at ti
 rw [← hzj] at tj
 by_cases hle:i + r≤j
 ·have hle':zi≤zj:=by omega
  obtain ⟨x,hx⟩:=at_get (L:=L0) (i:=i + r) (by omega)
  have ixa:=h.ix (k:=a) (n:=n) (by omega) hza B c
  have ixi:=h.ix (k:=i + r) (n:=n) (by omega) hzi B c
  have lda:=h.ld hw ha
  have ldi:=h.ld hw hx
  have cm:=h.cm m w' p x
  have w1:IntKind.wrap .i64 (zi + 1)=((i + (r + 1):Nat):Int):=by rw [w6i (by omega) (by omega)]; omega
  by_cases hc:cI p x < 0
  ·simp [mc191_l1,t0,t1,t4,ti,tj,hle',ixa,ixi,lda,ldi,h.cv,cm,hc,w1, -ld9, -st9]
   exact hQ _ (i + r) (by omega) (by omega) hA (fun u h1 h2=>by rw [hx] at h2; cases h2; exact fun hh=>hh hc) (by simp [t0]) (by simp [t1,hza]) (by simp [t4]) (by simp [ti,hzi]) (by simp [tj,hzj])
  ·simp [mc191_l1,t0,t1,t4,ti,tj,hle',ixa,ixi,lda,ldi,h.cv,cm,hc,w1, -ld9, -st9]
   exact ⟨by omega,by omega,fun k u h1 h2 h3=>by
    by_cases hk:k=i + r
    ·subst hk; rw [hx] at h3; cases h3; exact hc
    ·exact hA k u h1 (by omega) h3,by omega,by omega⟩
 ·have hle':¬ zi≤zj:=by omega
  simp [mc191_l1,t0,t1,t4,ti,tj,hle']
  exact hQ _ (i + r) (by omega) (by omega) hA (fun x h1=>absurd h1 hle) (by simp [t0]) (by simp [t1,hza]) (by simp [t4]) (by simp [ti,hzi]) (by simp [tj,hzj])
set_option maxHeartbeats 2000000 in
theorem peq2W (m:Nat) (h:SW ov C V sz cI fv fc) (n c:Nat) (hn:n≤200) (a b:Nat) (hab:a≤b) (hbn:b≤n) (B:Nat) (w0:AW) (hl:w0.lim≤B) (L0:List α) (hL0:L0.length=n) (p:α) (ha:L0[a]?=some p) (i j:Nat) (hi:a < i) (hij:i≤j + 1) (hj:j < n)
  (Q:Ex→Tm→AW→Prop) (t:Tm) (w:AW) (hw:InW C w0 B L0 w)
  (t0:tget t 0=.slice (some ⟨B,0,none⟩) n c) (t1:tget t 1=.int .i64 (a:Nat)) (t4:tget t 4=fv) (ti:tget t 11=.int .i64 (i:Nat)) (tj:tget t 12=.int .i64 (j:Nat))
  (hQ:∀ t k,i≤k + 1→k≤j→All (GtP cI p) L0 (k + 1) (j + 1)→(∀ x,i≤k→L0[k]?=some x→¬ GtP cI p x)→tget t 0=.slice (some ⟨B,0,none⟩) n c→tget t 1=.int .i64 (a:Nat)→tget t 4=fv→tget t 11=.int .i64 (i:Nat)→tget t 12=.int .i64 (k:Nat)→Q (.exit 4) t w) :
  wp (exM Tryz.prog (run Tryz.prog ov (m + 1)) (.loop mc191_l2) t w) Q:=by
 refine wp_rounds (fun r t w'=>∃ k,w'=w∧k + r=j∧i≤k + 1∧All (GtP cI p) L0 (k + 1) (j + 1)∧tget t 0=.slice (some ⟨B,0,none⟩) n c∧tget t 1=.int .i64 (a:Nat)∧tget t 4=fv∧tget t 11=.int .i64 (i:Nat)∧tget t 12=.int .i64 (k:Nat)) 300 (by decide) ⟨j,rfl,rfl,hij,fun k x h1 h2=>by omega,t0,t1,t4,ti,tj⟩ ?_
 clear t0 t1 t4 ti tj
 rintro r t w' ⟨k,rfl,hr,hik,hA,t0,t1,t4,ti,tj⟩
 obtain ⟨za,hza⟩:∃ k:Int,k=(a:Int):=⟨_,rfl⟩
 obtain ⟨zi,hzi⟩:∃ k:Int,k=(i:Int):=⟨_,rfl⟩
 obtain ⟨zj,hzj⟩:∃ z:Int,z=(k:Int):=⟨_,rfl⟩
 rw [← hza] at t1
 rw [← hzi] at ti
 rw [← hzj] at tj
 by_cases hle:i≤k
 ·have hle':zi≤zj:=by omega
  obtain ⟨x,hx⟩:=at_get (L:=L0) (i:=k) (by omega)
  have ixa:=h.ix (k:=a) (n:=n) (by omega) hza B c
  have ixi:=h.ix (k:=k) (n:=n) (by omega) hzj B c
  have lda:=h.ld hw ha
  have ldi:=h.ld hw hx
  have cm:=h.cm m w' p x
  have w1:IntKind.wrap .i64 (zj - 1)=((k - 1:Nat):Int):=by rw [w6i (by omega) (by omega)]; omega
  by_cases hc:cI p x < 0
  ·simp [mc191_l2,t0,t1,t4,ti,tj,hle',ixa,ixi,lda,ldi,h.cv,cm,hc,w1, -ld9, -st9]
   exact ⟨by omega,k - 1,by omega,by omega,fun q u h1 h2 h3=>by
    by_cases hk:q=k
    ·subst hk; rw [hx] at h3; cases h3; exact hc
    ·exact hA q u (by omega) h2 h3,by omega⟩
  ·simp [mc191_l2,t0,t1,t4,ti,tj,hle',ixa,ixi,lda,ldi,h.cv,cm,hc,w1, -ld9, -st9]
   exact hQ _ k (by omega) (by omega) hA (fun u h1 h2=>by rw [hx] at h2; cases h2; exact hc) (by simp [t0]) (by simp [t1,hza]) (by simp [t4]) (by simp [ti,hzi]) (by simp [tj,hzj])
 ·have hle':¬ zi≤zj:=by omega
  simp [mc191_l2,t0,t1,t4,ti,tj,hle']
  exact hQ _ k (by omega) (by omega) hA (fun x h1=>absurd h1 hle) (by simp [t0]) (by simp [t1,hza]) (by simp [t4]) (by simp [ti,hzi]) (by simp [tj,hzj])
end
section
variable {α:Type} {C:α→List Value} {V:α→Value} {sz:Nat} {cI:α→α→Int} {fv:Value} {fc:FuncId} {ov:Ov}
set_option maxHeartbeats 2000000 in
theorem par2W (m:Nat) (h:SW ov C V sz cI fv fc) (n c:Nat) (hn:n≤200) (a b:Nat) (hab:a≤b) (hbn:b≤n) (B:Nat) (w0:AW) (hl:w0.lim≤B) (L0:List α) (hL0:L0.length=n) (p:α) (ha:L0[a]?=some p) (i j:Nat) (hi:a < i) (hij:i≤j + 1) (hj:j < b) (hA:All (LtP cI p) L0 (a + 1) i) (hG:All (GeP cI p) L0 (j + 1) b)
  (Q:Ex→Tm→AW→Prop) (t:Tm) (w:AW) (hw:InW C w0 B L0 w)
  (t0:tget t 0=.slice (some ⟨B,0,none⟩) n c) (t1:tget t 1=.int .i64 (a:Nat)) (t4:tget t 4=fv) (ti:tget t 12=.int .i64 (i:Nat)) (tj:tget t 13=.int .i64 (j:Nat))
  (hQ:∀ t w L j,InW C w0 B L w→Mv a b L0 L→L[a]?=some p→a≤j→j < b→All (LtP cI p) L (a + 1) (j + 1)→All (GeP cI p) L (j + 1) b→tget t 0=.slice (some ⟨B,0,none⟩) n c→tget t 1=.int .i64 (a:Nat)→tget t 13=.int .i64 (j:Nat)→Q (.exit 4) t w) :
  wp (exM Tryz.prog (run Tryz.prog ov (m + 1)) (.loop mc192_l2) t w) Q:=by
 refine wp_rounds (fun r t w=>∃ L i j,InW C w0 B L w∧Mv a b L0 L∧L[a]?=some p∧a + 1 + r≤i∧i≤j + 1∧j < b∧All (LtP cI p) L (a + 1) i∧All (GeP cI p) L (j + 1) b∧tget t 0=.slice (some ⟨B,0,none⟩) n c∧tget t 1=.int .i64 (a:Nat)∧tget t 4=fv∧tget t 12=.int .i64 (i:Nat)∧tget t 13=.int .i64 (j:Nat)) 300 (by decide) ⟨L0,i,j,hw,Mv.refl _ _ _,ha,by omega,hij,hj,hA,hG,t0,t1,t4,ti,tj⟩ ?_
 clear t0 t1 t4 ti tj hw ha hA hG hij hj hi
 rintro r t w ⟨L,i,j,hw,hp,ha,hr,hij,hj,hA,hG,t0,t1,t4,ti,tj⟩
 have hlen:L.length=n:=by rw [hp.len,hL0]
 simp [mc192_l2]
 refine wp_blockX (wp_seqX (wp_blockX (par3W m h n c hn a b hab hbn B w0 hl L hlen p ha i j (by omega) hij (by omega) _ _ _ hw t0 t1 t4 ti tj ?_)))
 intro t i' hi1 hi2 hA2 hst2 t0 t1 t4 ti tj
 simp
 refine wp_seqX (wp_blockX (par4W m h n c hn a b hab hbn B w0 hl L hlen p ha i' j (by omega) hi2 (by omega) _ _ _ hw t0 t1 t4 ti tj ?_))
 intro t j' hj1 hj2 hG2 hst3 t0 t1 t4 ti tj
 have hA3:All (LtP cI p) L (a + 1) i':=fun k z h1 h2 hz=>by
  by_cases hk:k < i
  ·exact hA k z h1 hk hz
  ·exact hA2 k z (by omega) h2 hz
 have hG3:All (GeP cI p) L (j' + 1) b:=fun k z h1 h2 hz=>by
  by_cases hk:k < j + 1
  ·exact hG2 k z h1 hk hz
  ·exact hG k z (by omega) h2 hz
 obtain ⟨zi,hzi⟩:∃ k:Int,k=(i':Int):=⟨_,rfl⟩
 obtain ⟨zj,hzj⟩:∃ k:Int,k=(j':Int):=⟨_,rfl⟩
 rw [← hzi] at ti
 rw [← hzj] at tj
 by_cases hle:i'≤j'
 ·have hle':¬ zj < zi:=by omega
  obtain ⟨x,hx⟩:=at_get (L:=L) (i:=i') (by omega)
  obtain ⟨y,hy⟩:=at_get (L:=L) (i:=j') (by omega)
  have nx:=hst2 x (by omega) hx
  have ny:cI y p < 0:=Classical.byContradiction fun hh=>hst3 y (by omega) hy hh
  have hne:i' ≠ j':=fun e=>by subst e; rw [hx] at hy; cases hy; exact nx ny
  have ixi:=h.ix (k:=i') (n:=n) (by omega) hzi B c
  have ixj:=h.ix (k:=j') (n:=n) (by omega) hzj B c
  have ldi:=h.ld hw hx
  have ldj:=h.ld hw hy
  have w1:IntKind.wrap .i64 (zi + 1)=((i' + 1:Nat):Int):=by rw [w6i (by omega) (by omega)]; omega
  have w2:IntKind.wrap .i64 (zj - 1)=((j' - 1:Nat):Int):=by rw [w6i (by omega) (by omega)]; omega
  obtain ⟨w1',w2',s1,s2,hw2⟩:=InS.swap h.T hw hl hx hy
  simp [t0,t1,t4,ti,tj,hle',ixi,ixj,ldi,ldj,s1,s2,w1,w2, -ld9, -st9]
  refine ⟨by omega,_,hw2,hp.trans (Mv.swap hx hy (by omega) (by omega) (by omega) (by omega)),(swp_keep hx hy (by omega) (by omega)).trans ha,i' + 1,by omega,j' - 1,by omega,by omega,hA3.swp_left hx hy (by omega) ny,?_,by omega,by omega⟩
  rw [show j' - 1 + 1=j' by omega]
  exact hG3.swp_right hx hy (by omega) nx
 ·have hle':zj < zi:=by omega
  have e:i'=j' + 1:=by omega
  simp [t0,t1,t4,ti,tj,hle']
  exact hQ _ _ L j' hw hp ha (by omega) (by omega) (e ▸ hA3) hG3 (by simp [t0]) (by simp [t1]) (by simp [tj,hzj])
set_option maxHeartbeats 4000000 in
theorem call192 (m:Nat) (ho:∀ args w,ov 192 args w=none) (h:SW ov C V sz cI fv fc) (n c:Nat) (hn:n≤200) (a b pv:Nat) (hab:a < b) (hbn:b≤n) (hpa:a≤pv) (hpb:pv < b) (B:Nat) (L:List α) (hL:L.length=n) (w:AW) (hl:w.lim≤B) (hB:w.heap.get B=some (.cells (L.flatMap C) 9 false)) :
  ∃ x w',(run Tryz.prog ov (m + 2)).call 192 [.slice (some ⟨B,0,none⟩) n c,.int .i64 (a:Int),.int .i64 (b:Int),.int .i64 (pv:Int),fv] w .none=.ok (.ret x) w' .none∧∃ L' k p bb,x=.tuple ⟨[.int .i64 (k:Nat),.bool bb]⟩∧LeftW C w w' B a b L L'∧Part cI L' a b k p:=by
 refine call_wp text192 (by simp) (ho _ _) ?_
 obtain ⟨za,hza⟩:∃ k:Int,k=(a:Int):=⟨_,rfl⟩
 obtain ⟨zb,hzb⟩:∃ k:Int,k=(b:Int):=⟨_,rfl⟩
 obtain ⟨zp,hzp⟩:∃ k:Int,k=(pv:Int):=⟨_,rfl⟩
 have e1:IntKind.wrap .i64 (za + 1)=((a + 1:Nat):Int):=by rw [w6i (by omega) (by omega)]; omega
 have e2:IntKind.wrap .i64 (zb - 1)=((b - 1:Nat):Int):=by rw [w6i (by omega) (by omega)]; omega
 obtain ⟨x,hx⟩:=at_get (L:=L) (i:=a) (by omega)
 obtain ⟨p,hp⟩:=at_get (L:=L) (i:=pv) (by omega)
 have hw:InW C w B L w:=InS.refl hB
 have ixa:=h.ix (k:=a) (n:=n) (by omega) hza B c
 have ixp:=h.ix (k:=pv) (n:=n) (by omega) hzp B c
 have lda:=h.ld hw hx
 have ldp:=h.ld hw hp
 obtain ⟨w1,w2,s1,s2,hw2⟩:=InS.swap h.T hw hl hx hp
 have hm1:Mv a b L (swp L a pv x p):=Mv.swap hx hp (by omega) (by omega) (by omega) (by omega)
 have ha1:(swp L a pv x p)[a]?=some p:=swp_first hx hp
 obtain ⟨L1,hL1⟩:∃ L1,L1=swp L a pv x p:=⟨_,rfl⟩
 rw [← hL1] at hw2 hm1 ha1
 have hlen1:L1.length=n:=by rw [hm1.len,hL]
 rw [← hza,← hzb,← hzp]
 simp [mc192,ixa,ixp,lda,ldp,s1,s2,e1,e2, -ld9, -st9]
 refine wp_seqX (wp_blockX (par0W m h n c hn a b (by omega) hbn B w hl L1 hlen1 p ha1 (a + 1) (b - 1) (by omega) (by omega) (by omega) _ _ _ hw2 ?_ ?_ ?_ ?_ ?_ ?_))
 case _=>simp
 case _=>simp [hza]
 case _=>simp
 case _=>simp
 case _=>simp
 intro t i hi1 hi2 hA hst1 t0 t1 t4 ti tj
 simp
 refine wp_seqX (wp_blockX (par1W m h n c hn a b (by omega) hbn B w hl L1 hlen1 p ha1 i (b - 1) (by omega) hi2 (by omega) _ _ _ hw2 t0 t1 t4 ti tj ?_))
 intro t j hj1 hj2 hG hst2 t0 t1 t4 ti tj
 have hG':All (GeP cI p) L1 (j + 1) b:=fun k z h1 h2 hz=>hG k z h1 (by omega) hz
 obtain ⟨zi,hzi⟩:∃ k:Int,k=(i:Int):=⟨_,rfl⟩
 obtain ⟨zj,hzj⟩:∃ k:Int,k=(j:Int):=⟨_,rfl⟩
 rw [← hza] at t1
 rw [← hzi] at ti
 rw [← hzj] at tj
 obtain ⟨y,hy⟩:=at_get (L:=L1) (i:=j) (by omega)
 have ixj:=h.ix (k:=j) (n:=n) (by omega) hzj B c
 have ldj:=h.ld hw2 hy
 have lda1:=h.ld hw2 ha1
 by_cases hle:i≤j
 ·have hle':¬ zj < zi:=by omega
  obtain ⟨u,hu⟩:=at_get (L:=L1) (i:=i) (by omega)
  have nu:=hst1 u (by omega) hu
  have ny:cI y p < 0:=Classical.byContradiction fun hh=>hst2 y (by omega) hy hh
  have hne:i ≠ j:=fun e=>by subst e; rw [hu] at hy; cases hy; exact nu ny
  have ixi:=h.ix (k:=i) (n:=n) (by omega) hzi B c
  have ldi:=h.ld hw2 hu
  have w1:IntKind.wrap .i64 (zi + 1)=((i + 1:Nat):Int):=by rw [w6i (by omega) (by omega)]; omega
  have w2:IntKind.wrap .i64 (zj - 1)=((j - 1:Nat):Int):=by rw [w6i (by omega) (by omega)]; omega
  obtain ⟨w3,w4,s3,s4,hw4⟩:=InS.swap h.T hw2 hl hu hy
  have hm2:Mv a b L1 (swp L1 i j u y):=Mv.swap hu hy (by omega) (by omega) (by omega) (by omega)
  simp [t0,t1,t4,ti,tj,hle',ixi,ixj,ldi,ldj,s3,s4,w1,w2, -ld9, -st9]
  refine wp_seqX (wp_blockX (par2W m h n c hn a b (by omega) hbn B w hl (swp L1 i j u y) (by simp [hlen1]) p ((swp_keep hu hy (by omega) (by omega)).trans ha1) (i + 1) (j - 1) (by omega) (by omega) (by omega) (hA.swp_left hu hy (by omega) ny) (by rw [show j - 1 + 1=j by omega]; exact hG'.swp_right hu hy (by omega) nu) _ _ _ hw4 ?_ ?_ ?_ ?_ ?_ ?_))
  case _=>simp [t0]
  case _=>simp [t1,hza]
  case _=>simp [t4]
  case _=>simp
  case _=>simp
  intro t w5 L5 k hw5 hm5 ha5 hak hkb hA5 hG5 t0 t1 tk
  obtain ⟨zk,hzk⟩:∃ z:Int,z=(k:Int):=⟨_,rfl⟩
  have hlen5:L5.length=n:=by rw [hm5.len]; simp [hlen1]
  obtain ⟨v,hv⟩:=at_get (L:=L5) (i:=k) (by omega)
  have ixk:=h.ix (k:=k) (n:=n) (by omega) hzk B c
  have ldk:=h.ld hw5 hv
  have lda5:=h.ld hw5 ha5
  obtain ⟨w6,w7,s5,s6,hw7⟩:=InS.swap h.T hw5 hl hv ha5
  rw [← hza] at t1
  rw [← hzk] at tk
  simp [t0,t1,tk,ixa,ixk,ldk,lda5,s5,s6,tupV, -ld9, -st9]
  exact ⟨_,k,hzk,⟨hw7,((hm1.trans hm2).trans hm5).trans (Mv.swap hv ha5 (by omega) (by omega) (by omega) (by omega))⟩,p,part_done ha5 hv hak hkb hA5 hG5⟩
 ·have hle':zj < zi:=by omega
  have e:i=j + 1:=by omega
  obtain ⟨w6,w7,s5,s6,hw7⟩:=InS.swap h.T hw2 hl hy ha1
  simp [t0,t1,t4,ti,tj,hle',ixa,ixj,ldj,lda1,s5,s6,tupV, -ld9, -st9]
  exact ⟨_,j,hzj,⟨hw7,hm1.trans (Mv.swap hy ha1 (by omega) (by omega) (by omega) (by omega))⟩,p,part_done ha1 hy (by omega) (by omega) (e ▸ hA) hG'⟩
set_option maxHeartbeats 2000000 in
theorem peq0W (m:Nat) (h:SW ov C V sz cI fv fc) (n c:Nat) (hn:n≤200) (a b:Nat) (hab:a≤b) (hbn:b≤n) (B:Nat) (w0:AW) (hl:w0.lim≤B) (L0:List α) (hL0:L0.length=n) (p:α) (ha:L0[a]?=some p) (hab':a < b)
  (Q:Ex→Tm→AW→Prop) (t:Tm) (w:AW) (hw:InW C w0 B L0 w)
  (t0:tget t 0=.slice (some ⟨B,0,none⟩) n c) (t1:tget t 1=.int .i64 (a:Nat)) (t4:tget t 4=fv) (ti:tget t 11=.int .i64 ((a + 1:Nat):Int)) (tj:tget t 12=.int .i64 ((b - 1:Nat):Int))
  (hQ:∀ t w L i,InW C w0 B L w→Mv a b L0 L→L[a]?=some p→a < i→i≤b→All (LeP cI p) L (a + 1) i→All (GtP cI p) L i b→tget t 11=.int .i64 (i:Nat)→Q (.exit 0) t w) :
  wp (exM Tryz.prog (run Tryz.prog ov (m + 1)) (.loop mc191_l0) t w) Q:=by
 refine wp_rounds (fun r t w=>∃ L i j,InW C w0 B L w∧Mv a b L0 L∧L[a]?=some p∧a + 1 + r≤i∧i≤j + 1∧j < b∧All (LeP cI p) L (a + 1) i∧All (GtP cI p) L (j + 1) b∧tget t 0=.slice (some ⟨B,0,none⟩) n c∧tget t 1=.int .i64 (a:Nat)∧tget t 4=fv∧tget t 11=.int .i64 (i:Nat)∧tget t 12=.int .i64 (j:Nat)) 300 (by decide) ⟨L0,a + 1,b - 1,hw,Mv.refl _ _ _,ha,by omega,by omega,by omega,fun k z h1 h2=>by omega,fun k z h1 h2=>by omega,t0,t1,t4,ti,tj⟩ ?_
 clear t0 t1 t4 ti tj hw ha
 rintro r t w ⟨L,i,j,hw,hp,ha,hr,hij,hj,hA,hG,t0,t1,t4,ti,tj⟩
 have hlen:L.length=n:=by rw [hp.len,hL0]
 simp [mc191_l0]
 refine wp_blockX (wp_seqX (wp_blockX (peq1W m h n c hn a b hab hbn B w0 hl L hlen p ha i j (by omega) hij (by omega) _ _ _ hw t0 t1 t4 ti tj ?_)))
 intro t i' hi1 hi2 hA2 hst2 t0 t1 t4 ti tj
 simp
 refine wp_seqX (wp_blockX (peq2W m h n c hn a b hab hbn B w0 hl L hlen p ha i' j (by omega) hi2 (by omega) _ _ _ hw t0 t1 t4 ti tj ?_))
 intro t j' hj1 hj2 hG2 hst3 t0 t1 t4 ti tj
 have hA3:All (LeP cI p) L (a + 1) i':=fun k z h1 h2 hz=>by
  by_cases hk:k < i
  ·exact hA k z h1 hk hz
  ·exact hA2 k z (by omega) h2 hz
 have hG3:All (GtP cI p) L (j' + 1) b:=fun k z h1 h2 hz=>by
  by_cases hk:k < j + 1
  ·exact hG2 k z h1 hk hz
  ·exact hG k z (by omega) h2 hz
 obtain ⟨zi,hzi⟩:∃ k:Int,k=(i':Int):=⟨_,rfl⟩
 obtain ⟨zj,hzj⟩:∃ k:Int,k=(j':Int):=⟨_,rfl⟩
 rw [← hzi] at ti
 rw [← hzj] at tj
 by_cases hle:i'≤j'
 ·have hle':¬ zj < zi:=by omega
  obtain ⟨x,hx⟩:=at_get (L:=L) (i:=i') (by omega)
  obtain ⟨y,hy⟩:=at_get (L:=L) (i:=j') (by omega)
  have nx:GtP cI p x:=Classical.byContradiction fun hh=>hst2 x (by omega) hx hh
  have ny:LeP cI p y:=hst3 y (by omega) hy
  have hne:i' ≠ j':=fun e=>by subst e; rw [hx] at hy; cases hy; exact ny nx
  have ixi:=h.ix (k:=i') (n:=n) (by omega) hzi B c
  have ixj:=h.ix (k:=j') (n:=n) (by omega) hzj B c
  have ldi:=h.ld hw hx
  have ldj:=h.ld hw hy
  have w1:IntKind.wrap .i64 (zi + 1)=((i' + 1:Nat):Int):=by rw [w6i (by omega) (by omega)]; omega
  have w2:IntKind.wrap .i64 (zj - 1)=((j' - 1:Nat):Int):=by rw [w6i (by omega) (by omega)]; omega
  obtain ⟨w1',w2',s1,s2,hw2⟩:=InS.swap h.T hw hl hx hy
  simp [t0,t1,t4,ti,tj,hle',ixi,ixj,ldi,ldj,s1,s2,w1,w2, -ld9, -st9]
  refine ⟨by omega,_,hw2,hp.trans (Mv.swap hx hy (by omega) (by omega) (by omega) (by omega)),(swp_keep hx hy (by omega) (by omega)).trans ha,i' + 1,by omega,j' - 1,by omega,by omega,hA3.swp_left hx hy (by omega) ny,?_,by omega,by omega⟩
  rw [show j' - 1 + 1=j' by omega]
  exact hG3.swp_right hx hy (by omega) nx
 ·have hle':zj < zi:=by omega
  have e:i'=j' + 1:=by omega
  simp [t0,t1,t4,ti,tj,hle']
  exact hQ _ _ L i' hw hp ha (by omega) (by omega) hA3 (e ▸ hG3) (by simp [ti,hzi])
set_option maxHeartbeats 2000000 in
theorem call191 (m:Nat) (ho:∀ args w,ov 191 args w=none) (h:SW ov C V sz cI fv fc) (n c:Nat) (hn:n≤200) (a b pv:Nat) (hab:a < b) (hbn:b≤n) (hpa:a≤pv) (hpb:pv < b) (B:Nat) (L:List α) (p:α) (hp:L[pv]?=some p) (hL:L.length=n) (w:AW) (hl:w.lim≤B) (hB:w.heap.get B=some (.cells (L.flatMap C) 9 false)) :
  ∃ x w',(run Tryz.prog ov (m + 2)).call 191 [.slice (some ⟨B,0,none⟩) n c,.int .i64 (a:Int),.int .i64 (b:Int),.int .i64 (pv:Int),fv] w .none=.ok (.ret x) w' .none∧∃ L' k,x=.int .i64 (k:Nat)∧LeftW C w w' B a b L L'∧a < k∧k≤b∧All (LeP cI p) L' a k∧All (GtP cI p) L' k b:=by
 refine call_wp text191 (by simp) (ho _ _) ?_
 obtain ⟨za,hza⟩:∃ k:Int,k=(a:Int):=⟨_,rfl⟩
 obtain ⟨zb,hzb⟩:∃ k:Int,k=(b:Int):=⟨_,rfl⟩
 obtain ⟨zp,hzp⟩:∃ k:Int,k=(pv:Int):=⟨_,rfl⟩
 have e1:IntKind.wrap .i64 (za + 1)=((a + 1:Nat):Int):=by rw [w6i (by omega) (by omega)]; omega
 have e2:IntKind.wrap .i64 (zb - 1)=((b - 1:Nat):Int):=by rw [w6i (by omega) (by omega)]; omega
 obtain ⟨x,hx⟩:=at_get (L:=L) (i:=a) (by omega)
 have hw:InW C w B L w:=InS.refl hB
 have ixa:=h.ix (k:=a) (n:=n) (by omega) hza B c
 have ixp:=h.ix (k:=pv) (n:=n) (by omega) hzp B c
 have lda:=h.ld hw hx
 have ldp:=h.ld hw hp
 obtain ⟨w1,w2,s1,s2,hw2⟩:=InS.swap h.T hw hl hx hp
 have hm1:Mv a b L (swp L a pv x p):=Mv.swap hx hp (by omega) (by omega) (by omega) (by omega)
 have ha1:(swp L a pv x p)[a]?=some p:=swp_first hx hp
 rw [← hza,← hzb,← hzp]
 simp [mc191,ixa,ixp,lda,ldp,s1,s2,e1,e2, -ld9, -st9]
 refine wp_seqX (wp_blockX (peq0W m h n c hn a b (by omega) hbn B w hl _ (by simp [hL]) p ha1 hab _ _ _ hw2 ?_ ?_ ?_ ?_ ?_ ?_))
 case _=>simp
 case _=>simp [hza]
 case _=>simp
 case _=>simp
 case _=>simp
 intro t w' L' i hw' hm' ha' hai hib hA hG ti
 simp [ti,tupV]
 refine ⟨L',i,rfl,⟨hw',hm1.trans hm'⟩,hai,hib,fun k z h1 h2 hz=>?_,hG⟩
 by_cases hk:k=a
 ·subst hk; rw [ha'] at hz; cases hz; exact h.wk.irr _
 ·exact hA k z (by omega) h2 hz
end
end Go.Proofs.YtnjknghdpobcmaaGreatDoor.walk
