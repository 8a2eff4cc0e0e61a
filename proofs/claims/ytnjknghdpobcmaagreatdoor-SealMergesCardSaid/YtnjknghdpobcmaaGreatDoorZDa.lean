/- Part of a proof: see the text with the theorem. -/
import Derived.Test.YtnjknghdpobcmaaGreatDoorPQ
import Derived.Test.YtnjknghdpobcmaaGreatDoorZT3
import Derived.Test.YtnjknghdpobcmaaGreatDoorZPa
import Derived.Test.YtnjknghdpobcmaaGreatDoorZNc
import Derived.Test.YtnjknghdpobcmaaGreatDoorZWc
import Derived.Test.YtnjknghdpobcmaaGreatDoorZC
set_option linter.all false
namespace Go.Sh
open Go
variable {P:Program}
theorem slice_head {st e:TypeId} {sz:Nat} (h1:elemA P st=some e) (h2:szOf P e=some sz) {w:AW} {a:Addr} {n c k:Nat} {cs:List Value} {e':TypeId} {ro:Bool} (hg:w.heap.get a.block=some (.cells cs e' ro)) (hk:k≤c) :
  sliceA P w st (.slice (some a) n c) none (some (.int .i64 (k:Int))) none=.val (.slice (some ⟨a.block,a.off,bif Nat.beq e e' && a.spot.isNone then none else some 1⟩) k c) w:=by
 show sliceA P w st (.slice (some a) n c) none (some (.int .i64 (Int.ofNat k))) none=_
 have hb:Nat.ble k c=true:=Nat.ble_eq_true_of_le hk
 simp [sliceA,sliceB1,h1,h2,sliceRow,boundA,hb,cutR,cutAddr,rowElem,hg]
theorem clear_eq {st e:TypeId} {z:Value} (h1:elemA P st=some e) (h2:zeroA P e=some z) (w:AW) (ty:TypeId) (a:Addr) (n c:Nat) (hn:0 < n) :
  builtinA P w .clear #[st] ty [.slice (some a) n c]=wR (wr w a.block a.off (repl (cellsOf z) n)) (.tuple ⟨[]⟩):=by
 show clear1 P w [st] [.slice (some a) n c]=_
 have hb:Nat.beq n 0=false:=by
  cases h:Nat.beq n 0 with
  | false=>rfl
  | true=>have:=Nat.eq_of_beq_eq_true h; omega
 simp [clear1,h1,h2,hb]
theorem src_rows {α:Type} {f:α→List Value} {m:Nat} (hf:∀ a,(f a).length=m) (hm:0 < m) {w:AW} {v:Value} {l:List α} (h:RowsV f w v l) (hl:l ≠ []):srcCells w m v=some (l.flatMap f)∧lenA v=some l.length:=by
 rcases h with ⟨h,_⟩ | ⟨b,off,sq,c,rfl,⟨pre,rest,e,ro,h1,h2⟩,h3⟩
 ·exact absurd h hl
 ·refine ⟨?_,rfl⟩
  have hlen:(l.flatMap f).length=l.length * m:=flat_length hf l
  have hpos:0 < l.length:=List.length_pos_iff.2 hl
  have hp:0 < l.length * m:=Nat.mul_pos hpos hm
  show (bif Nat.beq (l.length * m) 0 then some [] else rd w b off (l.length * m))=_
  have e1:Nat.beq (l.length * m) 0=false:=by rw [← Bool.not_eq_true]; intro h; have:=Nat.eq_of_beq_eq_true h; omega
  rw [e1,cond_false,rd_eq,h1,rdO_cells,if_pos (by rw [List.length_append,List.length_append,hlen]; omega)]
  rw [← h2,List.drop_left,← hlen,List.take_left]
theorem append_lit {st e:TypeId} {sz:Nat} (h0:isList P st=true) (h1:elemA P st=some e) (h2:szOf P e=some sz) (h3:smallT P e=true) {w:AW} {B m:Nat} {new:List Value} {x:Value} (h4:lenA x=some m) (h5:srcCells w sz x=some new) (hl:new.length=m * sz) (hm:0 < m) (hnm:m≤100000) :
  append1 P w [st,st] [.slice (some ⟨B,0,some 2⟩) 0 0,x]=.val (.slice (some ⟨w.next,0,none⟩) m m) ⟨w.heap.put w.next (some (.cells new e false)),w.next + 1,w.lim⟩:=by
 rw [append_eq h0 h1 h2 h3,h4,h5]
 have e1:Nat.ble (0 + m) 1000000=true:=Nat.ble_eq_true_of_le (by omega)
 have e2:Nat.beq (lenL new 0) (m * sz)=true:=by rw [lenL0,hl]; exact Nat.beq_refl _
 have e3:Nat.beq m 0=false:=by rw [← Bool.not_eq_true]; intro h; have:=Nat.eq_of_beq_eq_true h; omega
 have e4:Nat.ble (0 + m) 0=false:=by rw [← Bool.not_eq_true]; intro h; have:=Nat.le_of_ble_eq_true h; omega
 have e5:srcCells w sz (.slice (some ⟨B,0,some 2⟩) 0 0)=some []:=by
  show (bif Nat.beq (0 * sz) 0 then some [] else rd w B 0 (0 * sz))=_
  rw [Nat.zero_mul]; rfl
 have e6:isExact (some 2)=true:=rfl
 simp only [e1,e2,Bool.and_self,cond_true,appendB,e3,cond_false,e4,e5,e6,appendCopy]
 have e7:Nat.beq (lenL ([]:List Value) 0) 0=true:=rfl
 simp [e7,newR,AW.add,rowV,appL_eq]
section
variable {α:Type} [DecidableEq α]
def ddN (L:List α):Nat→List α
 | 0=>[]
 | j + 1=>match L[j]? with
  | none=>ddN L j
  | some x=>if 0 < j∧L[j - 1]?=some x then ddN L j else ddN L j++[x]
theorem ddN_le (L:List α):∀ j,(ddN L j).length≤j
 | 0=>Nat.le_refl _
 | j + 1=>by
  have:=ddN_le L j
  unfold ddN
  split
  ·omega
  ·split
   ·omega
   ·simp; omega
theorem ddN_same {L:List α} {j:Nat} {x:α} (h:L[j]?=some x) (h0:0 < j) (h1:L[j - 1]?=some x):ddN L (j + 1)=ddN L j:=by
 rw [ddN,h]; simp [h0,h1]
theorem ddN_new {L:List α} {j:Nat} {x y:α} (h:L[j]?=some x) (h1:L[j - 1]?=some y) (hn:x ≠ y):ddN L (j + 1)=ddN L j++[x]:=by
 rw [ddN,h]
 have:¬ (0 < j∧L[j - 1]?=some x):=fun k=>hn (by rw [h1] at k; exact (Option.some.inj k.2).symm)
 simp only [this,if_false]
theorem ddN_one {L:List α} {x:α} (h:L[0]?=some x):ddN L 1=[x]:=by
 rw [ddN,h]; simp [ddN]
end
end Go.Sh
namespace Go.Proofs.YtnjknghdpobcmaaGreatDoor.walk
open Go Go.Sh
set_option maxRecDepth 100000
section
variable {α:Type} [DecidableEq α] {C:α→List Value} {V:α→Value} {sz:Nat} {ov:Ov}
structure CoIN (C:α→List Value) (n i0 B:Nat) (L:List α) (w0 w:AW) (r:Nat) (M:List α) (k:Nat):Prop where
 hr:i0 + 1 + r≤n
 hw:InS C 62 w0 B M w
 hM:M.length=n
 hk:k=(ddN L (i0 + 1 + r)).length
 htk:M.take k=ddN L (i0 + 1 + r)
 hrest:∀ p,i0 + r≤p→M[p]?=L[p]?
 hkr:k≤i0 + r
structure CoN (C:α→List Value) (V:α→Value) (sz:Nat):Prop where
 T:SortT Tryz.prog 22 62 sz C V
 len:∀ x,(C x).length=sz
 sg:∀ x,singles (C x)=true
 pos:0 < sz
 sz_:szOf Tryz.prog 62=some sz
 eq:∀ c x y w,(binW Tryz.prog .eql 62 c).val (V x) (V y) w=.val (.bool (decide (x=y))) w
 hz:∃ z,zeroA Tryz.prog 62=some z∧(cellsOf z).length=sz∧singles (cellsOf z)=true
 ne:∀ c x y w,(binW Tryz.prog .neq 62 c).val (V x) (V y) w=.val (.bool (!decide (x=y))) w
theorem CoN.ix (h:CoN C V sz) {n k:Nat} (hk:k < n) {z:Int} (hz:z=(k:Int)) (B off c:Nat) (w:AW):indexAddrA Tryz.prog w 22 (.slice (some ⟨B,off * sz,none⟩) n c) (.int .i64 z)=.val (.pointer (some ⟨B,(off + k) * sz,none⟩)) w:=by
 subst hz
 rw [indexAddr_slice (by kernel_rfl) h.sz_ _ n c .i64 k hk]
 simp [Addr.add,Nat.add_mul]
theorem CoN.ix0 (h:CoN C V sz) {n k:Nat} (hk:k < n) {z:Int} (hz:z=(k:Int)) (B c:Nat) (w:AW):indexAddrA Tryz.prog w 22 (.slice (some ⟨B,0,none⟩) n c) (.int .i64 z)=.val (.pointer (some ⟨B,k * sz,none⟩)) w:=by
 have:=h.ix hk hz B 0 c w
 simpa using this
theorem CoN.store (h:CoN C V sz) {w0 w:AW} {B k:Nat} {M:List α} {x:α} (hw:InS C 62 w0 B M w) (hl:w0.lim≤B) (hk:k < M.length):∃ w',storeA Tryz.prog w 62 (.pointer (some ⟨B,k * sz,none⟩)) (V x)=.val undef w'∧InS C 62 w0 B (M.set k x) w':=by
 have hlim:=hw.lim
 refine ⟨_,h.T.st w B k M x hw.row hk (by omega),⟨?_,fun z hz hb=>?_,hw.next,hlim⟩⟩
 ·simp
 ·simp [hb]; exact hw.old z hz hb
set_option maxHeartbeats 2000000 in
theorem comN_in {r0:Rec} (h:CoN C V sz) (n c i0:Nat) (hn:n≤200) (hi0:0 < i0) (hin:i0 < n) (B:Nat) (w0:AW) (hl:w0.lim≤B) (L:List α) (hL:L.length=n) (hd:ddN L (i0 + 1)=L.take i0)
  (Q:Ex→Tm→AW→Prop) (t:Tm) (w:AW) (hw:InS C 62 w0 B L w)
  (t0:tget t 0=.slice (some ⟨B,0,none⟩) n c) (t3:tget t 3=.int .i64 (i0:Nat)) (t4:tget t 4=.slice (some ⟨B,i0 * sz,none⟩) (n - i0) (c - i0)) (t5:tget t 5=.int .i64 1)
  (hQ:∀ t w M k,InS C 62 w0 B M w→M.length=n→k=(ddN L n).length→M.take k=ddN L n→k < n→tget t 0=.slice (some ⟨B,0,none⟩) n c→tget t 3=.int .i64 (k:Nat)→Q (.exit 2) t w) :
  wp (exM Tryz.prog r0 (.loop mc93_l1) t w) Q:=by
 refine wp_rounds (fun r t w=>tget t 0=.slice (some ⟨B,0,none⟩) n c∧tget t 4=.slice (some ⟨B,i0 * sz,none⟩) (n - i0) (c - i0)∧tget t 5=.int .i64 ((r + 1:Nat):Int)∧∃ M k,CoIN C n i0 B L w0 w r M k∧tget t 3=.int .i64 (k:Nat)) 300 (by decide)
  ⟨t0,t4,t5,L,i0,⟨by omega,hw,hL,by simp only [Nat.add_zero]; rw [hd,List.length_take]; omega,by simp only [Nat.add_zero]; rw [hd],fun p _=>rfl,by omega⟩,t3⟩ ?_
 clear t0 t3 t4 t5 hw
 rintro r t w ⟨t0,t4,t5,M,k,⟨hr,hw,hM,hk,htk,hrest,hkr⟩,t3⟩
 obtain ⟨zk,hzk⟩:∃ z:Int,z=(k:Int):=⟨_,rfl⟩
 obtain ⟨zr,hzr⟩:∃ z:Int,z=((r + 1:Nat):Int):=⟨_,rfl⟩
 obtain ⟨zm,hzm⟩:∃ z:Int,z=((n - i0:Nat):Int):=⟨_,rfl⟩
 rw [← hzk] at t3
 rw [← hzr] at t5
 by_cases hlt:r + 1 < n - i0
 ·have hlt':zr < zm:=by omega
  obtain ⟨x,hx⟩:=at_get (L:=M) (i:=i0 + (r + 1)) (by omega)
  obtain ⟨y,hy⟩:=at_get (L:=M) (i:=i0 + r) (by omega)
  have hLx:L[i0 + 1 + r]?=some x:=by rw [← hrest _ (by omega),← hx]; congr 1; omega
  have hLy:L[i0 + 1 + r - 1]?=some y:=by rw [← hrest _ (by omega),← hy]; congr 1; omega
  obtain ⟨zy,hzy⟩:∃ z:Int,z=(r:Int):=⟨_,rfl⟩
  have w1:IntKind.wrap .i64 (zr - 1)=zy:=by rw [w6i (by omega) (by omega)]; omega
  obtain ⟨zs,hzs⟩:∃ z:Int,z=((r + 1 + 1:Nat):Int):=⟨_,rfl⟩
  have w2:IntKind.wrap .i64 (zr + 1)=zs:=by rw [w6i (by omega) (by omega)]; omega
  have ixx:=h.ix (n:=n - i0) hlt hzr B i0 (c - i0) w
  have ixy:=h.ix (n:=n - i0) (k:=r) (by omega) hzy B i0 (c - i0) w
  have ldx:=h.T.ld w B _ M x hw.row hx
  have ldy:=h.T.ld w B _ M y hw.row hy
  by_cases hc:x=y
  ·subst hc
   have e:=ddN_same hLx (by omega) hLy
   have hq:=fun c=>h.ne c x x w
   simp only [decide_true,Bool.not_true] at hq
   simp [mc93_l1,t0,t3,t4,t5,← hzm,hlt',w1,w2,ixx,ixy,ldx,ldy,hq, -ld62, -st62, -ne62]
   exact ⟨by omega,by rw [hzs]; omega,M,k,⟨by omega,hw,hM,by rw [show i0 + 1 + (r + 1)=i0 + 1 + r + 1 by omega,e]; exact hk,by rw [show i0 + 1 + (r + 1)=i0 + 1 + r + 1 by omega,e]; exact htk,fun p hp=>hrest p (by omega),by omega⟩,hzk⟩
  ·have e:=ddN_new hLx hLy hc
   have hq:=fun c=>h.ne c x y w
   simp only [hc,decide_false,Bool.not_false] at hq
   have ixk:=h.ix0 (n:=n) (k:=k) (by omega) hzk B c w
   obtain ⟨w',s1,hw'⟩:=h.store (x:=x) hw hl (k:=k) (by omega)
   obtain ⟨zk1,hzk1⟩:∃ z:Int,z=((k + 1:Nat):Int):=⟨_,rfl⟩
   have w3:IntKind.wrap .i64 (zk + 1)=zk1:=by rw [w6i (by omega) (by omega)]; omega
   simp [mc93_l1,t0,t3,t4,t5,← hzm,hlt',w1,w2,w3,ixx,ixy,ixk,ldx,ldy,hq,s1, -ld62, -st62, -ne62]
   refine ⟨by omega,by rw [hzs]; omega,M.set k x,k + 1,⟨by omega,hw',by simp [hM],by rw [show i0 + 1 + (r + 1)=i0 + 1 + r + 1 by omega,e]; simp [← hk],?_,fun p hp=>?_,by omega⟩,hzk1⟩
   ·rw [show i0 + 1 + (r + 1)=i0 + 1 + r + 1 by omega,e,← htk]
    apply List.ext_getElem?
    intro p
    by_cases hp:p < k
    ·rw [List.getElem?_take_of_lt (by omega),List.getElem?_set_ne (by omega),List.getElem?_append_left (by simp; omega),List.getElem?_take_of_lt hp]
    ·by_cases hp2:p=k
     ·subst hp2
      rw [List.getElem?_take_of_lt (by omega),List.getElem?_set_self (by omega),List.getElem?_append_right (by simp; omega)]
      simp [Nat.min_eq_left (show p≤M.length by omega)]
     ·rw [List.getElem?_eq_none (by simp; omega),List.getElem?_eq_none (by simp; omega)]
   ·rw [List.getElem?_set_ne (by omega)]; exact hrest p (by omega)
 ·have hlt':¬ zr < zm:=by omega
  have hrn:i0 + 1 + r=n:=by omega
  rw [hrn] at hk htk
  simp [mc93_l1,t0,t3,t4,t5,← hzm,hlt']
  exact hQ _ _ M k hw hM hk htk (by omega) (by simp [t0]) (by simp [t3,hzk])
structure OutN (C:α→List Value) (w w':AW) (B:Nat) (L:List α):Prop where
 row:∃ rest,w'.heap.get B=some (.cells (L.flatMap C++rest) 62 false)
 old:∀ x,x < w.next→x ≠ B→w'.heap.get x=w.heap.get x
 next:w.next≤w'.next
 lim:w'.lim=w.lim
theorem flat_takeN {f:α→List Value} {m:Nat} (hf:∀ a,(f a).length=m):∀ (l:List α) (k:Nat),(l.flatMap f).take (k * m)=(l.take k).flatMap f
 | [],k=>by simp
 | a::l,0=>by simp
 | a::l,k + 1=>by
  rw [List.flatMap_cons,List.take_succ_cons,List.flatMap_cons,Nat.add_mul,Nat.one_mul,Nat.add_comm,List.take_append,hf,Nat.add_sub_cancel_left,flat_takeN hf l k,List.take_of_length_le (by rw [hf]; omega)]
theorem CoN.clear (h:CoN C V sz) {w0 w:AW} {B k n:Nat} {M:List α} (hw:InS C 62 w0 B M w) (hl:w0.lim≤B) (hM:M.length=n) (hk:k < n) (c:Nat) (ty:TypeId) :
  ∃ w',builtinA Tryz.prog w .clear #[22] ty [.slice (some ⟨B,k * sz,none⟩) (n - k) c]=.val (.tuple ⟨[]⟩) w'∧OutN C w0 w' B (M.take k):=by
 obtain ⟨z,hz,hzl,hzs⟩:=h.hz
 have hlim:=hw.lim
 have e1:repl (cellsOf z) (n - k)=(List.replicate (n - k) ()).flatMap fun _=>cellsOf z:=repl_flat (f:=fun _=>cellsOf z) () (n - k)
 have l1:(repl (cellsOf z) (n - k)).length=(n - k) * sz:=by rw [e1,flat_length (fun _=>hzl),List.length_replicate]
 have s1:singles (repl (cellsOf z) (n - k))=true:=by rw [e1]; exact flat_singles (fun _=>hzs) _
 have l2:(M.flatMap C).length=n * sz:=by rw [flat_length h.len,hM]
 have hmul:(n - k) * sz + k * sz=n * sz:=by rw [← Nat.add_mul]; congr 1; omega
 rw [clear_eq (by kernel_rfl) hz w ty _ _ _ (by omega),wr_eq,hw.row,wrO_cells s1 (by show w.lim≤B; omega) (by show k * sz + _≤_; rw [l1,l2]; omega),flat_takeN h.len]
 refine ⟨_,rfl,⟨⟨_,by simp; rfl⟩,fun x hx hb=>?_,hw.next,hlim⟩⟩
 simp [hb]; exact hw.old x hx hb
set_option maxHeartbeats 2000000 in
theorem comN_out {r0:Rec} (h:CoN C V sz) (n c:Nat) (hn:n≤200) (hnc:n≤c) (h2:2≤n) (B:Nat) (w:AW) (hl:w.lim≤B) (L:List α) (hL:L.length=n) (hB:w.heap.get B=some (.cells (L.flatMap C) 62 false))
  (Q:Ex→Tm→AW→Prop) (t:Tm) (t0:tget t 0=.slice (some ⟨B,0,none⟩) n c) (t3:tget t 3=.int .i64 1)
  (hQ0:∀ t,ddN L n=L→tget t 0=.slice (some ⟨B,0,none⟩) n c→Q (.exit 0) t w)
  (hQ1:∀ t w',OutN C w w' B (ddN L n)→tget t 2=.slice (some ⟨B,0,none⟩) (ddN L n).length c→Q .ret t w') :
  wp (exM Tryz.prog r0 (.loop mc93_l0) t w) Q:=by
 refine wp_rounds (fun r t w'=>w'=w∧tget t 0=.slice (some ⟨B,0,none⟩) n c∧tget t 3=.int .i64 ((r + 1:Nat):Int)∧r + 1≤n∧ddN L (r + 1)=L.take (r + 1)) 300 (by decide)
  ⟨rfl,t0,t3,by omega,by obtain ⟨x,hx⟩:=at_get (L:=L) (i:=0) (by omega); rw [ddN_one hx]; cases L with | nil=>simp at hx | cons a l=>simp at hx; simp [hx]⟩ ?_
 clear t0 t3
 rintro r t w1 ⟨hw,t0,t3,hr,hd⟩
 rw [hw]
 clear hw w1
 obtain ⟨zr,hzr⟩:∃ z:Int,z=((r + 1:Nat):Int):=⟨_,rfl⟩
 obtain ⟨zm,hzm⟩:∃ z:Int,z=(n:Int):=⟨_,rfl⟩
 rw [← hzr] at t3
 by_cases hlt:r + 1 < n
 ·have hlt':zr < zm:=by omega
  obtain ⟨x,hx⟩:=at_get (L:=L) (i:=r + 1) (by omega)
  obtain ⟨y,hy⟩:=at_get (L:=L) (i:=r) (by omega)
  obtain ⟨zy,hzy⟩:∃ z:Int,z=(r:Int):=⟨_,rfl⟩
  have w1:IntKind.wrap .i64 (zr - 1)=zy:=by rw [w6i (by omega) (by omega)]; omega
  obtain ⟨zs,hzs⟩:∃ z:Int,z=((r + 1 + 1:Nat):Int):=⟨_,rfl⟩
  have w2:IntKind.wrap .i64 (zr + 1)=zs:=by rw [w6i (by omega) (by omega)]; omega
  have ixx:=h.ix0 (n:=n) hlt hzr B c w
  have ixy:=h.ix0 (n:=n) (k:=r) (by omega) hzy B c w
  have ldx:=h.T.ld w B _ L x hB hx
  have ldy:=h.T.ld w B _ L y hB hy
  by_cases hc:x=y
  ·subst hc
   have e:=ddN_same hx (by omega) hy
   have hq:=fun c=>h.eq c x x w
   simp only [decide_true] at hq
   have st:=slice_tail (P:=Tryz.prog) (st:=22) (e:=62) (by kernel_rfl) h.sz_ (w:=w) (a:=⟨B,0,none⟩) (n:=n) (c:=c) (lo:=r + 1) hB (by omega)
   rw [← hzr] at st
   simp at st
   simp [mc93_l0,t0,t3,← hzm,hlt',w1,ixx,ixy,ldx,ldy,hq,st, -ld62, -st62, -eq62]
   refine wp_seqX (wp_blockX (wp_seqX (wp_blockX (comN_in h n c (r + 1) hn (by omega) hlt B w hl L hL (by rw [e,hd]) _ _ _ (InS.refl hB) ?_ ?_ ?_ ?_ ?_))))
   ·simp [t0]
   ·simp [t3,hzr]
   ·simp
   ·simp
   ·intro t w' M k hw hM hk htk hkn t0 t3
    have st2:=slice_tail (P:=Tryz.prog) (st:=22) (e:=62) (by kernel_rfl) h.sz_ (w:=w') (a:=⟨B,0,none⟩) (n:=n) (c:=c) (lo:=k) hw.row (by omega)
    obtain ⟨w2,cl,ho⟩:=h.clear hw hl hM hkn (c - k) 0
    obtain ⟨rest,hrow⟩:=ho.row
    have st3:=slice_head (P:=Tryz.prog) (st:=22) (e:=62) (by kernel_rfl) h.sz_ (w:=w2) (a:=⟨B,0,none⟩) (n:=n) (c:=c) (k:=k) hrow (by omega)
    simp at st2 st3
    simp [t0,t3,st2,cl,st3]
    exact hQ1 _ _ (by rw [← htk]; exact ho) (by simp [hk])
  ·have e:=ddN_new hx hy hc
   have hq:=fun c=>h.eq c x y w
   simp only [hc,decide_false] at hq
   simp [mc93_l0,t0,t3,← hzm,hlt',w1,w2,ixx,ixy,ldx,ldy,hq, -ld62, -st62, -eq62]
   refine ⟨by omega,by rw [hzs]; omega,by omega,?_⟩
   rw [e,hd]
   have:=List.take_add_one (l:=L) (i:=r + 1)
   rw [this,hx]
   rfl
 ·have hlt':¬ zr < zm:=by omega
  have hrn:r + 1=n:=by omega
  simp [mc93_l0,t0,t3,← hzm,hlt']
  exact hQ0 _ (by rw [← hrn,hd,List.take_of_length_le (by omega)]) (by simp [t0])
theorem call93 (h:CoN C V sz) (m:Nat) (ho:∀ args w,ov 93 args w=none) (n c:Nat) (hn:n≤200) (hnc:n≤c) (B:Nat) (w:AW) (hl:w.lim≤B) (L:List α) (hL:L.length=n) (hB:w.heap.get B=some (.cells (L.flatMap C) 62 false)) :
  ∃ x w',(run Tryz.prog ov (m + 1)).call 93 [.slice (some ⟨B,0,none⟩) n c] w .none=.ok (.ret x) w' .none∧x=.slice (some ⟨B,0,none⟩) (ddN L n).length c∧OutN C w w' B (ddN L n):=by
 refine call_wp text93 (by simp) (ho _ _) ?_
 obtain ⟨zm,hzm⟩:∃ z:Int,z=(n:Int):=⟨_,rfl⟩
 have self:ddN L n=L→OutN C w w B (ddN L n):=fun e=>⟨⟨[],by rw [e,List.append_nil]; exact hB⟩,fun _ _ _=>rfl,Nat.le_refl _,rfl⟩
 by_cases h2:n < 2
 ·have h2':zm < 2:=by omega
  have e:ddN L n=L:=by
   match L,hL with
   | [],hL=>simp at hL; subst hL; rfl
   | [a],hL=>simp at hL; subst hL; exact ddN_one rfl
   | a::b::l,hL=>simp at hL; omega
  have hs:=self e
  rw [e] at hs
  simp [mc93,← hzm,h2',tupV,e,hL]
  exact hs
 ·have h2':¬ zm < 2:=by omega
  simp [mc93,← hzm,h2']
  refine wp_seqX (wp_blockX (comN_out h n c hn hnc (by omega) B w hl L hL hB _ _ ?_ ?_ ?_ ?_))
  ·simp
  ·simp
  ·intro t e t0
   have hs:=self e
   rw [e] at hs
   simp [t0,tupV,e,hL]
   exact hs
  ·intro t w' ho t2
   simp [t2,tupV]
   exact ho
end
section
variable {α:Type} [DecidableEq α] {C:α→List Value} {V:α→Value} {sz:Nat} {ov:Ov}
structure CoIW (C:α→List Value) (n i0 B:Nat) (L:List α) (w0 w:AW) (r:Nat) (M:List α) (k:Nat):Prop where
 hr:i0 + 1 + r≤n
 hw:InS C 9 w0 B M w
 hM:M.length=n
 hk:k=(ddN L (i0 + 1 + r)).length
 htk:M.take k=ddN L (i0 + 1 + r)
 hrest:∀ p,i0 + r≤p→M[p]?=L[p]?
 hkr:k≤i0 + r
structure CoW (C:α→List Value) (V:α→Value) (sz:Nat):Prop where
 T:SortT Tryz.prog 28 9 sz C V
 len:∀ x,(C x).length=sz
 sg:∀ x,singles (C x)=true
 pos:0 < sz
 sz_:szOf Tryz.prog 9=some sz
 eq:∀ c x y w,(binW Tryz.prog .eql 9 c).val (V x) (V y) w=.val (.bool (decide (x=y))) w
 hz:∃ z,zeroA Tryz.prog 9=some z∧(cellsOf z).length=sz∧singles (cellsOf z)=true
 ne:∀ c x y w,(binW Tryz.prog .neq 9 c).val (V x) (V y) w=.val (.bool (!decide (x=y))) w
theorem CoW.ix (h:CoW C V sz) {n k:Nat} (hk:k < n) {z:Int} (hz:z=(k:Int)) (B off c:Nat) (w:AW):indexAddrA Tryz.prog w 28 (.slice (some ⟨B,off * sz,none⟩) n c) (.int .i64 z)=.val (.pointer (some ⟨B,(off + k) * sz,none⟩)) w:=by
 subst hz
 rw [indexAddr_slice (by kernel_rfl) h.sz_ _ n c .i64 k hk]
 simp [Addr.add,Nat.add_mul]
theorem CoW.ix0 (h:CoW C V sz) {n k:Nat} (hk:k < n) {z:Int} (hz:z=(k:Int)) (B c:Nat) (w:AW):indexAddrA Tryz.prog w 28 (.slice (some ⟨B,0,none⟩) n c) (.int .i64 z)=.val (.pointer (some ⟨B,k * sz,none⟩)) w:=by
 have:=h.ix hk hz B 0 c w
 simpa using this
theorem CoW.store (h:CoW C V sz) {w0 w:AW} {B k:Nat} {M:List α} {x:α} (hw:InS C 9 w0 B M w) (hl:w0.lim≤B) (hk:k < M.length):∃ w',storeA Tryz.prog w 9 (.pointer (some ⟨B,k * sz,none⟩)) (V x)=.val undef w'∧InS C 9 w0 B (M.set k x) w':=by
 have hlim:=hw.lim
 refine ⟨_,h.T.st w B k M x hw.row hk (by omega),⟨?_,fun z hz hb=>?_,hw.next,hlim⟩⟩
 ·simp
 ·simp [hb]; exact hw.old z hz hb
set_option maxHeartbeats 2000000 in
theorem comW_in {r0:Rec} (h:CoW C V sz) (n c i0:Nat) (hn:n≤200) (hi0:0 < i0) (hin:i0 < n) (B:Nat) (w0:AW) (hl:w0.lim≤B) (L:List α) (hL:L.length=n) (hd:ddN L (i0 + 1)=L.take i0)
  (Q:Ex→Tm→AW→Prop) (t:Tm) (w:AW) (hw:InS C 9 w0 B L w)
  (t0:tget t 0=.slice (some ⟨B,0,none⟩) n c) (t3:tget t 3=.int .i64 (i0:Nat)) (t4:tget t 4=.slice (some ⟨B,i0 * sz,none⟩) (n - i0) (c - i0)) (t5:tget t 5=.int .i64 1)
  (hQ:∀ t w M k,InS C 9 w0 B M w→M.length=n→k=(ddN L n).length→M.take k=ddN L n→k < n→tget t 0=.slice (some ⟨B,0,none⟩) n c→tget t 3=.int .i64 (k:Nat)→Q (.exit 2) t w) :
  wp (exM Tryz.prog r0 (.loop mc136_l1) t w) Q:=by
 refine wp_rounds (fun r t w=>tget t 0=.slice (some ⟨B,0,none⟩) n c∧tget t 4=.slice (some ⟨B,i0 * sz,none⟩) (n - i0) (c - i0)∧tget t 5=.int .i64 ((r + 1:Nat):Int)∧∃ M k,CoIW C n i0 B L w0 w r M k∧tget t 3=.int .i64 (k:Nat)) 300 (by decide)
  ⟨t0,t4,t5,L,i0,⟨by omega,hw,hL,by simp only [Nat.add_zero]; rw [hd,List.length_take]; omega,by simp only [Nat.add_zero]; rw [hd],fun p _=>rfl,by omega⟩,t3⟩ ?_
 clear t0 t3 t4 t5 hw
 rintro r t w ⟨t0,t4,t5,M,k,⟨hr,hw,hM,hk,htk,hrest,hkr⟩,t3⟩
 obtain ⟨zk,hzk⟩:∃ z:Int,z=(k:Int):=⟨_,rfl⟩
 obtain ⟨zr,hzr⟩:∃ z:Int,z=((r + 1:Nat):Int):=⟨_,rfl⟩
 obtain ⟨zm,hzm⟩:∃ z:Int,z=((n - i0:Nat):Int):=⟨_,rfl⟩
 rw [← hzk] at t3
 rw [← hzr] at t5
 by_cases hlt:r + 1 < n - i0
 ·have hlt':zr < zm:=by omega
  obtain ⟨x,hx⟩:=at_get (L:=M) (i:=i0 + (r + 1)) (by omega)
  obtain ⟨y,hy⟩:=at_get (L:=M) (i:=i0 + r) (by omega)
  have hLx:L[i0 + 1 + r]?=some x:=by rw [← hrest _ (by omega),← hx]; congr 1; omega
  have hLy:L[i0 + 1 + r - 1]?=some y:=by rw [← hrest _ (by omega),← hy]; congr 1; omega
  obtain ⟨zy,hzy⟩:∃ z:Int,z=(r:Int):=⟨_,rfl⟩
  have w1:IntKind.wrap .i64 (zr - 1)=zy:=by rw [w6i (by omega) (by omega)]; omega
  obtain ⟨zs,hzs⟩:∃ z:Int,z=((r + 1 + 1:Nat):Int):=⟨_,rfl⟩
  have w2:IntKind.wrap .i64 (zr + 1)=zs:=by rw [w6i (by omega) (by omega)]; omega
  have ixx:=h.ix (n:=n - i0) hlt hzr B i0 (c - i0) w
  have ixy:=h.ix (n:=n - i0) (k:=r) (by omega) hzy B i0 (c - i0) w
  have ldx:=h.T.ld w B _ M x hw.row hx
  have ldy:=h.T.ld w B _ M y hw.row hy
  by_cases hc:x=y
  ·subst hc
   have e:=ddN_same hLx (by omega) hLy
   have hq:=fun c=>h.ne c x x w
   simp only [decide_true,Bool.not_true] at hq
   simp [mc136_l1,t0,t3,t4,t5,← hzm,hlt',w1,w2,ixx,ixy,ldx,ldy,hq, -ld9, -st9, -ne9]
   exact ⟨by omega,by rw [hzs]; omega,M,k,⟨by omega,hw,hM,by rw [show i0 + 1 + (r + 1)=i0 + 1 + r + 1 by omega,e]; exact hk,by rw [show i0 + 1 + (r + 1)=i0 + 1 + r + 1 by omega,e]; exact htk,fun p hp=>hrest p (by omega),by omega⟩,hzk⟩
  ·have e:=ddN_new hLx hLy hc
   have hq:=fun c=>h.ne c x y w
   simp only [hc,decide_false,Bool.not_false] at hq
   have ixk:=h.ix0 (n:=n) (k:=k) (by omega) hzk B c w
   obtain ⟨w',s1,hw'⟩:=h.store (x:=x) hw hl (k:=k) (by omega)
   obtain ⟨zk1,hzk1⟩:∃ z:Int,z=((k + 1:Nat):Int):=⟨_,rfl⟩
   have w3:IntKind.wrap .i64 (zk + 1)=zk1:=by rw [w6i (by omega) (by omega)]; omega
   simp [mc136_l1,t0,t3,t4,t5,← hzm,hlt',w1,w2,w3,ixx,ixy,ixk,ldx,ldy,hq,s1, -ld9, -st9, -ne9]
   refine ⟨by omega,by rw [hzs]; omega,M.set k x,k + 1,⟨by omega,hw',by simp [hM],by rw [show i0 + 1 + (r + 1)=i0 + 1 + r + 1 by omega,e]; simp [← hk],?_,fun p hp=>?_,by omega⟩,hzk1⟩
   ·rw [show i0 + 1 + (r + 1)=i0 + 1 + r + 1 by omega,e,← htk]
    apply List.ext_getElem?
    intro p
    by_cases hp:p < k
    ·rw [List.getElem?_take_of_lt (by omega),List.getElem?_set_ne (by omega),List.getElem?_append_left (by simp; omega),List.getElem?_take_of_lt hp]
    ·by_cases hp2:p=k
     ·subst hp2
      rw [List.getElem?_take_of_lt (by omega),List.getElem?_set_self (by omega),List.getElem?_append_right (by simp; omega)]
      simp [Nat.min_eq_left (show p≤M.length by omega)]
     ·rw [List.getElem?_eq_none (by simp; omega),List.getElem?_eq_none (by simp; omega)]
   ·rw [List.getElem?_set_ne (by omega)]; exact hrest p (by omega)
 ·have hlt':¬ zr < zm:=by omega
  have hrn:i0 + 1 + r=n:=by omega
  rw [hrn] at hk htk
  simp [mc136_l1,t0,t3,t4,t5,← hzm,hlt']
  exact hQ _ _ M k hw hM hk htk (by omega) (by simp [t0]) (by simp [t3,hzk])
structure OutW (C:α→List Value) (w w':AW) (B:Nat) (L:List α):Prop where
 row:∃ rest,w'.heap.get B=some (.cells (L.flatMap C++rest) 9 false)
 old:∀ x,x < w.next→x ≠ B→w'.heap.get x=w.heap.get x
 next:w.next≤w'.next
 lim:w'.lim=w.lim
theorem flat_takeW {f:α→List Value} {m:Nat} (hf:∀ a,(f a).length=m):∀ (l:List α) (k:Nat),(l.flatMap f).take (k * m)=(l.take k).flatMap f
 | [],k=>by simp
 | a::l,0=>by simp
 | a::l,k + 1=>by
  rw [List.flatMap_cons,List.take_succ_cons,List.flatMap_cons,Nat.add_mul,Nat.one_mul,Nat.add_comm,List.take_append,hf,Nat.add_sub_cancel_left,flat_takeW hf l k,List.take_of_length_le (by rw [hf]; omega)]
theorem CoW.clear (h:CoW C V sz) {w0 w:AW} {B k n:Nat} {M:List α} (hw:InS C 9 w0 B M w) (hl:w0.lim≤B) (hM:M.length=n) (hk:k < n) (c:Nat) (ty:TypeId) :
  ∃ w',builtinA Tryz.prog w .clear #[28] ty [.slice (some ⟨B,k * sz,none⟩) (n - k) c]=.val (.tuple ⟨[]⟩) w'∧OutW C w0 w' B (M.take k):=by
 obtain ⟨z,hz,hzl,hzs⟩:=h.hz
 have hlim:=hw.lim
 have e1:repl (cellsOf z) (n - k)=(List.replicate (n - k) ()).flatMap fun _=>cellsOf z:=repl_flat (f:=fun _=>cellsOf z) () (n - k)
 have l1:(repl (cellsOf z) (n - k)).length=(n - k) * sz:=by rw [e1,flat_length (fun _=>hzl),List.length_replicate]
 have s1:singles (repl (cellsOf z) (n - k))=true:=by rw [e1]; exact flat_singles (fun _=>hzs) _
 have l2:(M.flatMap C).length=n * sz:=by rw [flat_length h.len,hM]
 have hmul:(n - k) * sz + k * sz=n * sz:=by rw [← Nat.add_mul]; congr 1; omega
 rw [clear_eq (by kernel_rfl) hz w ty _ _ _ (by omega),wr_eq,hw.row,wrO_cells s1 (by show w.lim≤B; omega) (by show k * sz + _≤_; rw [l1,l2]; omega),flat_takeW h.len]
 refine ⟨_,rfl,⟨⟨_,by simp; rfl⟩,fun x hx hb=>?_,hw.next,hlim⟩⟩
 simp [hb]; exact hw.old x hx hb
set_option maxHeartbeats 2000000 in
theorem comW_out {r0:Rec} (h:CoW C V sz) (n c:Nat) (hn:n≤200) (hnc:n≤c) (h2:2≤n) (B:Nat) (w:AW) (hl:w.lim≤B) (L:List α) (hL:L.length=n) (hB:w.heap.get B=some (.cells (L.flatMap C) 9 false))
  (Q:Ex→Tm→AW→Prop) (t:Tm) (t0:tget t 0=.slice (some ⟨B,0,none⟩) n c) (t3:tget t 3=.int .i64 1)
  (hQ0:∀ t,ddN L n=L→tget t 0=.slice (some ⟨B,0,none⟩) n c→Q (.exit 0) t w)
  (hQ1:∀ t w',OutW C w w' B (ddN L n)→tget t 2=.slice (some ⟨B,0,none⟩) (ddN L n).length c→Q .ret t w') :
  wp (exM Tryz.prog r0 (.loop mc136_l0) t w) Q:=by
 refine wp_rounds (fun r t w'=>w'=w∧tget t 0=.slice (some ⟨B,0,none⟩) n c∧tget t 3=.int .i64 ((r + 1:Nat):Int)∧r + 1≤n∧ddN L (r + 1)=L.take (r + 1)) 300 (by decide)
  ⟨rfl,t0,t3,by omega,by obtain ⟨x,hx⟩:=at_get (L:=L) (i:=0) (by omega); rw [ddN_one hx]; cases L with | nil=>simp at hx | cons a l=>simp at hx; simp [hx]⟩ ?_
 clear t0 t3
 rintro r t w1 ⟨hw,t0,t3,hr,hd⟩
 rw [hw]
 clear hw w1
 obtain ⟨zr,hzr⟩:∃ z:Int,z=((r + 1:Nat):Int):=⟨_,rfl⟩
 obtain ⟨zm,hzm⟩:∃ z:Int,z=(n:Int):=⟨_,rfl⟩
 rw [← hzr] at t3
 by_cases hlt:r + 1 < n
 ·have hlt':zr < zm:=by omega
  obtain ⟨x,hx⟩:=at_get (L:=L) (i:=r + 1) (by omega)
  obtain ⟨y,hy⟩:=at_get (L:=L) (i:=r) (by omega)
  obtain ⟨zy,hzy⟩:∃ z:Int,z=(r:Int):=⟨_,rfl⟩
  have w1:IntKind.wrap .i64 (zr - 1)=zy:=by rw [w6i (by omega) (by omega)]; omega
  obtain ⟨zs,hzs⟩:∃ z:Int,z=((r + 1 + 1:Nat):Int):=⟨_,rfl⟩
  have w2:IntKind.wrap .i64 (zr + 1)=zs:=by rw [w6i (by omega) (by omega)]; omega
  have ixx:=h.ix0 (n:=n) hlt hzr B c w
  have ixy:=h.ix0 (n:=n) (k:=r) (by omega) hzy B c w
  have ldx:=h.T.ld w B _ L x hB hx
  have ldy:=h.T.ld w B _ L y hB hy
  by_cases hc:x=y
  ·subst hc
   have e:=ddN_same hx (by omega) hy
   have hq:=fun c=>h.eq c x x w
   simp only [decide_true] at hq
   have st:=slice_tail (P:=Tryz.prog) (st:=28) (e:=9) (by kernel_rfl) h.sz_ (w:=w) (a:=⟨B,0,none⟩) (n:=n) (c:=c) (lo:=r + 1) hB (by omega)
   rw [← hzr] at st
   simp at st
   simp [mc136_l0,t0,t3,← hzm,hlt',w1,ixx,ixy,ldx,ldy,hq,st, -ld9, -st9, -eq9]
   refine wp_seqX (wp_blockX (wp_seqX (wp_blockX (comW_in h n c (r + 1) hn (by omega) hlt B w hl L hL (by rw [e,hd]) _ _ _ (InS.refl hB) ?_ ?_ ?_ ?_ ?_))))
   ·simp [t0]
   ·simp [t3,hzr]
   ·simp
   ·simp
   ·intro t w' M k hw hM hk htk hkn t0 t3
    have st2:=slice_tail (P:=Tryz.prog) (st:=28) (e:=9) (by kernel_rfl) h.sz_ (w:=w') (a:=⟨B,0,none⟩) (n:=n) (c:=c) (lo:=k) hw.row (by omega)
    obtain ⟨w2,cl,ho⟩:=h.clear hw hl hM hkn (c - k) 0
    obtain ⟨rest,hrow⟩:=ho.row
    have st3:=slice_head (P:=Tryz.prog) (st:=28) (e:=9) (by kernel_rfl) h.sz_ (w:=w2) (a:=⟨B,0,none⟩) (n:=n) (c:=c) (k:=k) hrow (by omega)
    simp at st2 st3
    simp [t0,t3,st2,cl,st3]
    exact hQ1 _ _ (by rw [← htk]; exact ho) (by simp [hk])
  ·have e:=ddN_new hx hy hc
   have hq:=fun c=>h.eq c x y w
   simp only [hc,decide_false] at hq
   simp [mc136_l0,t0,t3,← hzm,hlt',w1,w2,ixx,ixy,ldx,ldy,hq, -ld9, -st9, -eq9]
   refine ⟨by omega,by rw [hzs]; omega,by omega,?_⟩
   rw [e,hd]
   have:=List.take_add_one (l:=L) (i:=r + 1)
   rw [this,hx]
   rfl
 ·have hlt':¬ zr < zm:=by omega
  have hrn:r + 1=n:=by omega
  simp [mc136_l0,t0,t3,← hzm,hlt']
  exact hQ0 _ (by rw [← hrn,hd,List.take_of_length_le (by omega)]) (by simp [t0])
theorem call136 (h:CoW C V sz) (m:Nat) (ho:∀ args w,ov 136 args w=none) (n c:Nat) (hn:n≤200) (hnc:n≤c) (B:Nat) (w:AW) (hl:w.lim≤B) (L:List α) (hL:L.length=n) (hB:w.heap.get B=some (.cells (L.flatMap C) 9 false)) :
  ∃ x w',(run Tryz.prog ov (m + 1)).call 136 [.slice (some ⟨B,0,none⟩) n c] w .none=.ok (.ret x) w' .none∧x=.slice (some ⟨B,0,none⟩) (ddN L n).length c∧OutW C w w' B (ddN L n):=by
 refine call_wp text136 (by simp) (ho _ _) ?_
 obtain ⟨zm,hzm⟩:∃ z:Int,z=(n:Int):=⟨_,rfl⟩
 have self:ddN L n=L→OutW C w w B (ddN L n):=fun e=>⟨⟨[],by rw [e,List.append_nil]; exact hB⟩,fun _ _ _=>rfl,Nat.le_refl _,rfl⟩
 by_cases h2:n < 2
 ·have h2':zm < 2:=by omega
  have e:ddN L n=L:=by
   match L,hL with
   | [],hL=>simp at hL; subst hL; rfl
   | [a],hL=>simp at hL; subst hL; exact ddN_one rfl
   | a::b::l,hL=>simp at hL; omega
  have hs:=self e
  rw [e] at hs
  simp [mc136,← hzm,h2',tupV,e,hL]
  exact hs
 ·have h2':¬ zm < 2:=by omega
  simp [mc136,← hzm,h2']
  refine wp_seqX (wp_blockX (comW_out h n c hn hnc (by omega) B w hl L hL hB _ _ ?_ ?_ ?_ ?_))
  ·simp
  ·simp
  ·intro t e t0
   have hs:=self e
   rw [e] at hs
   simp [t0,tupV,e,hL]
   exact hs
  ·intro t w' ho t2
   simp [t2,tupV]
   exact ho
end
section
variable {α:Type} [DecidableEq α] {C:α→List Value} {V:α→Value} {sz:Nat} {cI:α→α→Int} {fv:Value} {fc:FuncId} {ov:Ov}
theorem eqn22 (a:Addr) (n c:Nat) (w:AW):(binW Tryz.prog .eql 22 true).val (.slice (some a) n c) (.slice none 0 0) w=.val (.bool false) w:=by kernel_rfl
theorem eqn22n (w:AW):(binW Tryz.prog .eql 22 true).val (.slice none 0 0) (.slice none 0 0) w=.val (.bool true) w:=by kernel_rfl
theorem call90 (h:CoN C V sz) (m:Nat) (ho:∀ args w,ov 90 args w=none) (v:Value) (L:List α) (w:AW) (hv:RowsV C w v L) (hne:L ≠ []) (hn:L.length≤1000) :
  ∃ x w',(run Tryz.prog ov (m + 1)).call 90 [v] w .none=.ok (.ret x) w' .none∧∃ B,x=.slice (some ⟨B,0,none⟩) L.length L.length∧w'.heap.get B=some (.cells (L.flatMap C) 62 false)∧w.next≤B∧B < w'.next∧Up w w':=by
 refine call_wp text90 (by simp) (ho _ _) ?_
 have hpos:0 < L.length:=List.length_pos_iff.2 hne
 have hu:Up w ⟨w.heap.put w.next (some (.cells [] 62 false)),w.next + 1,w.lim⟩:=(Up.refl w).add _
 obtain ⟨h5,h4⟩:=src_rows h.len h.pos (hv.up hu) hne
 have hcp:=append_lit (P:=Tryz.prog) (st:=22) (e:=62) (by kernel_rfl) (by kernel_rfl) h.sz_ (by kernel_rfl) (w:=⟨w.heap.put w.next (some (.cells [] 62 false)),w.next + 1,w.lim⟩) (B:=w.next) (m:=L.length) h4 h5 (by rw [flat_length h.len]) hpos (by omega)
 obtain ⟨b,off,sq,c,rfl,hra⟩:=hv.at_ 0 hpos
 have nj:∀ (a:Addr) n c,notJunk (.slice (some a) n c)=some (.slice (some a) n c):=fun _ _ _=>rfl
 simp [mc90,eqn22,isConst,hcp,nj,tupV]
 exact ((Up.refl w).add _).put (by show w.next≤w.next + 1; omega) (by show w.next + 1≤w.next + 1 + 1; omega)
theorem call90n (m:Nat) (ho:∀ args w,ov 90 args w=none) (w:AW):∃ x w',(run Tryz.prog ov (m + 1)).call 90 [.slice none 0 0] w .none=.ok (.ret x) w' .none∧x=.slice none 0 0∧w'=w:=by
 refine call_wp text90 (by simp) (ho _ _) ?_
 simp [mc90,eqn22n,isConst,tupV,notJunk]
theorem call154n (a:Option Addr) (c:Nat) (m:Nat) (ho:∀ args w,ov 154 args w=none) (w:AW):∃ x w',(run Tryz.prog ov (m + 1)).call 154 [.slice a 0 c,.int .i64 0,.int .i64 0,fv] w .none=.ok (.ret x) w' .none∧x=.tuple ⟨[]⟩∧w'=w:=by
 refine call_wp text154 (by simp) (ho _ _) ?_
 simp [mc154]
 refine wp_blockX (wp_rounds (fun r t w'=>w'=w∧r=0∧tget t 8=.int .i64 1∧tget t 2=.int .i64 0) 2 (by decide) (by simp; decide) ?_)
 rintro r t w' ⟨hw,rfl,t8,t2⟩
 rw [hw]
 clear hw w'
 simp [mc154_l0,t8,t2,tupV]
theorem call123n (a:Option Addr) (c:Nat) (m:Nat) (o:OsN ov) (z:Int) (w:AW):∃ x w',(run Tryz.prog ov (m + 2)).call 123 [.slice a 0 c,.int .i64 0,.int .i64 0,.int .i64 z,fv] w .none=.ok (.ret x) w' .none∧x=.tuple ⟨[]⟩∧w'=w:=by
 refine call_wp text123 (by simp) (o.oPDQ _ _) ?_
 obtain ⟨_,w1,c1,rfl,e⟩:=call154n (fv:=fv) a c m o.oINS w
 rw [e] at c1
 clear e w1
 simp [mc123]
 refine wp_blockX (wp_rounds (fun r t w'=>w'=w∧r=0∧tget t 0=.slice a 0 c∧tget t 1=.int .i64 0∧tget t 2=.int .i64 0∧tget t 4=fv) 2 (by decide) (by simp) ?_)
 rintro r t w' ⟨hw,rfl,t0,t1,t2,t4⟩
 rw [hw]
 clear hw w'
 have e0:IntKind.wrap .i64 0=0:=by decide
 simp [mc123_l0,t0,t1,t2,t4,e0,c1,tupV]
theorem call91n (a:Option Addr) (c:Nat) (m:Nat) (o:OsN ov) (ho:∀ args w,ov 91 args w=none) (w:AW):∃ x w',(run Tryz.prog ov (m + 3)).call 91 [.slice a 0 c,fv] w .none=.ok (.ret x) w' .none∧x=.tuple ⟨[]⟩∧w'=w:=by
 refine call_wp text91 (by simp) (ho _ _) ?_
 obtain ⟨_,w1,c1,rfl,rfl⟩:=call124 m o.oLEN o.oL64 0 (by decide) w
 obtain ⟨_,w2,c2,rfl,rfl⟩:=call123n (fv:=fv) a c m o (bl 0:Nat) w1
 have e1:IntKind.wrap .u64 0=0:=by decide
 simp only [Int.natCast_zero] at c1
 simp [mc91,e1,c1,c2,tupV]
theorem call93n (a:Option Addr) (c:Nat) (m:Nat) (ho:∀ args w,ov 93 args w=none) (w:AW):∃ x w',(run Tryz.prog ov (m + 1)).call 93 [.slice a 0 c] w .none=.ok (.ret x) w' .none∧x=.slice a 0 c∧w'=w:=by
 refine call_wp text93 (by simp) (ho _ _) ?_
 simp [mc93,tupV,notJunk]
theorem clip22n (w:AW):sliceA Tryz.prog w 22 (.slice none 0 0) none (some (.int .i64 0)) (some (.int .i64 0))=.val (.slice none 0 0) w:=by kernel_rfl
theorem call92n (m:Nat) (ho:∀ args w,ov 92 args w=none) (w:AW):∃ x w',(run Tryz.prog ov (m + 1)).call 92 [.slice none 0 0] w .none=.ok (.ret x) w' .none∧x=.slice none 0 0∧w'=w:=by
 refine call_wp text92 (by simp) (ho _ _) ?_
 simp [mc92,clip22n,tupV,notJunk]
theorem call92 (h:CoN C V sz) (m:Nat) (ho:∀ args w,ov 92 args w=none) (B k c:Nat) (hk:k≤c) (w:AW) (cs:List Value) (hg:w.heap.get B=some (.cells cs 62 false)) :
  ∃ x w',(run Tryz.prog ov (m + 1)).call 92 [.slice (some ⟨B,0,none⟩) k c] w .none=.ok (.ret x) w' .none∧x=.slice (some ⟨B,0,some 2⟩) k k∧w'=w:=by
 refine call_wp text92 (by simp) (ho _ _) ?_
 have st:=slice_three (P:=Tryz.prog) (st:=22) (e:=62) (by kernel_rfl) h.sz_ (w:=w) (a:=⟨B,0,none⟩) (n:=k) (c:=c) (k:=k) (j:=k) hg (Nat.le_refl _) hk
 simp [mc92,st,tupV,notJunk]
structure OeN (ov:Ov):Prop where
 os:OsN ov
 oCL:∀ args w,ov 90 args w=none
 oSRT:∀ args w,ov 91 args w=none
 oCMP:∀ args w,ov 93 args w=none
 oCLIP:∀ args w,ov 92 args w=none
 oEACH:∀ args w,ov 58 args w=none
structure EachN (C:α→List Value) (cI:α→α→Int) (w w':AW) (L:List α) (x:Value) (D:List α) (B:Nat):Prop where
 srt:∃ Ls,Mv 0 L.length L Ls∧Srt (fun x y=>cI x y < 0) Ls 0 L.length∧D=ddN Ls L.length
 val:x=.slice (some ⟨B,0,some 2⟩) D.length D.length
 row:∃ rest,w'.heap.get B=some (.cells (D.flatMap C++rest) 62 false)
 lo:w.next≤B
 hi:B < w'.next
 up:Up w w'
theorem call58 (h:CoN C V sz) (s:SN ov C V sz cI fv fc) (o:OeN ov) (m:Nat) (v:Value) (L:List α) (w:AW) (hv:RowsV C w v L) (hne:L ≠ []) (hn:L.length≤200) (hl:w.lim≤w.next) :
  ∃ x w',(run Tryz.prog ov (m + 208)).call 58 [v,fv] w .none=.ok (.ret x) w' .none∧∃ D B,EachN C cI w w' L x D B:=by
 refine call_wp text58 (by simp) (o.oEACH _ _) ?_
 obtain ⟨_,w1,c1,B,rfl,g1,lo,hi,u1⟩:=call90 (ov:=ov) h (m + 206) o.oCL v L w hv hne (by omega)
 have n1:=u1.next
 have m1:=u1.lim
 obtain ⟨_,w2,c2,rfl,Ls,⟨hi2,hmv⟩,hs⟩:=call91 m s o.os o.oSRT L.length L.length hn B L rfl w1 (by omega) (by omega) hi g1
 have hlen:Ls.length=L.length:=hmv.len
 have n2:=hi2.next
 have m2:=hi2.lim
 obtain ⟨_,w3,c3,rfl,ho3⟩:=call93 (ov:=ov) h (m + 206) o.oCMP L.length L.length hn (Nat.le_refl _) B w2 (by omega) Ls hlen hi2.row
 obtain ⟨rest,hrow⟩:=ho3.row
 have n3:=ho3.next
 have m3:=ho3.lim
 obtain ⟨_,w4,c4,rfl,e4⟩:=call92 (ov:=ov) h (m + 206) o.oCLIP B (ddN Ls L.length).length L.length (by have:=ddN_le Ls L.length; omega) w3 _ hrow
 rw [e4] at c4
 clear e4 w4
 have hu:Up w w3:=⟨fun b hb=>by rw [ho3.old b (by omega) (by omega),hi2.old b (by omega) (by omega),u1.at hb],by omega,by omega⟩
 simp [mc58,c1,c2,c3,c4,tupV,notJunk]
 exact ⟨_,B,⟨⟨Ls,hmv,hs,rfl⟩,rfl,⟨rest,hrow⟩,lo,by omega,hu⟩⟩
theorem call58n (o:OeN ov) (m:Nat) (w:AW):∃ x w',(run Tryz.prog ov (m + 4)).call 58 [.slice none 0 0,fv] w .none=.ok (.ret x) w' .none∧x=.slice none 0 0∧w'=w:=by
 refine call_wp text58 (by simp) (o.oEACH _ _) ?_
 obtain ⟨_,w1,c1,rfl,e1⟩:=call90n (ov:=ov) (m + 2) o.oCL w
 rw [e1] at c1
 obtain ⟨_,w2,c2,rfl,e2⟩:=call91n (fv:=fv) (ov:=ov) none 0 m o.os o.oSRT w
 rw [e2] at c2
 obtain ⟨_,w3,c3,rfl,e3⟩:=call93n (ov:=ov) none 0 (m + 2) o.oCMP w
 rw [e3] at c3
 obtain ⟨_,w4,c4,rfl,e4⟩:=call92n (ov:=ov) (m + 2) o.oCLIP w
 rw [e4] at c4
 simp [mc58,c1,c2,c3,c4,tupV,notJunk]
theorem call900 (h:CoN C V sz) (m:Nat) (ho:∀ args w,ov 90 args w=none) (a:Addr) (c:Nat) (w:AW):∃ x w',(run Tryz.prog ov (m + 1)).call 90 [.slice (some a) 0 c] w .none=.ok (.ret x) w' .none∧x=.slice (some ⟨w.next,0,some 2⟩) 0 0∧w'=⟨w.heap.put w.next (some (.cells [] 62 false)),w.next + 1,w.lim⟩:=by
 refine call_wp text90 (by simp) (ho _ _) ?_
 have hcp:append1 Tryz.prog ⟨w.heap.put w.next (some (.cells [] 62 false)),w.next + 1,w.lim⟩ [22,22] [.slice (some ⟨w.next,0,some 2⟩) 0 0,.slice (some a) 0 c]=.val (.slice (some ⟨w.next,0,some 2⟩) 0 0) ⟨w.heap.put w.next (some (.cells [] 62 false)),w.next + 1,w.lim⟩:=by
  rw [append_eq (by kernel_rfl) (by kernel_rfl) h.sz_ (by kernel_rfl)]
  have e5:srcCells ⟨w.heap.put w.next (some (.cells [] 62 false)),w.next + 1,w.lim⟩ sz (.slice (some a) 0 c)=some []:=by
   show (bif Nat.beq (0 * sz) 0 then some [] else _)=_
   rw [Nat.zero_mul]; rfl
  have e4:lenA (.slice (some a) 0 c)=some 0:=rfl
  rw [e4,e5]
  have e7:Nat.beq (lenL ([]:List Value) 0) 0=true:=rfl
  have e8:Nat.ble 0 1000000=true:=Nat.ble_eq_true_of_le (by omega)
  simp [appendB,e7,e8]
 simp [mc90,eqn22,isConst,hcp,notJunk,tupV]
theorem call920 (h:CoN C V sz) (m:Nat) (ho:∀ args w,ov 92 args w=none) (a:Addr) (w:AW) (cs:List Value) (hg:w.heap.get a.block=some (.cells cs 62 false)) :
  ∃ x w',(run Tryz.prog ov (m + 1)).call 92 [.slice (some a) 0 0] w .none=.ok (.ret x) w' .none∧x=.slice (some ⟨a.block,a.off,some 2⟩) 0 0∧w'=w:=by
 refine call_wp text92 (by simp) (ho _ _) ?_
 have st:=slice_three (P:=Tryz.prog) (st:=22) (e:=62) (by kernel_rfl) h.sz_ (w:=w) (a:=a) (n:=0) (c:=0) (k:=0) (j:=0) hg (Nat.le_refl _) (Nat.le_refl _)
 simp at st
 simp [mc92,st,tupV,notJunk]
theorem call580 (h:CoN C V sz) (o:OeN ov) (m:Nat) (a:Addr) (c:Nat) (w:AW):∃ x w',(run Tryz.prog ov (m + 4)).call 58 [.slice (some a) 0 c,fv] w .none=.ok (.ret x) w' .none∧∃ B,x=.slice (some ⟨B,0,some 2⟩) 0 0∧Up w w':=by
 refine call_wp text58 (by simp) (o.oEACH _ _) ?_
 obtain ⟨_,w1,c1,rfl,e1⟩:=call900 (ov:=ov) h (m + 2) o.oCL a c w
 obtain ⟨_,w2,c2,rfl,e2⟩:=call91n (fv:=fv) (ov:=ov) (some ⟨w.next,0,some 2⟩) 0 m o.os o.oSRT w1
 rw [e2] at c2
 obtain ⟨_,w3,c3,rfl,e3⟩:=call93n (ov:=ov) (some ⟨w.next,0,some 2⟩) 0 (m + 2) o.oCMP w1
 rw [e3] at c3
 obtain ⟨_,w4,c4,rfl,e4⟩:=call920 (ov:=ov) h (m + 2) o.oCLIP ⟨w.next,0,some 2⟩ w1 [] (by rw [e1]; simp)
 rw [e4] at c4
 have hu:Up w w1:=by rw [e1]; exact (Up.refl w).add _
 simp [mc58,c1,c2,c3,c4,tupV,notJunk]
 exact hu
end
section
variable {α:Type} [DecidableEq α] {C:α→List Value} {V:α→Value} {sz:Nat} {cI:α→α→Int} {fv:Value} {fc:FuncId} {ov:Ov}
theorem eqn28 (a:Addr) (n c:Nat) (w:AW):(binW Tryz.prog .eql 28 true).val (.slice (some a) n c) (.slice none 0 0) w=.val (.bool false) w:=by kernel_rfl
theorem eqn28n (w:AW):(binW Tryz.prog .eql 28 true).val (.slice none 0 0) (.slice none 0 0) w=.val (.bool true) w:=by kernel_rfl
theorem call111 (h:CoW C V sz) (m:Nat) (ho:∀ args w,ov 111 args w=none) (v:Value) (L:List α) (w:AW) (hv:RowsV C w v L) (hne:L ≠ []) (hn:L.length≤1000) :
  ∃ x w',(run Tryz.prog ov (m + 1)).call 111 [v] w .none=.ok (.ret x) w' .none∧∃ B,x=.slice (some ⟨B,0,none⟩) L.length L.length∧w'.heap.get B=some (.cells (L.flatMap C) 9 false)∧w.next≤B∧B < w'.next∧Up w w':=by
 refine call_wp text111 (by simp) (ho _ _) ?_
 have hpos:0 < L.length:=List.length_pos_iff.2 hne
 have hu:Up w ⟨w.heap.put w.next (some (.cells [] 9 false)),w.next + 1,w.lim⟩:=(Up.refl w).add _
 obtain ⟨h5,h4⟩:=src_rows h.len h.pos (hv.up hu) hne
 have hcp:=append_lit (P:=Tryz.prog) (st:=28) (e:=9) (by kernel_rfl) (by kernel_rfl) h.sz_ (by kernel_rfl) (w:=⟨w.heap.put w.next (some (.cells [] 9 false)),w.next + 1,w.lim⟩) (B:=w.next) (m:=L.length) h4 h5 (by rw [flat_length h.len]) hpos (by omega)
 obtain ⟨b,off,sq,c,rfl,hra⟩:=hv.at_ 0 hpos
 have nj:∀ (a:Addr) n c,notJunk (.slice (some a) n c)=some (.slice (some a) n c):=fun _ _ _=>rfl
 simp [mc111,eqn28,isConst,hcp,nj,tupV]
 exact ((Up.refl w).add _).put (by show w.next≤w.next + 1; omega) (by show w.next + 1≤w.next + 1 + 1; omega)
theorem call111n (m:Nat) (ho:∀ args w,ov 111 args w=none) (w:AW):∃ x w',(run Tryz.prog ov (m + 1)).call 111 [.slice none 0 0] w .none=.ok (.ret x) w' .none∧x=.slice none 0 0∧w'=w:=by
 refine call_wp text111 (by simp) (ho _ _) ?_
 simp [mc111,eqn28n,isConst,tupV,notJunk]
theorem call185n (a:Option Addr) (c:Nat) (m:Nat) (ho:∀ args w,ov 185 args w=none) (w:AW):∃ x w',(run Tryz.prog ov (m + 1)).call 185 [.slice a 0 c,.int .i64 0,.int .i64 0,fv] w .none=.ok (.ret x) w' .none∧x=.tuple ⟨[]⟩∧w'=w:=by
 refine call_wp text185 (by simp) (ho _ _) ?_
 simp [mc185]
 refine wp_blockX (wp_rounds (fun r t w'=>w'=w∧r=0∧tget t 8=.int .i64 1∧tget t 2=.int .i64 0) 2 (by decide) (by simp; decide) ?_)
 rintro r t w' ⟨hw,rfl,t8,t2⟩
 rw [hw]
 clear hw w'
 simp [mc185_l0,t8,t2,tupV]
theorem call166n (a:Option Addr) (c:Nat) (m:Nat) (o:OsW ov) (z:Int) (w:AW):∃ x w',(run Tryz.prog ov (m + 2)).call 166 [.slice a 0 c,.int .i64 0,.int .i64 0,.int .i64 z,fv] w .none=.ok (.ret x) w' .none∧x=.tuple ⟨[]⟩∧w'=w:=by
 refine call_wp text166 (by simp) (o.oPDQ _ _) ?_
 obtain ⟨_,w1,c1,rfl,e⟩:=call185n (fv:=fv) a c m o.oINS w
 rw [e] at c1
 clear e w1
 simp [mc166]
 refine wp_blockX (wp_rounds (fun r t w'=>w'=w∧r=0∧tget t 0=.slice a 0 c∧tget t 1=.int .i64 0∧tget t 2=.int .i64 0∧tget t 4=fv) 2 (by decide) (by simp) ?_)
 rintro r t w' ⟨hw,rfl,t0,t1,t2,t4⟩
 rw [hw]
 clear hw w'
 have e0:IntKind.wrap .i64 0=0:=by decide
 simp [mc166_l0,t0,t1,t2,t4,e0,c1,tupV]
theorem call134n (a:Option Addr) (c:Nat) (m:Nat) (o:OsW ov) (ho:∀ args w,ov 134 args w=none) (w:AW):∃ x w',(run Tryz.prog ov (m + 3)).call 134 [.slice a 0 c,fv] w .none=.ok (.ret x) w' .none∧x=.tuple ⟨[]⟩∧w'=w:=by
 refine call_wp text134 (by simp) (ho _ _) ?_
 obtain ⟨_,w1,c1,rfl,rfl⟩:=call124 m o.oLEN o.oL64 0 (by decide) w
 obtain ⟨_,w2,c2,rfl,rfl⟩:=call166n (fv:=fv) a c m o (bl 0:Nat) w1
 have e1:IntKind.wrap .u64 0=0:=by decide
 simp only [Int.natCast_zero] at c1
 simp [mc134,e1,c1,c2,tupV]
theorem call136n (a:Option Addr) (c:Nat) (m:Nat) (ho:∀ args w,ov 136 args w=none) (w:AW):∃ x w',(run Tryz.prog ov (m + 1)).call 136 [.slice a 0 c] w .none=.ok (.ret x) w' .none∧x=.slice a 0 c∧w'=w:=by
 refine call_wp text136 (by simp) (ho _ _) ?_
 simp [mc136,tupV,notJunk]
theorem clip28n (w:AW):sliceA Tryz.prog w 28 (.slice none 0 0) none (some (.int .i64 0)) (some (.int .i64 0))=.val (.slice none 0 0) w:=by kernel_rfl
theorem call135n (m:Nat) (ho:∀ args w,ov 135 args w=none) (w:AW):∃ x w',(run Tryz.prog ov (m + 1)).call 135 [.slice none 0 0] w .none=.ok (.ret x) w' .none∧x=.slice none 0 0∧w'=w:=by
 refine call_wp text135 (by simp) (ho _ _) ?_
 simp [mc135,clip28n,tupV,notJunk]
theorem call135 (h:CoW C V sz) (m:Nat) (ho:∀ args w,ov 135 args w=none) (B k c:Nat) (hk:k≤c) (w:AW) (cs:List Value) (hg:w.heap.get B=some (.cells cs 9 false)) :
  ∃ x w',(run Tryz.prog ov (m + 1)).call 135 [.slice (some ⟨B,0,none⟩) k c] w .none=.ok (.ret x) w' .none∧x=.slice (some ⟨B,0,some 2⟩) k k∧w'=w:=by
 refine call_wp text135 (by simp) (ho _ _) ?_
 have st:=slice_three (P:=Tryz.prog) (st:=28) (e:=9) (by kernel_rfl) h.sz_ (w:=w) (a:=⟨B,0,none⟩) (n:=k) (c:=c) (k:=k) (j:=k) hg (Nat.le_refl _) hk
 simp [mc135,st,tupV,notJunk]
structure OeW (ov:Ov):Prop where
 os:OsW ov
 oCL:∀ args w,ov 111 args w=none
 oSRT:∀ args w,ov 134 args w=none
 oCMP:∀ args w,ov 136 args w=none
 oCLIP:∀ args w,ov 135 args w=none
 oEACH:∀ args w,ov 96 args w=none
structure EachW (C:α→List Value) (cI:α→α→Int) (w w':AW) (L:List α) (x:Value) (D:List α) (B:Nat):Prop where
 srt:∃ Ls,Mv 0 L.length L Ls∧Srt (fun x y=>cI x y < 0) Ls 0 L.length∧D=ddN Ls L.length
 val:x=.slice (some ⟨B,0,some 2⟩) D.length D.length
 row:∃ rest,w'.heap.get B=some (.cells (D.flatMap C++rest) 9 false)
 lo:w.next≤B
 hi:B < w'.next
 up:Up w w'
theorem call96 (h:CoW C V sz) (s:SW ov C V sz cI fv fc) (o:OeW ov) (m:Nat) (v:Value) (L:List α) (w:AW) (hv:RowsV C w v L) (hne:L ≠ []) (hn:L.length≤200) (hl:w.lim≤w.next) :
  ∃ x w',(run Tryz.prog ov (m + 208)).call 96 [v,fv] w .none=.ok (.ret x) w' .none∧∃ D B,EachW C cI w w' L x D B:=by
 refine call_wp text96 (by simp) (o.oEACH _ _) ?_
 obtain ⟨_,w1,c1,B,rfl,g1,lo,hi,u1⟩:=call111 (ov:=ov) h (m + 206) o.oCL v L w hv hne (by omega)
 have n1:=u1.next
 have m1:=u1.lim
 obtain ⟨_,w2,c2,rfl,Ls,⟨hi2,hmv⟩,hs⟩:=call134 m s o.os o.oSRT L.length L.length hn B L rfl w1 (by omega) (by omega) hi g1
 have hlen:Ls.length=L.length:=hmv.len
 have n2:=hi2.next
 have m2:=hi2.lim
 obtain ⟨_,w3,c3,rfl,ho3⟩:=call136 (ov:=ov) h (m + 206) o.oCMP L.length L.length hn (Nat.le_refl _) B w2 (by omega) Ls hlen hi2.row
 obtain ⟨rest,hrow⟩:=ho3.row
 have n3:=ho3.next
 have m3:=ho3.lim
 obtain ⟨_,w4,c4,rfl,e4⟩:=call135 (ov:=ov) h (m + 206) o.oCLIP B (ddN Ls L.length).length L.length (by have:=ddN_le Ls L.length; omega) w3 _ hrow
 rw [e4] at c4
 clear e4 w4
 have hu:Up w w3:=⟨fun b hb=>by rw [ho3.old b (by omega) (by omega),hi2.old b (by omega) (by omega),u1.at hb],by omega,by omega⟩
 simp [mc96,c1,c2,c3,c4,tupV,notJunk]
 exact ⟨_,B,⟨⟨Ls,hmv,hs,rfl⟩,rfl,⟨rest,hrow⟩,lo,by omega,hu⟩⟩
theorem call96n (o:OeW ov) (m:Nat) (w:AW):∃ x w',(run Tryz.prog ov (m + 4)).call 96 [.slice none 0 0,fv] w .none=.ok (.ret x) w' .none∧x=.slice none 0 0∧w'=w:=by
 refine call_wp text96 (by simp) (o.oEACH _ _) ?_
 obtain ⟨_,w1,c1,rfl,e1⟩:=call111n (ov:=ov) (m + 2) o.oCL w
 rw [e1] at c1
 obtain ⟨_,w2,c2,rfl,e2⟩:=call134n (fv:=fv) (ov:=ov) none 0 m o.os o.oSRT w
 rw [e2] at c2
 obtain ⟨_,w3,c3,rfl,e3⟩:=call136n (ov:=ov) none 0 (m + 2) o.oCMP w
 rw [e3] at c3
 obtain ⟨_,w4,c4,rfl,e4⟩:=call135n (ov:=ov) (m + 2) o.oCLIP w
 rw [e4] at c4
 simp [mc96,c1,c2,c3,c4,tupV,notJunk]
theorem call1110 (h:CoW C V sz) (m:Nat) (ho:∀ args w,ov 111 args w=none) (a:Addr) (c:Nat) (w:AW):∃ x w',(run Tryz.prog ov (m + 1)).call 111 [.slice (some a) 0 c] w .none=.ok (.ret x) w' .none∧x=.slice (some ⟨w.next,0,some 2⟩) 0 0∧w'=⟨w.heap.put w.next (some (.cells [] 9 false)),w.next + 1,w.lim⟩:=by
 refine call_wp text111 (by simp) (ho _ _) ?_
 have hcp:append1 Tryz.prog ⟨w.heap.put w.next (some (.cells [] 9 false)),w.next + 1,w.lim⟩ [28,28] [.slice (some ⟨w.next,0,some 2⟩) 0 0,.slice (some a) 0 c]=.val (.slice (some ⟨w.next,0,some 2⟩) 0 0) ⟨w.heap.put w.next (some (.cells [] 9 false)),w.next + 1,w.lim⟩:=by
  rw [append_eq (by kernel_rfl) (by kernel_rfl) h.sz_ (by kernel_rfl)]
  have e5:srcCells ⟨w.heap.put w.next (some (.cells [] 9 false)),w.next + 1,w.lim⟩ sz (.slice (some a) 0 c)=some []:=by
   show (bif Nat.beq (0 * sz) 0 then some [] else _)=_
   rw [Nat.zero_mul]; rfl
  have e4:lenA (.slice (some a) 0 c)=some 0:=rfl
  rw [e4,e5]
  have e7:Nat.beq (lenL ([]:List Value) 0) 0=true:=rfl
  have e8:Nat.ble 0 1000000=true:=Nat.ble_eq_true_of_le (by omega)
  simp [appendB,e7,e8]
 simp [mc111,eqn28,isConst,hcp,notJunk,tupV]
theorem call1350 (h:CoW C V sz) (m:Nat) (ho:∀ args w,ov 135 args w=none) (a:Addr) (w:AW) (cs:List Value) (hg:w.heap.get a.block=some (.cells cs 9 false)) :
  ∃ x w',(run Tryz.prog ov (m + 1)).call 135 [.slice (some a) 0 0] w .none=.ok (.ret x) w' .none∧x=.slice (some ⟨a.block,a.off,some 2⟩) 0 0∧w'=w:=by
 refine call_wp text135 (by simp) (ho _ _) ?_
 have st:=slice_three (P:=Tryz.prog) (st:=28) (e:=9) (by kernel_rfl) h.sz_ (w:=w) (a:=a) (n:=0) (c:=0) (k:=0) (j:=0) hg (Nat.le_refl _) (Nat.le_refl _)
 simp at st
 simp [mc135,st,tupV,notJunk]
theorem call960 (h:CoW C V sz) (o:OeW ov) (m:Nat) (a:Addr) (c:Nat) (w:AW):∃ x w',(run Tryz.prog ov (m + 4)).call 96 [.slice (some a) 0 c,fv] w .none=.ok (.ret x) w' .none∧∃ B,x=.slice (some ⟨B,0,some 2⟩) 0 0∧Up w w':=by
 refine call_wp text96 (by simp) (o.oEACH _ _) ?_
 obtain ⟨_,w1,c1,rfl,e1⟩:=call1110 (ov:=ov) h (m + 2) o.oCL a c w
 obtain ⟨_,w2,c2,rfl,e2⟩:=call134n (fv:=fv) (ov:=ov) (some ⟨w.next,0,some 2⟩) 0 m o.os o.oSRT w1
 rw [e2] at c2
 obtain ⟨_,w3,c3,rfl,e3⟩:=call136n (ov:=ov) (some ⟨w.next,0,some 2⟩) 0 (m + 2) o.oCMP w1
 rw [e3] at c3
 obtain ⟨_,w4,c4,rfl,e4⟩:=call1350 (ov:=ov) h (m + 2) o.oCLIP ⟨w.next,0,some 2⟩ w1 [] (by rw [e1]; simp)
 rw [e4] at c4
 have hu:Up w w1:=by rw [e1]; exact (Up.refl w).add _
 simp [mc96,c1,c2,c3,c4,tupV,notJunk]
 exact hu
end
def nV (x:Nt):Value:=.agg ⟨ntC x⟩
def sV (x:Bs):Value:=.string ⟨⟨x⟩⟩
def sC (x:Bs):List Value:=[.string ⟨⟨x⟩⟩]
theorem coN:CoN ntC nV 9 where
 T:=SortT.agg (by kernel_rfl) (by kernel_rfl) (by kernel_rfl) ntC_length ntC_singles
 len:=ntC_length
 sg:=ntC_singles
 pos:=by decide
 sz_:=by kernel_rfl
 eq c x y w:=by rw [eq62]; unfold nV; rw [eq_nt]; rfl
 hz:=⟨.agg ⟨[.int .i64 0,.string ⟨⟨[]⟩⟩,.int .i64 0,.string ⟨⟨[]⟩⟩,.string ⟨⟨[]⟩⟩,.int .i64 0,.int .i64 0,.int .i64 0,.int .i64 0]⟩,by kernel_rfl,rfl,by kernel_rfl⟩
 ne c x y w:=by rw [ne62]; unfold nV; rw [eq_nt]; rfl
theorem coW:CoW sC sV 1 where
 T:=SortT.one (V:=sV) (by kernel_rfl) (by kernel_rfl) (by kernel_rfl) fun a=>⟨rfl,by simp [sV]⟩
 len _:=rfl
 sg _:=by simp [sC]
 pos:=by decide
 sz_:=by kernel_rfl
 eq c x y w:=by simp [sV,eq_str]
 hz:=⟨.string ⟨⟨[]⟩⟩,by kernel_rfl,rfl,by kernel_rfl⟩
 ne c x y w:=by simp [sV,eq_str]
def fv60:Value:=.func (.func 60) ⟨[]⟩ ⟨[]⟩
def fv97:Value:=.func (.func 97) ⟨[]⟩ ⟨[]⟩
def S137:PSpec:=S164
def S97:PSpec:=S164
theorem snN {ov:Ov} (h:HasP ov 60 S60.F):SN ov ntC nV 9 cmpN fv60 60 where
 T:=coN.T
 cv w args:=by unfold fv60; rw [callV_func]; simp; exact callFn_of (by kernel_rfl) _
 cm k w x y:=S60.call h ⟨x,y,rfl,rfl⟩
 wk:=cmpN_cmp.wk
theorem snW {ov:Ov} (h:HasP ov 97 S97.F):SW ov sC sV 1 cmpB fv97 97 where
 T:=coW.T
 cv w args:=by unfold fv97; rw [callV_func]; simp; exact cfe text97 _
 cm k w x y:=S97.call h ⟨x,y,rfl,rfl⟩
 wk:=cmpB_cmp.wk
theorem run137 {ov:Ov} (ho:∀ args w,ov 137 args w=none) (a b:Bs) (w:AW):∃ v w',(run Tryz.prog ov 2).call 137 [.string ⟨⟨a⟩⟩,.string ⟨⟨b⟩⟩] w .none=.ok (.ret v) w' .none∧v=.int .i64 (cmpB a b):=by
 refine call_wp text137 (by simp) (ho _ _) ?_
 simp [mc137,tupV,bytesOf]
theorem run97 {ov:Ov} (ho:∀ args w,ov 97 args w=none) (h137:HasP ov 137 S137.F) (a b:Bs) (w:AW):∃ v w',(run Tryz.prog ov 2).call 97 [.string ⟨⟨a⟩⟩,.string ⟨⟨b⟩⟩] w .none=.ok (.ret v) w' .none∧v=.int .i64 (cmpB a b):=by
 refine call_wp text97 (by simp) (ho _ _) ?_
 have c1:=S137.call1 (P:=Tryz.prog) h137 (args:=[.string ⟨⟨a⟩⟩,.string ⟨⟨b⟩⟩]) (w:=w) ⟨a,b,rfl,rfl⟩
 simp [mc97,tupV,c1]
end Go.Proofs.YtnjknghdpobcmaaGreatDoor.walk
