/- Part of a proof: see the text with the theorem. -/
import Derived.Test.YtdgllbepplldoaaGreatDoorTa
import Derived.Test.YtdgllbepplldoaaGreatDoorShF
set_option linter.all false
namespace Go.Proofs.YtdgllbepplldoaaGreatDoor.walk
open Go Go.Sh
set_option maxRecDepth 100000
theorem list33:isList Tryz.prog 33=true:=by kernel_rfl
theorem elem33:elemA Tryz.prog 33=some 3:=by kernel_rfl
theorem size3:szOf Tryz.prog 3=some 1:=by kernel_rfl
theorem small3:smallT Tryz.prog 3=true:=by kernel_rfl
def intC (z:Int):List Value:=[.int .i64 z]
theorem intC_length (z:Int):(intC z).length=1:=rfl
theorem intC_single (z:Int):singles (intC z)=true:=rfl
theorem len33V {w w':AW} {v:Value} {l:List Int} (h:RowsV intC w v l):lenB Tryz.prog w' 33 v=.val (.int .i64 (l.length:Nat)) w':=by
 obtain ⟨a,c,rfl⟩:=h.len; simp
theorem row_int {H:T AObj} {n b off:Nat} {l:List Int} (h:RowsA intC H n b off l) {i:Nat} {z:Int} (hz:l[i]?=some z):rd1O (H.get b) (off + i)=some (.int .i64 z):=by
 have:=h.rd1 (m:=1) (j:=0) (x:=.int .i64 z) intC_length hz rfl
 simpa using this
theorem run60 {ov:Ov} (ho:∀ args w,ov 60 args w=none) (m:Nat) (u:Value) (l:List Int) (hb:∀ z ∈ l,0≤z∧z≤2 ^ 30) (hl:l.length≤100) (w:AW) (hu:RowsV intC w u l):(run Tryz.prog ov (m + 1)).call 60 [u] w .none=.ok (.ret (.int .i64 l.sum)) w .none:=by
 have key:∃ v w',(run Tryz.prog ov (m + 1)).call 60 [u] w .none=.ok (.ret v) w' .none∧v=.int .i64 l.sum∧w'=w:=by
  refine call_wp text60 (by simp) (ho _ _) ?_
  have hlu:=fun w'=>len33V (w':=w') hu
  simp [mc60,hlu]
  refine wp_seqX (wp_blockX (wp_rounds (fun i t w'=>w'=w∧tget t 3=.int .i64 (l.take i).sum∧tget t 6=u∧tget t 7=.int .i64 (l.length:Nat)∧tget t 8=.int .i64 (i:Nat)∧i≤l.length∧0≤(l.take i).sum∧(l.take i).sum≤i * 2 ^ 30) 200 (by decide) ?_ ?_))
  ·simp
  ·rintro i t w' ⟨rfl,t3,t6,t7,t8,hi,s0,s1⟩
   by_cases hlt:i < l.length
   ·obtain ⟨z,hz⟩:∃ z,l[i]?=some z:=⟨_,List.getElem?_eq_getElem hlt⟩
    obtain ⟨b,off,sq,c,rfl,hr⟩:=hu.at_ i hlt
    have hia:=fun w=>ia33 w ⟨b,off,sq⟩ l.length c .i64 i hlt
    have hd:=row_int hr hz
    have hbz:=hb z (List.mem_of_getElem? hz)
    have e1:(l.take (i + 1)).sum=(l.take i).sum + z:=by rw [List.take_add_one,hz]; simp
    have hw1:IntKind.wrap .i64 ((l.take i).sum + z)=(l.take (i + 1)).sum:=by rw [e1]; exact wrap64_in (by omega) (by omega)
    have hw:IntKind.wrap .i64 ((i:Int) + 1)=(i:Int) + 1:=wrap64_in (by omega) (by omega)
    simp [mc60_l0,t3,t6,t7,t8,hlt,hia,hd,hw,hw1]
    refine ⟨by omega,by omega,by omega,?_⟩
    rw [e1]; push_cast; omega
   ·have hi':i=l.length:=by omega
    subst hi'
    rw [List.take_length] at t3
    simp [mc60_l0,t3,t7,t8,tupV]
 obtain ⟨v,w',h,rfl,rfl⟩:=key
 exact h
theorem bin_shlN (w:AW) (s:TypeId) (c:Bool) (a:Int) (n:Nat) (h0:0≤a) (h1:a≤36) (hn:n≤17):(binW Tryz.prog .shl s c).val (.int .i64 a) (.int .i64 (n:Int)) w=.val (.int .i64 (a * 2 ^ n)) w:=by
 show vR w (shiftV shlA (.int .i64 a) (.int .i64 (n:Int)))=_
 have hneg:¬ (n:Int) < 0:=by omega
 have e2:min (n:Int).toNat IntKind.i64.bits=n:=by
  have:IntKind.i64.bits=64:=rfl
  omega
 have e:wrapA .i64 (a * 2 ^ (min (n:Int).toNat IntKind.i64.bits))=a * 2 ^ n:=by
  rw [e2,wrapA_eq]
  have h2:(2:Int) ^ n≤2 ^ 17:=by
   have:(2:Nat) ^ n≤2 ^ 17:=Nat.pow_le_pow_right (by decide) hn
   have h3:((2 ^ n:Nat):Int)≤((2 ^ 17:Nat):Int):=Int.ofNat_le.2 this
   simpa using h3
  have h3:(0:Int) < 2 ^ n:=Int.pow_pos (by decide)
  have h4:=Int.mul_nonneg h0 (Int.le_of_lt h3)
  have h5:a * 2 ^ n≤36 * 2 ^ 17:=Int.mul_le_mul h1 h2 (Int.le_of_lt h3) (by decide)
  exact wrap64_in (by omega) (by omega)
 simp only [shiftV,shlA,intLt_eq,decide_eq_false hneg,cond_false,vR]
 rw [e]
def paL (s:List UInt8) (n:Nat):List Int:=(List.range n).map fun j=>vfI s j * pwI j
theorem paL_len (s:List UInt8) (n:Nat):(paL s n).length=n:=by simp [paL]
theorem paL_succ (s:List UInt8) (n:Nat):paL s (n + 1)=paL s n++[vfI s n * pwI n]:=by unfold paL; rw [List.range_succ,List.map_append]; rfl
theorem paL_sum (s:List UInt8):∀ n,(paL s n).sum=sumW (vfI s) pwI n
 | 0=>rfl
 | n + 1=>by rw [paL_succ,List.sum_append,paL_sum s n]; simp [sumW]
theorem pw_bd {n:Nat} (hn:n≤16):0 < pwI n∧pwI n≤2 ^ 17:=by
 have:(2:Nat) ^ (n + 1)≤2 ^ 17:=Nat.pow_le_pow_right (by decide) (by omega)
 have h3:((2 ^ (n + 1):Nat):Int)≤((2 ^ 17:Nat):Int):=Int.ofNat_le.2 this
 unfold pwI
 exact ⟨Int.pow_pos (by decide),by simpa using h3⟩
theorem paL_bd {s:List UInt8} (h:areB s 0 17=true) {n:Nat} (hn:n≤s.length):∀ z ∈ paL s n,0≤z∧z≤2 ^ 30:=by
 intro z hz
 obtain ⟨j,hj,rfl⟩:=List.mem_map.1 hz
 have hj:=List.mem_range.1 hj
 obtain ⟨_,l2,_⟩:=are_all h
 have hv:=vf_bd h (j:=j) (by omega)
 have hp:=pw_bd (n:=j) (by omega)
 have h5:vfI s j * pwI j≤36 * 2 ^ 17:=Int.mul_le_mul (by omega) hp.2 (by omega) (by decide)
 exact ⟨Int.mul_nonneg hv.1 (by omega),by omega⟩
def S30:PSpec where
 R args w v:=∃ s:ByteArray,args=[.string s]∧(SgAt w∧0 < w.next)∧areB s.data.toList 0 17=true∧v=bV (chkS s.data.toList)
 uniq:=by rintro _ _ _ _ ⟨s,rfl,_,_,rfl⟩ ⟨_,h,_,_,rfl⟩; cases h; rfl
 shut:=by rintro _ _ _ ⟨s,h1,h2,h3⟩; exact ⟨s,h1,h2,h3⟩
theorem run30 {ov:Ov} (ho:∀ args w,ov 30 args w=none) (h59:∀ args w,ov 59 args w=none) (h60:∀ args w,ov 60 args w=none) (s:ByteArray) (w:AW) (hl:w.lim=w.next) (hs:SgAt w) (h0:0 < w.next) (ha:areB s.data.toList 0 17=true) :
  ∃ v w',(run Tryz.prog ov 3).call 30 [.string s] w .none=.ok (.ret v) w' .none∧v=bV (chkS s.data.toList):=by
 refine call_wp text30 (by simp) (ho _ _) ?_
 obtain ⟨⟨L⟩⟩:=s
 have ha:areB L 0 17=true:=ha
 obtain ⟨_,l2,hall⟩:=are_all ha
 simp [mc30]
 refine wp_seqX (wp_blockX (wp_rounds (fun i t w'=>Up w w'∧AccR intC 3 w.next w' (tget t 3) (paL L i)∧tget t 0=.string ⟨⟨L⟩⟩∧tget t 8=.int .i64 (L.length:Nat)∧tget t 9=.int .i64 (i:Nat)∧i≤L.length) 200 (by decide) ?_ ?_))
 ·refine ⟨Up.refl w,?_⟩
  simp [paL,AccR]
 ·rintro i t w' ⟨hu,hacc,t0,t8,t9,hi⟩
  have hsg:=hs.up hu h0
  have hn:=hu.next
  have hlm:=hu.lim
  by_cases hlt:i < L.length
  ·obtain ⟨c,hc⟩:∃ c,L[i]?=some c:=⟨_,List.getElem?_eq_getElem hlt⟩
   have hx:∀ w k,indexA Tryz.prog w 9 (.string ⟨⟨L⟩⟩) (.int k (i:Int))=.val (.int .u8 (c.toNat:Int)) w:=fun w k=>ix9 w _ k i c hc
   have r59:=run59 h59 1 c w' hsg
   have hsc:=hall i c hc
   have ev:(vN c:Int)=vfI L i:=by rw [vf_at hc]; unfold vN; rw [if_pos hsc]
   rw [ev] at r59
   have hv:=vf_bd ha hlt
   have hw:IntKind.wrap .i64 ((i:Int) + 1)=(i:Int) + 1:=wrap64_in (by omega) (by omega)
   have hsh:∀ (c:Bool) (w:AW),(binW Tryz.prog .shl 3 c).val (.int .i64 (vfI L i)) (.int .i64 ((i:Int) + 1)) w=.val (.int .i64 (vfI L i * pwI i)) w:=fun c w=>by
    have:=bin_shlN w 3 c (vfI L i) (i + 1) hv.1 (by omega) (by omega)
    have e:((i + 1:Nat):Int)=(i:Int) + 1:=by omega
    rw [e] at this
    exact this
   obtain ⟨v',w2,hap,hacc',hk,hn2,hl2⟩:=AccR.push3 (P:=Tryz.prog) (st:=33) (sz:=1) list33 elem33 size3 small3 intC_length intC_single (by decide) hacc (by omega) hn (by rw [paL_len]; omega) (vfI L i * pwI i)
   rw [← paL_succ] at hacc'
   have hok:=hacc.ok
   simp only [intC] at hap
   simp [mc30_l0,t0,t8,t9,hlt,hx,r59,hw,hsh,hok,hap]
   exact ⟨by omega,⟨fun x hx=>by rw [hk x hx]; exact hu.at hx,by omega,by omega⟩,hacc',by omega⟩
  ·have hi':i=L.length:=by omega
   subst hi'
   have hok:=hacc.ok
   have r60:=run60 h60 1 (tget t 3) (paL L L.length) (paL_bd ha (Nat.le_refl _)) (by rw [paL_len]; omega) w' hacc.rows
   rw [paL_sum] at r60
   have hS0:0≤sumW (vfI L) pwI L.length:=by
    rw [← paL_sum]
    have hb:=paL_bd ha (Nat.le_refl L.length)
    generalize paL L L.length=l at hb
    induction l with
    | nil=>exact Int.le_refl _
    | cons z l ih=>rw [List.sum_cons]; have:=(hb z (.head _)).1; have:=ih (fun y hy=>hb y (.tail _ hy)); omega
   have hcl:=chk_lt L
   have ek:(sumW (vfI L) pwI L.length).tmod 37=(chkN L:Int):=by
    rw [Int.tmod_eq_emod_of_nonneg hS0]
    have h1:=Int.emod_nonneg (sumW (vfI L) pwI L.length) (show (37:Int) ≠ 0 by decide)
    unfold chkN; omega
   have hrem:∀ (c:Bool) (w:AW),(binW Tryz.prog .rem 3 c).val (.int .i64 (sumW (vfI L) pwI L.length)) (.int .i64 37) w=.val (.int .i64 (chkN L:Int)) w:=fun c w=>by rw [bin_rem 3 c .i64 _ 37 (by decide),ek]
   have hia:=fun w a=>ia96 w a .i64 hcl
   obtain ⟨ty,ro,g⟩:=hsg
   have hat:=sgC_at (chk_at L)
   have hrd:rd1O (w'.heap.get 0) (chkN L)=some (bV (chkS L)):=by rw [g,rd1O_cells,hat]
   have hnj:notJunk (bV (chkS L))=some (bV (chkS L)):=rfl
   simp [mc30_l0,t8,t9,hok,r60,hrem,hia,hrd,hnj,tupV]
def byC (L:List UInt8):List Value:=L.map bV
@[simp] theorem byC_len (L:List UInt8):(byC L).length=L.length:=by simp [byC]
theorem byC_at {L:List UInt8} {i:Nat} {c:UInt8} (h:L[i]?=some c):(byC L)[i]?=some (bV c):=by unfold byC; rw [List.getElem?_map,h]; rfl
theorem byC_set {L:List UInt8} {i:Nat} (c:UInt8) (h:i < L.length):(byC L).take i++(bV c::(byC L).drop (i + 1))=byC (L.set i c):=by
 unfold byC
 rw [List.map_set,List.set_eq_take_append_cons_drop,if_pos (by simpa using h)]
theorem u9:Tryz.prog.underlying 9=some .string:=by kernel_rfl
theorem u92:Tryz.prog.underlying 92=some (.slice 5):=by kernel_rfl
theorem byte5:isByte Tryz.prog 5=true:=by kernel_rfl
theorem cvSB (w:AW) (L:List UInt8):convertA Tryz.prog w 9 92 (.string ⟨⟨L⟩⟩)=.val (.slice (some ⟨w.next,0,none⟩) L.length L.length) ⟨w.heap.put w.next (some (.cells (byC L) 5 false)),w.next + 1,w.lim⟩:=by
 have e:mapL byteV (bytesOf ⟨⟨L⟩⟩)=byC L:=by rw [mapL_eq]; rfl
 have e2:lenL (bytesOf ⟨⟨L⟩⟩) 0=L.length:=lenL0 _
 simp [convertA,u9,u92,convTo,convSlice,strToBytes,byte5,e,e2,newR,AW.add,rowV]
theorem str_cells:∀ L:List UInt8,strOfCells (byC L)=some L
 | []=>rfl
 | c::L=>by
  have ih:=str_cells L
  have e:byC (c::L)=.int .u8 (c.toNat:Int)::byC L:=rfl
  rw [e]
  simp [strOfCells,ih]
theorem cvBS (w:AW) (B c:Nat) (L:List UInt8) {e:TypeId} {ro:Bool} (h:w.heap.get B=some (.cells (byC L) e ro)):convertA Tryz.prog w 92 9 (.slice (some ⟨B,0,none⟩) L.length c)=.val (.string ⟨⟨L⟩⟩) w:=by
 have e1:rdO (w.heap.get B) 0 L.length=some (byC L):=by
  rw [h,rdO_cells,if_pos (by simp),List.drop_zero,List.take_of_length_le (by simp)]
 simp [convertA,u9,u92,convTo,convStr,convRow,byte5,bytesToStr,e1,strR,str_cells]
theorem sl9 (w:AW) (L:List UInt8) {k:Nat} (hk:k≤L.length):sliceA Tryz.prog w 9 (.string ⟨⟨L⟩⟩) none (some (.int .i64 (k:Int))) none=.val (.string ⟨⟨L.take k⟩⟩) w:=by
 show sliceA Tryz.prog w 9 (.string ⟨⟨L⟩⟩) none (some (.int .i64 (Int.ofNat k))) none=_
 have e:bytesOf ⟨⟨L⟩⟩=L:=rfl
 have hb:Nat.ble k L.length=true:=Nat.ble_eq_true_of_le hk
 simp [sliceA,sliceB1,u9,sliceStr,boundA,e,lenL0,hb,takeL_eq,dropL_eq]
theorem areB_drop {L:List UInt8} (h:areB L 2 17=true):areB (L.take (L.length - 1)) 0 17=true:=by
 obtain ⟨h1,h2,h3⟩:=are_all h
 unfold areB
 rw [List.length_take,decide_eq_true (Nat.zero_le _),decide_eq_true (by omega),Bool.true_and,Bool.true_and,List.all_eq_true]
 intro c hc
 obtain ⟨k,hk⟩:=List.getElem?_of_mem hc
 rw [List.getElem?_take] at hk
 split at hk
 ·exact h3 k c hk
 ·cases hk
def S10:PSpec where
 R args w v:=∃ s:ByteArray,args=[.string s]∧(SgAt w∧0 < w.next)∧v=.bool (codeB s.data.toList)
 uniq:=by rintro _ _ _ _ ⟨s,rfl,_,rfl⟩ ⟨_,h,_,rfl⟩; cases h; rfl
 shut:=by rintro _ _ _ ⟨s,h1,h2,h3⟩; exact ⟨s,h1,h2,h3⟩
theorem run10 {ov:Ov} (ho:∀ args w,ov 10 args w=none) (h33:∀ args w,ov 33 args w=none) (h29:∀ args w,ov 29 args w=none) (h58:∀ args w,ov 58 args w=none) (h59:∀ args w,ov 59 args w=none) (h30:HasP ov 30 S30.F) (s:ByteArray) (w:AW) (hs:SgAt w) (h0:0 < w.next) :
  ∃ v w',(run Tryz.prog ov 5).call 10 [.string s] w .none=.ok (.ret v) w' .none∧v=.bool (codeB s.data.toList):=by
 refine call_wp text10 (by simp) (ho _ _) ?_
 obtain ⟨⟨L⟩⟩:=s
 have r33:=fun w hs=>run33 h58 h59 h29 h33 1 ⟨⟨L⟩⟩ w hs
 have r:=r33 w hs
 cases ha:areB L 2 17 with
 | false =>
  have e:codeB L=false:=by unfold codeB; rw [ha]; rfl
  have ha':areB (⟨⟨L⟩⟩:ByteArray).data.toList 2 17=false:=ha
  rw [ha'] at r
  simp [mc10,r,tupV,e]
 | true =>
  have ha':areB (⟨⟨L⟩⟩:ByteArray).data.toList 2 17=true:=ha
  rw [ha'] at r
  obtain ⟨l1,l2,_⟩:=are_all ha
  have hw:IntKind.wrap .i64 ((L.length:Int) - 1)=((L.length - 1:Nat):Int):=by rw [wrap64_in (by omega) (by omega)]; omega
  have hsl:=fun w=>sl9 w L (k:=L.length - 1) (by omega)
  obtain ⟨c,hc⟩:∃ c,L[L.length - 1]?=some c:=⟨_,List.getElem?_eq_getElem (by omega)⟩
  have hx:∀ w k,indexA Tryz.prog w 9 (.string ⟨⟨L⟩⟩) (.int k ((L.length - 1:Nat):Int))=.val (.int .u8 (c.toNat:Int)) w:=fun w k=>ix9 w _ k _ c hc
  have r30:=S30.call (P:=Tryz.prog) h30 (m:=3) (w:=w) ⟨⟨⟨L.take (L.length - 1)⟩⟩,rfl,⟨hs,h0⟩,areB_drop ha,rfl⟩
  have e:codeB L=decide (c=chkS (L.take (L.length - 1))):=by
   unfold codeB
   rw [ha,Bool.true_and,List.getLast?_eq_getElem?,hc,List.dropLast_eq_take]
   simp only [Option.some.injEq]
  generalize ((L.length - 1:Nat):Int)=zk at hw hsl hx
  by_cases hcc:c=chkS (L.take (L.length - 1))
  ·rw [decide_eq_true hcc] at e
   simp [bV,← hcc] at r30
   simp [mc10,r,hw,hsl,hx,r30,tupV,e]
  ·rw [decide_eq_false hcc] at e
   have hne:¬ ((c.toNat:Int)=((chkS (L.take (L.length - 1))).toNat:Int)):=fun h=>hcc (byte_eq.1 h)
   simp [bV] at r30
   simp [mc10,r,hw,hsl,hx,r30,tupV,e,hne]
def S62:PSpec where
 R args w v:=∃ (L:List UInt8) (i:Nat) (c:UInt8),args=[.string ⟨⟨L⟩⟩,.int .i64 (i:Int),bV c]∧i < L.length∧v=.string ⟨⟨L.set i c⟩⟩
 uniq:=by
  rintro _ _ _ _ ⟨L,i,c,rfl,_,rfl⟩ ⟨L',i',c',h,_,rfl⟩
  simp only [List.cons.injEq,Value.string.injEq,ByteArray.mk.injEq,Array.mk.injEq,Value.int.injEq,bV,and_true,true_and] at h
  obtain ⟨rfl,h2,h3⟩:=h
  have:i=i':=by omega
  have:c=c':=byte_eq.1 h3
  subst i' c'; rfl
 shut h:=h
theorem run62 {ov:Ov} (ho:∀ args w,ov 62 args w=none) (L:List UInt8) (i:Nat) (c:UInt8) (hi:i < L.length) (w:AW) (hl:w.lim=w.next) :
  ∃ v w',(run Tryz.prog ov 2).call 62 [.string ⟨⟨L⟩⟩,.int .i64 (i:Int),bV c] w .none=.ok (.ret v) w' .none∧v=.string ⟨⟨L.set i c⟩⟩:=by
 refine call_wp text62 (by simp) (ho _ _) ?_
 have hia:=fun w a=>ia92 w a L.length L.length .i64 i hi
 have hset:=byC_set c hi
 have hcv:=fun w B e ro h=>cvBS w B L.length (L.set i c) (e:=e) (ro:=ro) h
 rw [List.length_set] at hcv
 have hl':w.lim≤w.next:=by omega
 have hcells:cellsOf (bV c)=[bV c]:=rfl
 have hnj:notJunk (bV c)=some (bV c):=rfl
 have hsb:singles [bV c]=true:=rfl
 have hsg:single (bV c)=true:=rfl
 have hi2:i + 1≤L.length:=hi
 have hw2:=hcv ⟨(w.heap.put w.next (some (.cells (byC L) 5 false))).put w.next (some (.cells (byC (L.set i c)) 5 false)),w.next + 1,w.lim⟩ w.next 5 false (by simp)
 simp [mc62,cvSB,hia,hcells,hnj,hsb,hsg,hl',hi,hi2,hset,hw2,tupV]
theorem bV_cells (c:UInt8):cellsOf (bV c)=[bV c]:=rfl
theorem bV_singles (c:UInt8):singles [bV c]=true:=rfl
def S63:PSpec where
 R args w v:=∃ (L:List UInt8) (i:Nat) (a b:UInt8),args=[.string ⟨⟨L⟩⟩,.int .i64 (i:Int)]∧L[i]?=some a∧L[i + 1]?=some b∧i < 1000∧v=.string ⟨⟨(L.set i b).set (i + 1) a⟩⟩
 uniq:=by
  rintro _ _ _ _ ⟨L,i,a,b,rfl,h1,h2,_,rfl⟩ ⟨L',i',a',b',h,k1,k2,_,rfl⟩
  simp only [List.cons.injEq,Value.string.injEq,ByteArray.mk.injEq,Array.mk.injEq,Value.int.injEq,and_true,true_and] at h
  obtain ⟨rfl,h3⟩:=h
  have:i=i':=by omega
  subst i'
  rw [h1] at k1
  rw [h2] at k2
  cases k1; cases k2; rfl
 shut h:=h
theorem ld5b {w:AW} {B:Nat} {L:List UInt8} {e:TypeId} {ro:Bool} {i:Nat} {c:UInt8} (h:w.heap.get B=some (.cells (byC L) e ro)) (hc:L[i]?=some c):loadA Tryz.prog w 5 (.pointer (some ⟨B,i,none⟩))=.val (bV c) w:=by
 rw [ld5]
 have:rd1 w B i=some (bV c):=by rw [rd1_eq,h,rd1O_cells,byC_at hc]
 show vR w (rd1 w B i)=_
 rw [this]; rfl
theorem st5b {w:AW} {B:Nat} {L:List UInt8} {e:TypeId} {i:Nat} (c:UInt8) (h:w.heap.get B=some (.cells (byC L) e false)) (hi:i < L.length) (hl:w.lim≤B):storeA Tryz.prog w 5 (.pointer (some ⟨B,i,none⟩)) (bV c)=.val undef ⟨w.heap.put B (some (.cells (byC (L.set i c)) e false)),w.next,w.lim⟩:=by
 rw [st5 _ _ _ (by rw [bV_cells]; rfl)]
 simp only [wr_eq,bV_cells,h]
 rw [wrO_cells (bV_singles c) hl (by simp; omega)]
 have:=byC_set c hi
 simp only [List.singleton_append,List.length_singleton]
 rw [this]; rfl
theorem run63 {ov:Ov} (ho:∀ args w,ov 63 args w=none) (L:List UInt8) (i:Nat) (a b:UInt8) (ha:L[i]?=some a) (hb:L[i + 1]?=some b) (hi:i < 1000) (w:AW) (hl:w.lim=w.next) :
  ∃ v w',(run Tryz.prog ov 2).call 63 [.string ⟨⟨L⟩⟩,.int .i64 (i:Int)] w .none=.ok (.ret v) w' .none∧v=.string ⟨⟨(L.set i b).set (i + 1) a⟩⟩:=by
 refine call_wp text63 (by simp) (ho _ _) ?_
 have l1:=(List.getElem?_eq_some_iff.1 hb).1
 obtain ⟨w1,hw1⟩:∃ w1:AW,w1=⟨w.heap.put w.next (some (.cells (byC L) 5 false)),w.next + 1,w.lim⟩:=⟨_,rfl⟩
 have g1:w1.heap.get w.next=some (.cells (byC L) 5 false):=by rw [hw1]; simp
 have hl1:w1.lim≤w.next:=by rw [hw1]; show w.lim≤w.next; omega
 have i1:=fun w a=>ia92 w a L.length L.length .i64 i (by omega)
 have i2:=fun w a=>ia92 w a L.length L.length .i64 (i + 1) l1
 have e1:((i + 1:Nat):Int)=(i:Int) + 1:=by omega
 have hw:IntKind.wrap .i64 ((i:Int) + 1)=(i:Int) + 1:=wrap64_in (by omega) (by omega)
 have d1:=ld5b g1 ha
 have d2:=ld5b g1 hb
 have s1:=st5b (i:=i) b g1 (by omega) hl1
 obtain ⟨w2,hw2⟩:∃ w2:AW,w2=⟨w1.heap.put w.next (some (.cells (byC (L.set i b)) 5 false)),w1.next,w1.lim⟩:=⟨_,rfl⟩
 have g2:w2.heap.get w.next=some (.cells (byC (L.set i b)) 5 false):=by rw [hw2]; simp
 have s2:=st5b (i:=i + 1) a g2 (by rw [List.length_set]; exact l1) (by rw [hw2]; exact hl1)
 obtain ⟨w3,hw3⟩:∃ w3:AW,w3=⟨w2.heap.put w.next (some (.cells (byC ((L.set i b).set (i + 1) a)) 5 false)),w2.next,w2.lim⟩:=⟨_,rfl⟩
 have c3:=cvBS w3 w.next L.length ((L.set i b).set (i + 1) a) (e:=5) (ro:=false) (by rw [hw3]; simp)
 rw [List.length_set,List.length_set] at c3
 rw [← hw2] at s1
 rw [← hw3] at s2
 rw [e1] at i2
 have cv:=cvSB w L
 rw [← hw1] at cv
 simp [mc63,cv,i1,i2,hw,d1,d2,s1,s2,c3,tupV, -ld5, -st5]
def S21:PSpec where
 R args w v:=∃ (L:List UInt8) (i k:Nat) (a b:UInt8),args=[.string ⟨⟨L⟩⟩,.int .i64 (i:Int),.int .i64 (k:Int)]∧L[i]?=some a∧L[k]?=some b∧v=.string ⟨⟨(L.set i b).set k a⟩⟩
 uniq:=by
  rintro _ _ _ _ ⟨L,i,k,a,b,rfl,h1,h2,rfl⟩ ⟨L',i',k',a',b',h,k1,k2,rfl⟩
  simp only [List.cons.injEq,Value.string.injEq,ByteArray.mk.injEq,Array.mk.injEq,Value.int.injEq,and_true,true_and] at h
  obtain ⟨rfl,h3,h4⟩:=h
  have:i=i':=by omega
  subst i'
  have:k=k':=by omega
  subst k'
  rw [h1] at k1
  rw [h2] at k2
  cases k1; cases k2; rfl
 shut h:=h
theorem run21 {ov:Ov} (ho:∀ args w,ov 21 args w=none) (L:List UInt8) (i k:Nat) (a b:UInt8) (ha:L[i]?=some a) (hb:L[k]?=some b) (w:AW) (hl:w.lim=w.next) :
  ∃ v w',(run Tryz.prog ov 2).call 21 [.string ⟨⟨L⟩⟩,.int .i64 (i:Int),.int .i64 (k:Int)] w .none=.ok (.ret v) w' .none∧v=.string ⟨⟨(L.set i b).set k a⟩⟩:=by
 refine call_wp text21 (by simp) (ho _ _) ?_
 have l1:=(List.getElem?_eq_some_iff.1 hb).1
 have l0:=(List.getElem?_eq_some_iff.1 ha).1
 obtain ⟨w1,hw1⟩:∃ w1:AW,w1=⟨w.heap.put w.next (some (.cells (byC L) 5 false)),w.next + 1,w.lim⟩:=⟨_,rfl⟩
 have g1:w1.heap.get w.next=some (.cells (byC L) 5 false):=by rw [hw1]; simp
 have hl1:w1.lim≤w.next:=by rw [hw1]; show w.lim≤w.next; omega
 have i1:=fun w a=>ia92 w a L.length L.length .i64 i l0
 have i2:=fun w a=>ia92 w a L.length L.length .i64 k l1
 have d1:=ld5b g1 ha
 have d2:=ld5b g1 hb
 have s1:=st5b (i:=i) b g1 l0 hl1
 obtain ⟨w2,hw2⟩:∃ w2:AW,w2=⟨w1.heap.put w.next (some (.cells (byC (L.set i b)) 5 false)),w1.next,w1.lim⟩:=⟨_,rfl⟩
 have g2:w2.heap.get w.next=some (.cells (byC (L.set i b)) 5 false):=by rw [hw2]; simp
 have s2:=st5b (i:=k) a g2 (by rw [List.length_set]; exact l1) (by rw [hw2]; exact hl1)
 obtain ⟨w3,hw3⟩:∃ w3:AW,w3=⟨w2.heap.put w.next (some (.cells (byC ((L.set i b).set k a)) 5 false)),w2.next,w2.lim⟩:=⟨_,rfl⟩
 have c3:=cvBS w3 w.next L.length ((L.set i b).set k a) (e:=5) (ro:=false) (by rw [hw3]; simp)
 rw [List.length_set,List.length_set] at c3
 rw [← hw2] at s1
 rw [← hw3] at s2
 have cv:=cvSB w L
 rw [← hw1] at cv
 simp [mc21,cv,i1,i2,d1,d2,s1,s2,c3,tupV, -ld5, -st5]
def StepsF (ov:Ov) (m L:Nat) (J:List (List UInt8)→AW→Prop) (M:Nat→Prop):Prop :=
 ∀ st x w,st.length≤80000→J st w→∃ w',yieldA (run Tryz.prog ov m) L [.string ⟨⟨x⟩⟩] w=.val true w'∧J (st++[x]) w'∧(∀ y,y < w.next→¬ M y→w'.heap.get y=w.heap.get y)∧w.next≤w'.next∧w'.lim=w.lim
structure InF (J:List (List UInt8)→AW→Prop) (M:Nat→Prop) (w0:AW) (st:List (List UInt8)) (w:AW):Prop where
 j:J st w
 keep:∀ x,x < w0.next→¬ M x→w.heap.get x=w0.heap.get x
 next:w0.next≤w.next
 lim:w.lim=w0.lim
def repP (s:List UInt8) (i k:Nat):List (List UInt8):=((sgL.take k).filter fun c=>decide (s[i]? ≠ some c)).map fun c=>s.set i c
theorem repP_all (s:List UInt8) (i:Nat):repP s i 37=repL s i:=rfl
theorem repP_yes {s:List UInt8} {i k:Nat} {c:UInt8} (hc:sgL[k]?=some c) (h:s[i]? ≠ some c):repP s i (k + 1)=repP s i k++[s.set i c]:=by
 unfold repP
 rw [List.take_add_one,hc,List.filter_append,List.map_append]
 simp [h]
theorem repP_no {s:List UInt8} {i k:Nat} {c:UInt8} (hc:sgL[k]?=some c) (h:s[i]?=some c):repP s i (k + 1)=repP s i k:=by
 unfold repP
 rw [List.take_add_one,hc,List.filter_append,List.map_append]
 simp [h]
theorem repP_len (s:List UInt8) (i k:Nat):(repP s i k).length≤37:=by
 unfold repP
 rw [List.length_map]
 refine Nat.le_trans (List.length_filter_le _ _) ?_
 rw [List.length_take,sgL_len]; omega
section
variable {ov:Ov} {J:List (List UInt8)→AW→Prop} {M:Nat→Prop} {w0:AW} {L n1:Nat} {s:List UInt8}
theorem loopF1 (m:Nat) (h62:HasP ov 62 S62.F) (hst:StepsF ov (m + 1) L J M) (g1:w0.heap.get n1=some (.cells [.string ⟨⟨s⟩⟩] 9 false)) (k1:n1 < w0.next) (m1:¬ M n1) (i:Nat) (d:UInt8) (hd:s[i]?=some d) (st:List (List UInt8)) (hsl:st.length≤70000) (a8 a9:Value)
  (Q:Ex→Tm→AW→Prop) (t:Tm) (w:AW) (hw:InF J M w0 st w) (t0:tget t 0=.func (.yield L) ⟨[]⟩ ⟨[]⟩) (t1:tget t 1=.pointer (some ⟨n1,0,none⟩)) (t3:tget t 3=.int .i64 (i:Nat)) (t8:tget t 8=a8) (t9:tget t 9=a9) (t12:tget t 12=.agg ⟨sgC⟩) (t13:tget t 13=.int .i64 0)
  (hQ:∀ t w,InF J M w0 (st++repL s i) w→tget t 0=.func (.yield L) ⟨[]⟩ ⟨[]⟩→tget t 1=.pointer (some ⟨n1,0,none⟩)→tget t 8=a8→tget t 9=a9→Q (.exit 2) t w):wp (exY Tryz.prog (run Tryz.prog ov (m + 1)) (.loop mc61_l1) t w) Q:=by
 refine wp_roundsY (fun k t w=>InF J M w0 (st++repP s i k) w∧tget t 0=.func (.yield L) ⟨[]⟩ ⟨[]⟩∧tget t 1=.pointer (some ⟨n1,0,none⟩)∧tget t 3=.int .i64 (i:Nat)∧tget t 8=a8∧tget t 9=a9∧tget t 12=.agg ⟨sgC⟩∧tget t 13=.int .i64 (k:Nat)∧k≤37) 100 (by decide) ⟨by simpa [repP] using hw,t0,t1,t3,t8,t9,t12,by simpa using t13,Nat.zero_le _⟩ ?_
 clear t0 t1 t3 t8 t9 t12 t13 hw
 rintro k t w ⟨hw,t0,t1,t3,t8,t9,t12,t13,hk⟩
 have hi:=(List.getElem?_eq_some_iff.1 hd).1
 by_cases hlt:k < 37
 ·obtain ⟨c,hc⟩:∃ c,sgL[k]?=some c:=⟨_,List.getElem?_eq_getElem hlt⟩
  have hlt':(k:Int) < 37:=by omega
  have hix:=fun w j=>ix96 w j hc
  have hb:=g1
  rw [← hw.keep n1 k1 m1] at hb
  have hx:∀ w k,indexA Tryz.prog w 9 (.string ⟨⟨s⟩⟩) (.int k (i:Int))=.val (.int .u8 (d.toNat:Int)) w:=fun w k=>ix9 w _ k i d hd
  have hw1:IntKind.wrap .i64 ((k:Int) + 1)=(k:Int) + 1:=wrap64_in (by omega) (by omega)
  by_cases hcd:d=c
  ·subst hcd
   have hst':=repP_no (s:=s) (i:=i) hc hd
   rw [← hst'] at hw
   simp [mc61_l1,t0,t1,t3,t8,t9,t12,t13,hlt',hix,bV,hb,hx,hw1]
   exact ⟨by omega,hw,by omega⟩
  ·have hne:¬ ((c.toNat:Int)=(d.toNat:Int)):=fun h=>hcd (byte_eq.1 h).symm
   have hst':=repP_yes (s:=s) (i:=i) hc (by rw [hd]; intro h; exact hcd (Option.some.inj h))
   have r62:=S62.call (P:=Tryz.prog) h62 (m:=m) (w:=w) ⟨s,i,c,rfl,hi,rfl⟩
   obtain ⟨w',hy,hJ',hkp,hn,hl⟩:=hst _ (s.set i c) w (by rw [List.length_append]; have:=repP_len s i k; omega) hw.j
   rw [List.append_assoc,← hst'] at hJ'
   simp only [bV] at r62
   simp [mc61_l1,t0,t1,t3,t8,t9,t12,t13,hlt',hix,bV,hb,hx,hne,r62,hy,hw1]
   exact ⟨by omega,⟨hJ',fun x hx h=>by rw [hkp x (by have:=hw.next; omega) h]; exact hw.keep x hx h,by have:=hw.next; omega,by have:=hw.lim; omega⟩,by omega⟩
 ·have hk':k=37:=by omega
  subst hk'
  rw [repP_all] at hw
  simp [mc61_l1,t13]
  exact hQ _ _ hw (by simp [t0]) (by simp [t1]) (by simp [t8]) (by simp [t9])
def flt0 (s:List UInt8) (n:Nat):List (List UInt8):=(List.range n).flatMap (repL s)
theorem flt0_succ (s:List UInt8) (n:Nat):flt0 s (n + 1)=flt0 s n++repL s n:=by unfold flt0; rw [List.range_succ,List.flatMap_append]; simp
def flt1 (s:List UInt8) (n:Nat):List (List UInt8):=(List.range n).flatMap (excL s)
theorem flt1_succ (s:List UInt8) (n:Nat):flt1 s (n + 1)=flt1 s n++excL s n:=by unfold flt1; rw [List.range_succ,List.flatMap_append]; simp
theorem flt0_len (s:List UInt8):∀ n,(flt0 s n).length≤37 * n
 | 0=>by simp [flt0]
 | n + 1=>by rw [flt0_succ,List.length_append]; have:=flt0_len s n; have:=repP_len s n 37; rw [repP_all] at this; omega
theorem exc_len (s:List UInt8) (i:Nat):(excL s i).length≤1:=by
 unfold excL
 split
 ·split <;> simp
 ·simp
theorem flt1_len (s:List UInt8):∀ n,(flt1 s n).length≤n
 | 0=>by simp [flt1]
 | n + 1=>by rw [flt1_succ,List.length_append]; have:=flt1_len s n; have:=exc_len s n; omega
theorem loopF0 (m:Nat) (h62:HasP ov 62 S62.F) (hst:StepsF ov (m + 1) L J M) (hsg:SgAt w0) (h0:0 < w0.next) (m0:¬ M 0) (g1:w0.heap.get n1=some (.cells [.string ⟨⟨s⟩⟩] 9 false)) (k1:n1 < w0.next) (m1:¬ M n1) (hlen:s.length≤100)
  (Q:Ex→Tm→AW→Prop) (t:Tm) (w:AW) (hw:InF J M w0 [] w) (t0:tget t 0=.func (.yield L) ⟨[]⟩ ⟨[]⟩) (t1:tget t 1=.pointer (some ⟨n1,0,none⟩)) (t8:tget t 8=.int .i64 (s.length:Nat)) (t9:tget t 9=.int .i64 0)
  (hQ:∀ t w,InF J M w0 (flt0 s s.length) w→tget t 0=.func (.yield L) ⟨[]⟩ ⟨[]⟩→tget t 1=.pointer (some ⟨n1,0,none⟩)→Q (.exit 0) t w):wp (exY Tryz.prog (run Tryz.prog ov (m + 1)) (.loop mc61_l0) t w) Q:=by
 refine wp_roundsY (fun i t w=>InF J M w0 (flt0 s i) w∧tget t 0=.func (.yield L) ⟨[]⟩ ⟨[]⟩∧tget t 1=.pointer (some ⟨n1,0,none⟩)∧tget t 8=.int .i64 (s.length:Nat)∧tget t 9=.int .i64 (i:Nat)∧i≤s.length) 200 (by decide) ⟨by simpa [flt0] using hw,t0,t1,t8,by simpa using t9,Nat.zero_le _⟩ ?_
 clear t0 t1 t8 t9 hw
 rintro i t w ⟨hw,t0,t1,t8,t9,hi⟩
 by_cases hlt:i < s.length
 ·obtain ⟨d,hd⟩:∃ d,s[i]?=some d:=⟨_,List.getElem?_eq_getElem hlt⟩
  have hw1:IntKind.wrap .i64 ((i:Int) + 1)=(i:Int) + 1:=wrap64_in (by omega) (by omega)
  obtain ⟨ty,ro,g⟩:=hsg
  have hsgw:SgAt w:=⟨ty,ro,by rw [hw.keep 0 h0 m0]; exact g⟩
  have hg:=ld_sg hsgw
  simp [mc61_l0,t0,t1,t8,t9,hlt,hg]
  refine wp_seqX (wp_blockX (wp_blockX (loopF1 m h62 hst g1 k1 m1 i d hd (flt0 s i) (by have:=flt0_len s i; omega) (.int .i64 (s.length:Nat)) (.int .i64 (i:Nat)) _ _ _ hw ?_ ?_ ?_ ?_ ?_ ?_ ?_ ?_)))
  case _=>simp [t0]
  case _=>simp [t1]
  case _=>simp
  case _=>simp [t8]
  case _=>simp [t9]
  case _=>simp
  case _=>simp
  case _ =>
   intro t w hw s0 s1 s8 s9
   rw [← flt0_succ] at hw
   simp [s0,s1,s8,s9,hw1]
   exact ⟨by omega,hw,hlt⟩
 ·have hi':i=s.length:=by omega
  subst hi'
  simp [mc61_l0,t8,t9]
  exact hQ _ _ hw (by simp [t0]) (by simp [t1])
theorem loopF2 (m:Nat) (h63:HasP ov 63 S63.F) (hst:StepsF ov (m + 1) L J M) (g1:w0.heap.get n1=some (.cells [.string ⟨⟨s⟩⟩] 9 false)) (k1:n1 < w0.next) (m1:¬ M n1) (hlen:s.length≤100) (st:List (List UInt8)) (hsl:st.length≤70000)
  (Q:Ex→Tm→AW→Prop) (t:Tm) (w:AW) (hw:InF J M w0 st w) (t0:tget t 0=.func (.yield L) ⟨[]⟩ ⟨[]⟩) (t1:tget t 1=.pointer (some ⟨n1,0,none⟩)) (t34:tget t 34=.int .i64 ((s.length - 1:Nat):Int)) (t35:tget t 35=.int .i64 0)
  (hQ:∀ t w,InF J M w0 (st++flt1 s (s.length - 1)) w→Q (.exit 4) t w):wp (exM Tryz.prog (run Tryz.prog ov (m + 1)) (.loop mc61_l2) t w) Q:=by
 refine wp_rounds (fun i t w=>InF J M w0 (st++flt1 s i) w∧tget t 0=.func (.yield L) ⟨[]⟩ ⟨[]⟩∧tget t 1=.pointer (some ⟨n1,0,none⟩)∧tget t 34=.int .i64 ((s.length - 1:Nat):Int)∧tget t 35=.int .i64 (i:Nat)∧i≤s.length - 1) 200 (by decide) ⟨by simpa [flt1] using hw,t0,t1,t34,by simpa using t35,Nat.zero_le _⟩ ?_
 clear t0 t1 t34 t35 hw
 rintro i t w ⟨hw,t0,t1,t34,t35,hi⟩
 obtain ⟨zl,hzl⟩:∃ zl:Int,zl=((s.length - 1:Nat):Int):=⟨_,rfl⟩
 rw [← hzl] at t34
 by_cases hlt:i < s.length - 1
 ·have hlt':(i:Int) < zl:=by omega
  obtain ⟨a,ha⟩:∃ a,s[i]?=some a:=⟨_,List.getElem?_eq_getElem (by omega)⟩
  obtain ⟨b,hb⟩:∃ b,s[i + 1]?=some b:=⟨_,List.getElem?_eq_getElem (by omega)⟩
  have hbx:=g1
  rw [← hw.keep n1 k1 m1] at hbx
  have hx:∀ w k,indexA Tryz.prog w 9 (.string ⟨⟨s⟩⟩) (.int k (i:Int))=.val (.int .u8 (a.toNat:Int)) w:=fun w k=>ix9 w _ k i a ha
  have hx2:∀ w k,indexA Tryz.prog w 9 (.string ⟨⟨s⟩⟩) (.int k ((i:Int) + 1))=.val (.int .u8 (b.toNat:Int)) w:=fun w k=>by
   have:=ix9 w ⟨⟨s⟩⟩ k (i + 1) b hb
   have e:((i + 1:Nat):Int)=(i:Int) + 1:=by omega
   rwa [e] at this
  have hw1:IntKind.wrap .i64 ((i:Int) + 1)=(i:Int) + 1:=wrap64_in (by omega) (by omega)
  have r63:=S63.call (P:=Tryz.prog) h63 (m:=m) (w:=w) ⟨s,i,a,b,rfl,ha,hb,by omega,rfl⟩
  by_cases hab:a=b
  ·subst hab
   have e:excL s i=[]:=by unfold excL; rw [ha,hb]; simp
   have hst':flt1 s (i + 1)=flt1 s i:=by rw [flt1_succ,e,List.append_nil]
   rw [← hst'] at hw
   simp [mc61_l2,t0,t1,t34,t35,hlt',hbx,hx,hx2,hw1]
   exact ⟨by omega,hw,hzl,by omega⟩
  ·have hne:¬ ((a.toNat:Int)=(b.toNat:Int)):=fun h=>hab (byte_eq.1 h)
   have e:excL s i=[(s.set i b).set (i + 1) a]:=by unfold excL; rw [ha,hb]; simp [hab]
   have hst':flt1 s (i + 1)=flt1 s i++[(s.set i b).set (i + 1) a]:=by rw [flt1_succ,e]
   obtain ⟨w',hy,hJ',hkp,hn,hl⟩:=hst _ ((s.set i b).set (i + 1) a) w (by rw [List.length_append]; have:=flt1_len s i; omega) hw.j
   rw [List.append_assoc,← hst'] at hJ'
   simp [mc61_l2,t0,t1,t34,t35,hlt',hbx,hx,hx2,hne,r63,hy,hw1]
   exact ⟨by omega,⟨hJ',fun x hx h=>by rw [hkp x (by have:=hw.next; omega) h]; exact hw.keep x hx h,by have:=hw.next; omega,by have:=hw.lim; omega⟩,hzl,by omega⟩
 ·have hi':i=s.length - 1:=by omega
  subst hi'
  have hlt':¬ ((s.length - 1:Nat):Int) < zl:=by omega
  rw [← hzl] at t35 hlt'
  simp [mc61_l2,t34,t35,hlt']
  exact hQ _ _ hw
theorem call61 (m:Nat) (ho:∀ args w,ov 61 args w=none) (h62:HasP ov 62 S62.F) (h63:HasP ov 63 S63.F) (hst:StepsF ov (m + 1) L J M) (hsg:SgAt w0) (h0:0 < w0.next) (m0:¬ M 0) (g1:w0.heap.get n1=some (.cells [.string ⟨⟨s⟩⟩] 9 false)) (k1:n1 < w0.next) (m1:¬ M n1) (hl1:1≤s.length) (hlen:s.length≤100) (hJ0:J [] w0) :
  ∃ v w',(run Tryz.prog ov (m + 2)).call 61 [.func (.yield L) ⟨[]⟩ ⟨[]⟩,.pointer (some ⟨n1,0,none⟩)] w0 .none=.ok (.ret v) w' .none∧InF J M w0 (fltL s) w':=by
 refine call_wpY text61 (by simp) (ho _ _) ?_
 simp [mc61,g1]
 refine wp_seqX (wp_blockX (loopF0 m h62 hst hsg h0 m0 g1 k1 m1 hlen _ _ _ ⟨hJ0,fun x _ _=>rfl,Nat.le_refl _,rfl⟩ ?_ ?_ ?_ ?_ ?_))
 case _=>simp
 case _=>simp
 case _=>simp
 case _=>simp
 case _ =>
  intro t w hw s0 s1
  have hbx:=g1
  rw [← hw.keep n1 k1 m1] at hbx
  have hwr:IntKind.wrap .i64 ((s.length:Int) - 1)=((s.length - 1:Nat):Int):=by rw [wrap64_in (by omega) (by omega)]; omega
  simp [s0,s1,hbx,hwr]
  refine wp_blockX (loopF2 m h63 hst g1 k1 m1 hlen (flt0 s s.length) (by have:=flt0_len s s.length; omega) _ _ _ hw ?_ ?_ ?_ ?_ ?_)
  case _=>simp [s0]
  case _=>simp [s1]
  case _=>simp
  case _=>simp
  case _ =>
   intro t w hw
   have e:flt0 s s.length++flt1 s (s.length - 1)=fltL s:=rfl
   rw [e] at hw
   simpa [tupV] using hw
end
end Go.Proofs.YtdgllbepplldoaaGreatDoor.walk
namespace Go.Sh
section
variable {α:Type} {lt:α→α→Prop}
structure Wk (lt:α→α→Prop):Prop where
 asym:∀ {x y},lt x y→¬ lt y x
 trans:∀ {x y z},¬ lt y x→¬ lt z y→¬ lt z x
theorem Wk.irr (h:Wk lt) (x:α):¬ lt x x:=fun k=>h.asym k k
theorem Wk.lt_le (h:Wk lt) {x y z:α} (h1:lt x y) (h2:¬ lt z y):lt x z:=by
 apply Classical.byContradiction
 intro h3
 exact h.trans h2 h3 h1
def swp (L:List α) (i j:Nat) (x y:α):List α:=(L.set i y).set j x
@[simp] theorem swp_len (L:List α) (i j:Nat) (x y:α):(swp L i j x y).length=L.length:=by simp [swp]
theorem swp_at {L:List α} {i j:Nat} (hi:i < L.length) (hj:j < L.length) (x y:α) (k:Nat):(swp L i j x y)[k]?=if k=j then some x else if k=i then some y else L[k]?:=by
 unfold swp
 by_cases h1:k=j
 ·subst h1; rw [if_pos rfl,List.getElem?_set_self (by rw [List.length_set]; exact hj)]
 ·rw [if_neg h1,List.getElem?_set_ne (Ne.symm h1)]
  by_cases h2:k=i
  ·subst h2; rw [if_pos rfl,List.getElem?_set_self hi]
  ·rw [if_neg h2,List.getElem?_set_ne (Ne.symm h2)]
theorem at_lt {L:List α} {i:Nat} {x:α} (h:L[i]?=some x):i < L.length:=(List.getElem?_eq_some_iff.1 h).1
theorem at_get {L:List α} {i:Nat} (h:i < L.length):∃ x,L[i]?=some x:=⟨_,List.getElem?_eq_getElem h⟩
theorem swp_perm {L:List α} {i j:Nat} {x y:α} (hx:L[i]?=some x) (hy:L[j]?=some y):(swp L i j x y).Perm L:=by
 have h1:=at_lt hx
 have h2:=at_lt hy
 have e1:L[i]=x:=by have:=List.getElem?_eq_getElem h1; rw [hx] at this; cases this; rfl
 have e2:L[j]=y:=by have:=List.getElem?_eq_getElem h2; rw [hy] at this; cases this; rfl
 have:=List.set_set_perm h1 h2
 rw [e1,e2] at this
 exact this
structure Mv (a b:Nat) (L L':List α):Prop where
 perm:L'.Perm L
 out:∀ k,k < a∨b≤k→L'[k]?=L[k]?
 fro:∀ k,a≤k→k < b→∃ j,a≤j∧j < b∧L'[k]?=L[j]?
theorem Mv.refl (a b:Nat) (L:List α):Mv a b L L:=⟨List.Perm.refl _,fun _ _=>rfl,fun k h1 h2=>⟨k,h1,h2,rfl⟩⟩
theorem Mv.len {a b:Nat} {L L':List α} (h:Mv a b L L'):L'.length=L.length:=h.perm.length_eq
theorem Mv.trans {a b:Nat} {L L' L'':List α} (h:Mv a b L L') (h':Mv a b L' L''):Mv a b L L'' :=
 ⟨h'.perm.trans h.perm,fun k hk=>(h'.out k hk).trans (h.out k hk),fun k h1 h2=>by
  obtain ⟨j,j1,j2,e⟩:=h'.fro k h1 h2
  obtain ⟨i,i1,i2,e'⟩:=h.fro j j1 j2
  exact ⟨i,i1,i2,e.trans e'⟩⟩
theorem Mv.widen {a b a' b':Nat} {L L':List α} (h:Mv a b L L') (ha:a'≤a) (hb:b≤b'):Mv a' b' L L' :=
 ⟨h.perm,fun k hk=>h.out k (by omega),fun k h1 h2=>by
  by_cases hk:a≤k∧k < b
  ·obtain ⟨j,j1,j2,e⟩:=h.fro k hk.1 hk.2
   exact ⟨j,by omega,by omega,e⟩
  ·exact ⟨k,h1,h2,h.out k (by omega)⟩⟩
theorem Mv.swap {a b i j:Nat} {L:List α} {x y:α} (hx:L[i]?=some x) (hy:L[j]?=some y) (i1:a≤i) (i2:i < b) (j1:a≤j) (j2:j < b):Mv a b L (swp L i j x y) :=
 ⟨swp_perm hx hy,fun k hk=>by rw [swp_at (at_lt hx) (at_lt hy),if_neg (by omega),if_neg (by omega)],fun k h1 h2=>by
  rw [swp_at (at_lt hx) (at_lt hy)]
  by_cases e1:k=j
  ·exact ⟨i,i1,i2,by rw [if_pos e1,hx]⟩
  ·by_cases e2:k=i
   ·exact ⟨j,j1,j2,by rw [if_neg e1,if_pos e2,hy]⟩
   ·exact ⟨k,h1,h2,by rw [if_neg e1,if_neg e2]⟩⟩
def All (P:α→Prop) (L:List α) (a b:Nat):Prop:=∀ k x,a≤k→k < b→L[k]?=some x→P x
theorem All.mv {P:α→Prop} {L L':List α} {a b:Nat} (h:All P L a b) (m:Mv a b L L'):All P L' a b:=fun k x h1 h2 hx=>by
 obtain ⟨j,j1,j2,e⟩:=m.fro k h1 h2
 exact h j x j1 j2 (by rw [← e]; exact hx)
theorem All.out {P:α→Prop} {L L':List α} {a b c d:Nat} (h:All P L c d) (m:Mv a b L L') (hd:d≤a∨b≤c):All P L' c d:=fun k x h1 h2 hx=>h k x h1 h2 (by rw [← m.out k (by omega)]; exact hx)
theorem All.part {P:α→Prop} {L:List α} {a b c d:Nat} (h:All P L a b) (h1:a≤c) (h2:d≤b):All P L c d:=fun k x k1 k2 hx=>h k x (by omega) (by omega) hx
theorem All.swp_left {P:α→Prop} {L:List α} {c i j:Nat} {x y:α} (h:All P L c i) (hx:L[i]?=some x) (hy:L[j]?=some y) (hij:i < j) (py:P y):All P (swp L i j x y) c (i + 1):=fun k z h1 h2 hz=>by
 rw [swp_at (at_lt hx) (at_lt hy),if_neg (by omega)] at hz
 by_cases hk:k=i
 ·rw [if_pos hk] at hz; cases hz; exact py
 ·rw [if_neg hk] at hz; exact h k z h1 (by omega) hz
theorem All.swp_right {P:α→Prop} {L:List α} {d i j:Nat} {x y:α} (h:All P L (j + 1) d) (hx:L[i]?=some x) (hy:L[j]?=some y) (hij:i < j) (px:P x):All P (swp L i j x y) j d:=fun k z h1 h2 hz=>by
 rw [swp_at (at_lt hx) (at_lt hy)] at hz
 by_cases hk:k=j
 ·rw [if_pos hk] at hz; cases hz; exact px
 ·rw [if_neg hk,if_neg (by omega)] at hz; exact h k z (by omega) h2 hz
theorem swp_keep {L:List α} {a i j:Nat} {x y:α} (hx:L[i]?=some x) (hy:L[j]?=some y) (h1:a ≠ i) (h2:a ≠ j):(swp L i j x y)[a]?=L[a]?:=by
 rw [swp_at (at_lt hx) (at_lt hy),if_neg h2,if_neg h1]
theorem swp_first {L:List α} {i j:Nat} {x y:α} (hx:L[i]?=some x) (hy:L[j]?=some y):(swp L i j x y)[i]?=some y:=by
 rw [swp_at (at_lt hx) (at_lt hy)]
 by_cases h:i=j
 ·subst h; rw [hx] at hy; cases hy; rw [if_pos rfl]
 ·rw [if_neg h,if_pos rfl]
def Srt (lt:α→α→Prop) (L:List α) (a b:Nat):Prop:=∀ p q x y,a≤p→p < q→q < b→L[p]?=some x→L[q]?=some y→¬ lt y x
theorem Srt.one (L:List α) {a b:Nat} (h:b≤a + 1):Srt lt L a b:=fun p q _ _ h1 h2 h3=>by omega
theorem Srt.out {L L':List α} {a b c d:Nat} (h:Srt lt L c d) (m:Mv a b L L') (hd:d≤a∨b≤c):Srt lt L' c d:=fun p q x y h1 h2 h3 hx hy=>h p q x y h1 h2 h3 (by rw [← m.out p (by omega)]; exact hx) (by rw [← m.out q (by omega)]; exact hy)
theorem Srt.part {L:List α} {a b c d:Nat} (h:Srt lt L a b) (h1:a≤c) (h2:d≤b):Srt lt L c d:=fun p q x y k1 k2 k3 hx hy=>h p q x y (by omega) k2 (by omega) hx hy
theorem Srt.cons {lt:α→α→Prop} {L:List α} {k b:Nat} {p:α} (h:Srt lt L (k + 1) b) (hp:L[k]?=some p) (hg:All (fun z=>¬ lt z p) L (k + 1) b):Srt lt L k b:=fun i j x y h1 h2 h3 hx hy=>by
 by_cases hi:i=k
 ·subst hi; rw [hp] at hx; cases hx; exact hg j y (by omega) h3 hy
 ·exact h i j x y (by omega) h2 h3 hx hy
theorem Srt.step (w:Wk lt) {L:List α} {a b:Nat} (h:Srt lt L a b) (hn:∀ x y,a < b→L[b - 1]?=some x→L[b]?=some y→¬ lt y x) (hb:b≤L.length):Srt lt L a (b + 1):=fun p q x y h1 h2 h3 hx hy=>by
 by_cases hq:q < b
 ·exact h p q x y h1 h2 hq hx hy
 ·obtain rfl:q=b:=by omega
  obtain ⟨z,hz⟩:=at_get (L:=L) (i:=q - 1) (by omega)
  have k:=hn z y (by omega) hz hy
  by_cases hp:p=q - 1
  ·subst hp; rw [hx] at hz; cases hz; exact k
  ·exact w.trans (h p (q - 1) x z h1 (by omega) (by omega) hx hz) k
def InsX (lt:α→α→Prop) (L:List α) (a n j:Nat):Prop:=∀ p q x y,a≤p→p < q→q < n→q ≠ j→L[p]?=some x→L[q]?=some y→¬ lt y x
theorem InsX.start {L:List α} {a i:Nat} (h:Srt lt L a i):InsX lt L a (i + 1) i:=fun p q x y h1 h2 h3 h4=>h p q x y h1 h2 (by omega)
theorem InsX.step (w:Wk lt) {L:List α} {a n j:Nat} {x y:α} (h:InsX lt L a n j) (ha:a < j) (hy:L[j]?=some y) (hx:L[j - 1]?=some x) (hc:lt y x):InsX lt (swp L j (j - 1) y x) a n (j - 1):=fun p q u v h1 h2 h3 h4 hu hv=>by
 rw [swp_at (at_lt hy) (at_lt hx)] at hu hv
 rw [if_neg h4] at hv
 by_cases hq:q=j
 ·rw [if_pos hq] at hv
  cases hv
  by_cases hp:p=j - 1
  ·rw [if_pos hp] at hu; cases hu
   exact w.asym hc
  ·rw [if_neg hp,if_neg (by omega)] at hu
   exact h p (j - 1) u x h1 (by omega) (by omega) (by omega) hu hx
 ·rw [if_neg hq] at hv
  by_cases hp:p=j - 1
  ·rw [if_pos hp] at hu; cases hu
   exact h j q y v (by omega) (by omega) h3 hq hy hv
  ·rw [if_neg hp] at hu
   by_cases hp2:p=j
   ·rw [if_pos hp2] at hu; cases hu
    exact h (j - 1) q x v (by omega) (by omega) h3 hq hx hv
   ·rw [if_neg hp2] at hu
    exact h p q u v h1 h2 h3 hq hu hv
theorem InsX.stop (w:Wk lt) {L:List α} {a n j:Nat} (h:InsX lt L a n j) (hj:j < L.length) (hs:∀ x y,a < j→L[j - 1]?=some x→L[j]?=some y→¬ lt y x):Srt lt L a n:=fun p q x y h1 h2 h3 hx hy=>by
 by_cases hq:q=j
 ·subst hq
  obtain ⟨z,hz⟩:=at_get (L:=L) (i:=q - 1) (by omega)
  have k:=hs z y (by omega) hz hy
  by_cases hp:p=q - 1
  ·subst hp; rw [hx] at hz; cases hz; exact k
  ·exact w.trans (h p (q - 1) x z h1 (by omega) (by omega) (by omega) hx hz) k
 ·exact h p q x y h1 h2 h3 hq hx hy
def Hp (lt:α→α→Prop) (L:List α) (f lo hi r:Nat):Prop:=(∀ k c x y,lo≤k→k ≠ r→(c=2 * k + 1∨c=2 * k + 2)→c < hi→L[f + k]?=some x→L[f + c]?=some y→¬ lt x y) ∧
 (∀ k c x y,lo≤k→(r=2 * k + 1∨r=2 * k + 2)→(c=2 * r + 1∨c=2 * r + 2)→c < hi→L[f + k]?=some x→L[f + c]?=some y→¬ lt x y)
def Heap (lt:α→α→Prop) (L:List α) (f lo hi:Nat):Prop:=∀ k c x y,lo≤k→(c=2 * k + 1∨c=2 * k + 2)→c < hi→L[f + k]?=some x→L[f + c]?=some y→¬ lt x y
theorem Hp.start {L:List α} {f lo hi:Nat} (h:Heap lt L f (lo + 1) hi):Hp lt L f lo hi lo :=
 ⟨fun k c x y h1 h2 h3 h4 hx hy=>h k c x y (by omega) h3 h4 hx hy,fun k c x y h1 h2=>by omega⟩
theorem Hp.down (w:Wk lt) {L:List α} {f lo hi r c:Nat} {x y:α} (h:Hp lt L f lo hi r) (hl:lo≤r) (hx:L[f + r]?=some x) (hy:L[f + c]?=some y) (hc:c=2 * r + 1∨c=2 * r + 2) (hh:c < hi) (hlt:lt x y)
  (hg:∀ d z,(d=2 * r + 1∨d=2 * r + 2)→d < hi→L[f + d]?=some z→¬ lt y z):Hp lt (swp L (f + r) (f + c) x y) f lo hi c:=by
 refine ⟨fun k d u v h1 h2 h3 h4 hu hv=>?_,fun k d u v h1 h2 h3 h4 hu hv=>?_⟩
 ·rw [swp_at (at_lt hx) (at_lt hy)] at hu hv
  rw [if_neg (by omega)] at hu
  by_cases hk:k=r
  ·subst hk
   rw [if_pos rfl] at hu; cases hu
   by_cases hd:d=c
   ·subst hd; rw [if_pos rfl] at hv; cases hv
    exact w.asym hlt
   ·rw [if_neg (by omega),if_neg (by omega)] at hv
    exact hg d v h3 h4 hv
  ·rw [if_neg (by omega)] at hu
   rw [if_neg (by omega)] at hv
   by_cases hd:d=r
   ·subst hd
    rw [if_pos rfl] at hv; cases hv
    exact h.2 k c u y h1 h3 hc hh hu hy
   ·rw [if_neg (by omega)] at hv
    exact h.1 k d u v h1 hk h3 h4 hu hv
 ·rw [swp_at (at_lt hx) (at_lt hy)] at hu hv
  obtain rfl:k=r:=by omega
  rw [if_neg (by omega),if_pos rfl] at hu; cases hu
  rw [if_neg (by omega),if_neg (by omega)] at hv
  exact h.1 c d y v (by omega) (by omega) h3 h4 hy hv
theorem Hp.stop {L:List α} {f lo hi r:Nat} (h:Hp lt L f lo hi r) (hs:∀ d x z,(d=2 * r + 1∨d=2 * r + 2)→d < hi→L[f + r]?=some x→L[f + d]?=some z→¬ lt x z):Heap lt L f lo hi:=fun k c x y h1 h2 h3 hx hy=>by
 by_cases hk:k=r
 ·subst hk; exact hs c x y h2 h3 hx hy
 ·exact h.1 k c x y h1 hk h2 h3 hx hy
theorem Heap.top (w:Wk lt) {L:List α} {f hi:Nat} (h:Heap lt L f 0 hi) {x:α} (hx:L[f]?=some x) (hl:f + hi≤L.length):∀ k y,k < hi→L[f + k]?=some y→¬ lt x y:=by
 intro k
 induction k using Nat.strongRecOn with
 | ind k ih =>
  intro y hk hy
  by_cases h0:k=0
  ·subst h0; rw [Nat.add_zero,hx] at hy; cases hy; exact w.irr _
  ·obtain ⟨z,hz⟩:=at_get (L:=L) (i:=f + (k - 1) / 2) (by omega)
   have h1:=ih ((k - 1) / 2) (by omega) z (by omega) hz
   have h2:=h ((k - 1) / 2) k z y (by omega) (by omega) hk hz hy
   exact w.trans h2 h1
theorem Heap.half (L:List α) {f lo hi:Nat} (h:hi≤2 * lo + 1):Heap lt L f lo hi:=fun k c x y h1 h2 h3=>by omega
theorem Heap.take (w:Wk lt) {L:List α} {f i n:Nat} {x y:α} (h:Heap lt L f 0 (i + 1)) (hx:L[f]?=some x) (hy:L[f + i]?=some y) (hn:f + n≤L.length) (hi:i < n) (hs:Srt lt L (f + i + 1) (f + n)) (hg:∀ p q u v,f≤p→p≤f + i→f + i < q→q < f + n→L[p]?=some u→L[q]?=some v→¬ lt v u) :
  Heap lt (swp L f (f + i) x y) f 1 i∧Srt lt (swp L f (f + i) x y) (f + i) (f + n)∧(∀ p q u v,f≤p→p < f + i→f + i≤q→q < f + n→(swp L f (f + i) x y)[p]?=some u→(swp L f (f + i) x y)[q]?=some v→¬ lt v u):=by
 have e:=swp_at (at_lt hx) (at_lt hy) x y
 have htop:=h.top w hx (by omega)
 refine ⟨fun k c u v h1 h2 h3 hu hv=>?_,fun p q u v h1 h2 h3 hu hv=>?_,fun p q u v h1 h2 h3 h4 hu hv=>?_⟩
 ·rw [e,if_neg (by omega),if_neg (by omega)] at hu hv
  exact h k c u v (by omega) h2 (by omega) hu hv
 ·rw [e] at hu hv
  rw [if_neg (by omega),if_neg (by omega)] at hv
  by_cases hp:p=f + i
  ·rw [if_pos hp] at hu; cases hu
   exact hg f q x v (by omega) (by omega) (by omega) h3 hx hv
  ·rw [if_neg hp,if_neg (by omega)] at hu
   exact hs p q u v (by omega) h2 h3 hu hv
 ·rw [e] at hu hv
  rw [if_neg (by omega)] at hu
  have key:∀ k z,f≤k→k≤f + i→L[k]?=some z→¬ lt x z:=fun k z k1 k2 hz=>htop (k - f) z (by omega) (by rw [show f + (k - f)=k by omega]; exact hz)
  have hu':∃ k,f≤k∧k≤f + i∧L[k]?=some u:=by
   by_cases hp:p=f
   ·rw [if_pos hp] at hu; cases hu; exact ⟨f + i,by omega,by omega,hy⟩
   ·rw [if_neg hp] at hu; exact ⟨p,by omega,by omega,hu⟩
  obtain ⟨k,k1,k2,k3⟩:=hu'
  by_cases hq:q=f + i
  ·rw [if_pos hq] at hv; cases hv
   exact key k u k1 k2 k3
  ·rw [if_neg hq,if_neg (by omega)] at hv
   exact hg k q u v k1 k2 (by omega) h4 k3 hv
structure Pdq (lt:α→α→Prop) (a0 b0 a b:Nat) (L0 L:List α):Prop where
 mv:Mv a0 b0 L0 L
 a1:a0≤a
 ab:a≤b
 b1:b≤b0
 bl:b0≤L0.length
 out:∀ p q x y,a0≤p→p < q→q < b0→(p < a∨b≤q)→L[p]?=some x→L[q]?=some y→¬ lt y x
 low:∀ x,0 < a→L[a - 1]?=some x→All (fun z=>¬ lt z x) L a b
theorem Pdq.start {L:List α} {a b:Nat} (hab:a≤b) (hl:b≤L.length) (low:∀ x,0 < a→L[a - 1]?=some x→All (fun z=>¬ lt z x) L a b):Pdq lt a b a b L L :=
 ⟨Mv.refl _ _ _,Nat.le_refl _,hab,Nat.le_refl _,hl,fun p q x y h1 h2 h3 h4=>by omega,low⟩
theorem Pdq.move {a0 b0 a b:Nat} {L0 L L':List α} (h:Pdq lt a0 b0 a b L0 L) (m:Mv a b L L'):Pdq lt a0 b0 a b L0 L':=by
 have hl:∀ k,a≤k→k < b→∀ z,L'[k]?=some z→∃ j,a≤j∧j < b∧L[j]?=some z:=fun k h1 h2 z hz=>by
  obtain ⟨j,j1,j2,e⟩:=m.fro k h1 h2
  exact ⟨j,j1,j2,by rw [← e]; exact hz⟩
 refine ⟨h.mv.trans (m.widen h.a1 h.b1),h.a1,h.ab,h.b1,h.bl,fun p q x y h1 h2 h3 h4 hx hy=>?_,fun x h0 hx=>?_⟩
 ·by_cases hp:a≤p∧p < b
  ·obtain ⟨j,j1,j2,e⟩:=hl p hp.1 hp.2 x hx
   rw [m.out q (by omega)] at hy
   exact h.out j q x y (by have:=h.a1; omega) (by omega) h3 (by omega) e hy
  ·rw [m.out p (by omega)] at hx
   by_cases hq:a≤q∧q < b
   ·obtain ⟨j,j1,j2,e⟩:=hl q hq.1 hq.2 y hy
    exact h.out p j x y h1 (by omega) (by have:=h.b1; omega) (by omega) hx e
   ·rw [m.out q (by omega)] at hy
    exact h.out p q x y h1 h2 h3 (by omega) hx hy
 ·rw [m.out (a - 1) (by omega)] at hx
  exact (h.low x h0 hx).mv m
theorem Pdq.done {a0 b0 a b:Nat} {L0 L:List α} (h:Pdq lt a0 b0 a b L0 L) (hs:Srt lt L a b):Srt lt L a0 b0:=fun p q x y h1 h2 h3 hx hy=>by
 by_cases hc:p < a∨b≤q
 ·exact h.out p q x y h1 h2 h3 hc hx hy
 ·exact hs p q x y (by omega) h2 (by omega) hx hy
theorem Pdq.right {a0 b0 a b m:Nat} {L0 L:List α} (h:Pdq lt a0 b0 a b L0 L) (h1:a≤m) (h2:m≤b) (hs:Srt lt L a m) (hg:∀ p q x y,a≤p→p < m→m≤q→q < b→L[p]?=some x→L[q]?=some y→¬ lt y x) (hm:a < m):Pdq lt a0 b0 m b L0 L :=
 ⟨h.mv,by have:=h.a1; omega,h2,h.b1,h.bl,fun p q x y k1 k2 k3 k4 hx hy=>by
  by_cases hc:p < a∨b≤q
  ·exact h.out p q x y k1 k2 k3 hc hx hy
  ·by_cases hq:q < m
   ·exact hs p q x y (by omega) k2 hq hx hy
   ·exact hg p q x y (by omega) (by omega) (by omega) (by omega) hx hy,fun x k0 hx k y k1 k2 hy=>hg (m - 1) k x y (by omega) (by omega) k1 k2 hx hy⟩
theorem Pdq.left {a0 b0 a b m:Nat} {L0 L:List α} (h:Pdq lt a0 b0 a b L0 L) (h1:a≤m) (h2:m≤b) (hs:Srt lt L m b) (hg:∀ p q x y,a≤p→p < m→m≤q→q < b→L[p]?=some x→L[q]?=some y→¬ lt y x):Pdq lt a0 b0 a m L0 L :=
 ⟨h.mv,h.a1,h1,by have:=h.b1; omega,h.bl,fun p q x y k1 k2 k3 k4 hx hy=>by
  by_cases hc:p < a∨b≤q
  ·exact h.out p q x y k1 k2 k3 hc hx hy
  ·by_cases hq:m≤p
   ·exact hs p q x y hq k2 (by omega) hx hy
   ·exact hg p q x y (by omega) (by omega) (by omega) (by omega) hx hy,fun x k0 hx=>(h.low x k0 hx).part (Nat.le_refl _) h2⟩
def Crs (cI:α→α→Int) (L:List α) (a m b:Nat):Prop:=∀ p q x y,a≤p→p < m→m≤q→q < b→L[p]?=some x→L[q]?=some y→¬ cI y x < 0
theorem Crs.mv_left {cI:α→α→Int} {L L':List α} {a m b:Nat} (h:Crs cI L a m b) (k:Mv a m L L'):Crs cI L' a m b:=fun p q x y h1 h2 h3 h4 hx hy=>by
 obtain ⟨j,j1,j2,e⟩:=k.fro p h1 h2
 rw [k.out q (by omega)] at hy
 exact h j q x y j1 j2 h3 h4 (by rw [← e]; exact hx) hy
def LtP (cI:α→α→Int) (p x:α):Prop:=cI x p < 0
def GeP (cI:α→α→Int) (p x:α):Prop:=¬ cI x p < 0
def LeP (cI:α→α→Int) (p x:α):Prop:=¬ cI p x < 0
def GtP (cI:α→α→Int) (p x:α):Prop:=cI p x < 0
structure Part (cI:α→α→Int) (L:List α) (a b m:Nat) (p:α):Prop where
 am:a≤m
 mb:m < b
 at_:L[m]?=some p
 low:All (LtP cI p) L a m
 high:All (GeP cI p) L (m + 1) b
theorem part_done {cI:α→α→Int} {L:List α} {a b j:Nat} {p y:α} (hp:L[a]?=some p) (hy:L[j]?=some y) (haj:a≤j) (hjb:j < b) (hA:All (LtP cI p) L (a + 1) (j + 1)) (hG:All (GeP cI p) L (j + 1) b):Part cI (swp L j a y p) a b j p:=by
 refine ⟨haj,hjb,?_,fun k z h1 h2 hz=>?_,fun k z h1 h2 hz=>?_⟩
 ·exact swp_first hy hp
 ·rw [swp_at (at_lt hy) (at_lt hp)] at hz
  by_cases hk:k=a
  ·rw [if_pos hk] at hz; cases hz
   exact hA j y (by omega) (by omega) hy
  ·rw [if_neg hk,if_neg (by omega)] at hz
   exact hA k z (by omega) (by omega) hz
 ·rw [swp_at (at_lt hy) (at_lt hp),if_neg (by omega),if_neg (by omega)] at hz
  exact hG k z h1 h2 hz
end
open Go
@[simp] theorem op_nilCheck {P:Program} {t:Tm} {w:AW} (ty:TypeId) (x:Operand):(opS P ty (.nilCheck x)).val t w=nilCheckA P w ((evS x).val t):=rfl
@[simp] theorem nilCheck_ptr {P:Program} {w:AW} (a:Addr):nilCheckA P w (.pointer (some a))=.val (.pointer (some a)) w:=rfl
section
variable {α:Type}
structure InS (C:α→List Value) (e:TypeId) (w0:AW) (B:Nat) (L:List α) (w:AW):Prop where
 row:w.heap.get B=some (.cells (L.flatMap C) e false)
 old:∀ x,x < w0.next→x ≠ B→w.heap.get x=w0.heap.get x
 next:w0.next≤w.next
 lim:w.lim=w0.lim
theorem InS.refl {C:α→List Value} {e:TypeId} {w:AW} {B:Nat} {L:List α} (h:w.heap.get B=some (.cells (L.flatMap C) e false)):InS C e w B L w:=⟨h,fun _ _ _=>rfl,Nat.le_refl _,rfl⟩
theorem InS.trans {C:α→List Value} {e:TypeId} {w0 w w':AW} {B:Nat} {L L':List α} (h:InS C e w0 B L w) (h':InS C e w B L' w'):InS C e w0 B L' w' :=
 ⟨h'.row,fun x hx hb=>(h'.old x (by have:=h.next; omega) hb).trans (h.old x hx hb),Nat.le_trans h.next h'.next,h'.lim.trans h.lim⟩
structure SortT (P:Program) (st e:TypeId) (sz:Nat) (C:α→List Value) (V:α→Value):Prop where
 ix:∀ (w:AW) (B n c k:Nat),k < n→indexAddrA P w st (.slice (some ⟨B,0,none⟩) n c) (.int .i64 (k:Int))=.val (.pointer (some ⟨B,k * sz,none⟩)) w
 ld:∀ (w:AW) (B k:Nat) (L:List α) (x:α),w.heap.get B=some (.cells (L.flatMap C) e false)→L[k]?=some x→loadA P w e (.pointer (some ⟨B,k * sz,none⟩))=.val (V x) w
 st:∀ (w:AW) (B k:Nat) (L:List α) (x:α),w.heap.get B=some (.cells (L.flatMap C) e false)→k < L.length→w.lim≤B→storeA P w e (.pointer (some ⟨B,k * sz,none⟩)) (V x)=.val undef ⟨w.heap.put B (some (.cells ((L.set k x).flatMap C) e false)),w.next,w.lim⟩
theorem SortT.agg {P:Program} {st e:TypeId} {sz:Nat} {C:α→List Value} (h1:P.underlying st=some (.slice e)) (h2:szOf P e=some sz) (h3:aggOf P e=some true) (hC:∀ a,(C a).length=sz) (hs:∀ a,singles (C a)=true):SortT P st e sz C (fun x=>.agg ⟨C x⟩):=by
 refine ⟨fun w B n c k hk=>?_,fun w B k L x hr hx=>?_,fun w B k L x hr hk hl=>?_⟩
 ·rw [indexAddr_slice h1 h2 ⟨B,0,none⟩ n c .i64 k hk]; simp
 ·rw [load_agg h3 h2]
  have:=flat_at hC L k x [] hx
  rw [List.append_nil] at this
  rw [rd_eq,hr,rdO_cells,if_pos this.2,this.1]
  rfl
 ·rw [store_eq h2 _ _ (by simp [hC])]
  have hf:=flat_length hC L
  simp only [wr_eq,cellsOf_agg,hr]
  rw [wrO_cells (hs x) hl (by rw [hC,hf]; have:=Nat.mul_le_mul_right sz (show k + 1≤L.length from hk); rw [Nat.add_mul] at this; omega),hC,flat_set hC L k x hk]
  rfl
theorem SortT.one {P:Program} {st e:TypeId} {V:α→Value} (h1:P.underlying st=some (.slice e)) (h2:szOf P e=some 1) (h3:aggOf P e=some false) (hs:∀ a,cellsOf (V a)=[V a]∧singles [V a]=true):SortT P st e 1 (fun x=>[V x]) V:=by
 have hC:∀ a,((fun x=>[V x]) a).length=1:=fun a=>rfl
 refine ⟨fun w B n c k hk=>?_,fun w B k L x hr hx=>?_,fun w B k L x hr hk hl=>?_⟩
 ·rw [indexAddr_slice h1 h2 ⟨B,0,none⟩ n c .i64 k hk]; simp
 ·rw [load_one h3]
  have:=(flat_at hC L k x [] hx).1
  rw [List.append_nil] at this
  have h0:(L.flatMap fun x=>[V x])[k * 1]?=some (V x):=by
   have e:((List.drop (k * 1) (L.flatMap fun x=>[V x])).take 1)[0]?=some (V x):=by rw [this]; rfl
   rw [List.getElem?_take_of_lt (by omega),List.getElem?_drop] at e
   exact e
  rw [rd1_eq,hr,rd1O_cells,h0]
  rfl
 ·rw [store_eq h2 _ _ (by rw [(hs x).1]; rfl)]
  have hf:=flat_length hC L
  simp only [wr_eq,(hs x).1,hr]
  rw [wrO_cells (hs x).2 hl (by simp only [List.length_singleton]; rw [hf]; omega)]
  have:=flat_set hC L k x hk
  simp only [List.length_singleton]
  rw [this]
  rfl
theorem InS.swap {P:Program} {st e:TypeId} {sz:Nat} {C:α→List Value} {V:α→Value} (T:SortT P st e sz C V) {w0 w:AW} {B:Nat} {L:List α} (h:InS C e w0 B L w) (hl:w0.lim≤B) {i j:Nat} {x y:α} (hx:L[i]?=some x) (hy:L[j]?=some y) :
  ∃ w1 w2,storeA P w e (.pointer (some ⟨B,i * sz,none⟩)) (V y)=.val undef w1∧storeA P w1 e (.pointer (some ⟨B,j * sz,none⟩)) (V x)=.val undef w2∧InS C e w0 B (swp L i j x y) w2:=by
 have hlim:=h.lim
 refine ⟨_,_,T.st w B i L y h.row (at_lt hx) (by omega),T.st _ B j (L.set i y) x (by simp) (by rw [List.length_set]; exact at_lt hy) (by show w.lim≤B; omega),⟨?_,fun z hz hb=>?_,h.next,hlim⟩⟩
 ·simp [swp]
 ·simp [hb]; exact h.old z hz hb
def Two (lo hi:Nat) (x:Value):Prop:=∃ p q:Nat,x=.tuple ⟨[.int .i64 (p:Int),.int .i64 (q:Int)]⟩∧lo≤p∧p < hi∧lo≤q∧q < hi
end
end Go.Sh
