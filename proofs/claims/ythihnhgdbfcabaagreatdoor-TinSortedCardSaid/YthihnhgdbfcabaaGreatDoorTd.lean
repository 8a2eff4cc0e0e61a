/- Part of a proof: see the text with the theorem. -/
import Derived.Test.YthihnhgdbfcabaaGreatDoorTc
import Derived.Test.YthihnhgdbfcabaaGreatDoorTb
set_option linter.all false
namespace Go.Proofs.YthihnhgdbfcabaaGreatDoor.walk
open Go Go.Sh
set_option maxRecDepth 100000
section
variable {α:Type} {C:α→List Value} {V:α→Value} {sz:Nat} {cI:α→α→Int} {fv:Value} {fc:FuncId} {ov:Ov}
end
section
variable {α:Type} {C:α→List Value} {V:α→Value} {sz:Nat} {cI:α→α→Int} {fv:Value} {fc:FuncId} {ov:Ov}
end
section
variable {α:Type} {C:α→List Value} {V:α→Value} {sz:Nat} {cI:α→α→Int} {fv:Value} {fc:FuncId} {ov:Ov}
end
theorem xoU_ex:∃ f:Int→Int→Int,∀ a b,some (f a b)=xorA .u64 a b:=⟨_,fun _ _=>rfl⟩
theorem slU_ex:∃ f:Int→Int→Int,∀ a b,f a b=wrapA .u64 (a * 2 ^ (min b.toNat IntKind.u64.bits)):=⟨_,fun _ _=>rfl⟩
theorem srU_ex:∃ f:Int→Int→Int,∀ a b,f a b=a.fdiv (2 ^ (min b.toNat IntKind.u64.bits)):=⟨_,fun _ _=>rfl⟩
theorem anU_ex:∃ f:Int→Int→Int,∀ a b,f a b=wrapA .u64 (BitVec.ofInt IntKind.u64.bits a &&& BitVec.ofInt IntKind.u64.bits b).toNat:=⟨_,fun _ _=>rfl⟩
noncomputable def xoU:Int→Int→Int:=xoU_ex.choose
noncomputable def slU:Int→Int→Int:=slU_ex.choose
noncomputable def srU:Int→Int→Int:=srU_ex.choose
noncomputable def anU:Int→Int→Int:=anU_ex.choose
theorem bin_xoU {P:Program} (w:AW) (s:TypeId) (c:Bool) (a b:Int):(binW P .xor s c).val (.int .u64 a) (.int .u64 b) w=.val (.int .u64 (xoU a b)) w:=by
 show vR w (arithA xorA (.int .u64 a) (.int .u64 b))=_
 simp [arithA,sameK_refl,vR,← xoU_ex.choose_spec a b,xoU]
theorem bin_slU {P:Program} (w:AW) (s:TypeId) (c:Bool) (a b:Int) (j:IntKind) (h:0≤b):(binW P .shl s c).val (.int .u64 a) (.int j b) w=.val (.int .u64 (slU a b)) w:=by
 show vR w (shiftV shlA (.int .u64 a) (.int j b))=_
 have:¬ b < 0:=by omega
 simp [shiftV,shlA,vR,intLt_eq,this,slU,slU_ex.choose_spec a b]
theorem bin_srU {P:Program} (w:AW) (s:TypeId) (c:Bool) (a b:Int) (j:IntKind) (h:0≤b):(binW P .shr s c).val (.int .u64 a) (.int j b) w=.val (.int .u64 (srU a b)) w:=by
 show vR w (shiftV shrA (.int .u64 a) (.int j b))=_
 have:¬ b < 0:=by omega
 simp [shiftV,shrA,vR,intLt_eq,this,srU,srU_ex.choose_spec a b]
theorem bin_anU {P:Program} (w:AW) (s:TypeId) (c:Bool) (a b:Int):(binW P .and s c).val (.int .u64 a) (.int .u64 b) w=.val (.int .u64 (anU a b)) w:=by
 show vR w (arithA andA (.int .u64 a) (.int .u64 b))=_
 simp [arithA,andA,sameK_refl,vR,anU,anU_ex.choose_spec a b]
theorem anU_le (a:Int) {q:Nat} (hq:q < 2 ^ 20):∃ r:Nat,r≤q∧anU a (q:Int)=(r:Int):=by
 have h:=anU_ex.choose_spec a (q:Int)
 have e:(BitVec.ofInt IntKind.u64.bits (q:Int)).toNat=q:=by
  show (BitVec.ofInt 64 (q:Int)).toNat=q
  rw [BitVec.ofInt_natCast,BitVec.toNat_ofNat,Nat.mod_eq_of_lt (by omega)]
 refine ⟨(BitVec.ofInt IntKind.u64.bits a).toNat &&& q,Nat.and_le_right,?_⟩
 have h2:(BitVec.ofInt IntKind.u64.bits a).toNat &&& q≤q:=Nat.and_le_right
 show anU_ex.choose a (q:Int)=_
 rw [h,wrapA_eq,BitVec.toNat_and,e]
 obtain ⟨r,hr⟩:∃ r,r=(BitVec.ofInt IntKind.u64.bits a).toNat &&& q:=⟨_,rfl⟩
 rw [← hr] at h2 ⊢
 exact IntWalk.u64_in _ ⟨by omega,by omega⟩
def tabL:List UInt8:=[0,1,2,2,3,3,3,3,4,4,4,4,4,4,4,4,5,5,5,5,5,5,5,5,5,5,5,5,5,5,5,5,6,6,6,6,6,6,6,6,6,6,6,6,6,6,6,6,6,6,6,6,6,6,6,6,6,6,6,6,6,6,6,6,7,7,7,7,7,7,7,7,7,7,7,7,7,7,7,7,7,7,7,7,7,7,7,7,7,7,7,7,7,7,7,7,7,7,7,7,7,7,7,7,7,7,7,7,7,7,7,7,7,7,7,7,7,7,7,7,7,7,7,7,7,7,7,7,8,8,8,8,8,8,8,8,8,8,8,8,8,8,8,8,8,8,8,8,8,8,8,8,8,8,8,8,8,8,8,8,8,8,8,8,8,8,8,8,8,8,8,8,8,8,8,8,8,8,8,8,8,8,8,8,8,8,8,8,8,8,8,8,8,8,8,8,8,8,8,8,8,8,8,8,8,8,8,8,8,8,8,8,8,8,8,8,8,8,8,8,8,8,8,8,8,8,8,8,8,8,8,8,8,8,8,8,8,8,8,8,8,8,8,8,8,8,8,8,8,8,8,8,8,8,8,8]
def bl (n:Nat):Nat:=((tabL[n]?).getD 0).toNat
theorem bl_fact:∀ n,n≤200→(1≤n→n < 2 ^ bl n∧2 ^ bl n≤2 * n)∧bl n≤8:=by decide
theorem tab_len:tabL.length=256:=by decide
theorem tab_at (n:Nat) (h:n≤200):∃ b,tabL[n]?=some b:=⟨_,List.getElem?_eq_getElem (by rw [tab_len]; omega)⟩
theorem slU_two:∀ k:Nat,k≤10→slU 1 (k:Int)=((2 ^ k:Nat):Int):=by
 have:∀ k:Nat,k≤10→wrapA .u64 (1 * 2 ^ (min (k:Int).toNat IntKind.u64.bits))=((2 ^ k:Nat):Int):=by decide
 intro k hk
 rw [← this k hk]
 exact slU_ex.choose_spec 1 (k:Int)
set_option maxHeartbeats 2000000 in
theorem call91 {ov:Ov} (m:Nat) (ho:∀ args w,ov 91 args w=none) (n:Nat) (hn:n≤200) (w:AW):∃ x w',(run Tryz.prog ov (m + 1)).call 91 [.int .u64 (n:Int)] w .none=.ok (.ret x) w' .none∧x=.int .i64 (bl n:Nat)∧w'=w:=by
 refine call_wp text91 (by simp) (ho _ _) ?_
 obtain ⟨b,hb⟩:=tab_at n hn
 have hbn:bl n=b.toNat:=by unfold bl; rw [hb]; rfl
 have hb8:b.toNat≤8:=by have:=(bl_fact n hn).2; omega
 obtain ⟨z,hz⟩:∃ z:Int,z=(n:Int):=⟨_,rfl⟩
 have hix:∀ w,indexA Tryz.prog w 9 (.string ⟨⟨tabL⟩⟩) (.int .u8 z)=.val (.int .u8 (b.toNat:Int)) w:=fun w=>by rw [hz]; exact ix9 w ⟨⟨tabL⟩⟩ .u8 n b hb
 unfold tabL at hix
 have h1:¬ (4294967296:Int)≤z:=by omega
 have h2:¬ (65536:Int)≤z:=by omega
 have h3:¬ (256:Int)≤z:=by omega
 have h4:IntKind.wrap .u8 z=z:=IntWalk.u8_in _ ⟨by omega,by omega⟩
 have h5:IntKind.wrap .i64 (b.toNat:Int)=(b.toNat:Int):=wrap64_in (by omega) (by omega)
 have h6:IntKind.wrap .i64 (0 + (b.toNat:Int))=(b.toNat:Int):=by rw [wrap64_in (by omega) (by omega)]; omega
 rw [← hz]
 simp [mc91,h1,h2,h3,h4,h5,h6,hix,hbn,tupV]
theorem call65 {ov:Ov} (m:Nat) (ho:∀ args w,ov 65 args w=none) (ho2:∀ args w,ov 91 args w=none) (n:Nat) (hn:n≤200) (w:AW):∃ x w',(run Tryz.prog ov (m + 2)).call 65 [.int .u64 (n:Int)] w .none=.ok (.ret x) w' .none∧x=.int .i64 (bl n:Nat)∧w'=w:=by
 refine call_wp text65 (by simp) (ho _ _) ?_
 obtain ⟨_,_,hc,rfl,rfl⟩:=call91 m ho2 n hn w
 simp [mc65,hc,tupV]
theorem call113 {ov:Ov} (m:Nat) (ho:∀ args w,ov 113 args w=none) (ho1:∀ args w,ov 65 args w=none) (ho2:∀ args w,ov 91 args w=none) (n:Nat) (hn:n≤200) (w:AW):∃ x w',(run Tryz.prog ov (m + 3)).call 113 [.int .i64 (n:Int)] w .none=.ok (.ret x) w' .none∧x=.int .u64 ((2 ^ bl n:Nat):Int)∧w'=w:=by
 refine call_wp text113 (by simp) (ho _ _) ?_
 obtain ⟨_,_,hc,rfl,rfl⟩:=call65 m ho1 ho2 n hn w
 have h1:IntKind.wrap .u64 (n:Int)=(n:Int):=IntWalk.u64_in _ ⟨by omega,by omega⟩
 have hs:=fun (w:AW) s c=>bin_slU (P:=Tryz.prog) w s c 1 (bl n:Nat) .i64 (by omega)
 simp [mc113,h1,hc,hs,slU_two (bl n) (by have:=(bl_fact n hn).2; omega),tupV]
set_option maxHeartbeats 2000000 in
theorem call114 {ov:Ov} (m:Nat) (ho:∀ args w,ov 114 args w=none) (X:Nat) (r:Int) (w:AW) (hl:w.lim≤X) (hX:w.heap.get X=some (.cells [.int .u64 r] 173 false)):∃ x w',(run Tryz.prog ov (m + 1)).call 114 [.pointer (some ⟨X,0,none⟩)] w .none=.ok (.ret x) w' .none∧∃ r',x=.int .u64 r'∧w'.heap.get X=some (.cells [.int .u64 r'] 173 false)∧(∀ y,y ≠ X→w'.heap.get y=w.heap.get y)∧w'.next=w.next∧w'.lim=w.lim:=by
 refine call_wp text114 (by simp) (ho _ _) ?_
 have q1:=fun (w:AW) s c a=>bin_slU (P:=Tryz.prog) w s c a 13 .u64 (by omega)
 have q2:=fun (w:AW) s c a=>bin_srU (P:=Tryz.prog) w s c a 7 .u64 (by omega)
 have q3:=fun (w:AW) s c a=>bin_slU (P:=Tryz.prog) w s c a 17 .u64 (by omega)
 simp [mc114,hX,hl,bin_xoU,q1,q2,q3,tupV]
 intro y hy
 simp [hy]
section
variable {α:Type} {C:α→List Value} {V:α→Value} {sz:Nat} {cI:α→α→Int} {fv:Value} {fc:FuncId} {ov:Ov}
structure TwO (C:α→List Value) (w0:AW) (B X:Nat) (L:List α) (w:AW):Prop where
 ins:InO C w0 B L w
 ne:X ≠ B
 new:w0.next≤X
 lt:X < w.next
 num:∃ s:Int,w.heap.get X=some (.cells [.int .i64 s] 3 false)
end
section
variable {α:Type} {C:α→List Value} {V:α→Value} {sz:Nat} {cI:α→α→Int} {fv:Value} {fc:FuncId} {ov:Ov}
end
section
variable {α:Type} {C:α→List Value} {V:α→Value} {sz:Nat} {cI:α→α→Int} {fv:Value} {fc:FuncId} {ov:Ov}
structure OsO (ov:Ov):Prop where
 oPDQ:∀ args w,ov 64 args w=none
 oINS:∀ args w,ov 81 args w=none
 oHEAP:∀ args w,ov 82 args w=none
 oSIF:∀ args w,ov 112 args w=none
 oBRK:∀ args w,ov 83 args w=none
 oCHO:∀ args w,ov 84 args w=none
 oREV:∀ args w,ov 85 args w=none
 oPIN:∀ args w,ov 86 args w=none
 oPEQ:∀ args w,ov 88 args w=none
 oPAR:∀ args w,ov 89 args w=none
 oNPT:∀ args w,ov 113 args w=none
 oNXT:∀ args w,ov 114 args w=none
 oMDA:∀ args w,ov 115 args w=none
 oMED:∀ args w,ov 116 args w=none
 oORD:∀ args w,ov 143 args w=none
 oLEN:∀ args w,ov 65 args w=none
 oL64:∀ args w,ov 91 args w=none
end
section
variable {α:Type} {C:α→List Value} {V:α→Value} {sz:Nat} {cI:α→α→Int} {fv:Value} {fc:FuncId} {ov:Ov}
end
end Go.Proofs.YthihnhgdbfcabaaGreatDoor.walk
