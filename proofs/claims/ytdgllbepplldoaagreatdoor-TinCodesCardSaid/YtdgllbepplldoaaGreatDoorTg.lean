/-
  rostellumlaw08.TinCodes (the check sign of a text, whether it is a code, and the codes that are near it are what the specification of the chapter says) answers true whatever the text is, and it reads behind the call as before.
  Conditions: those of the given row alone (its listed variables of the library and of the program hold what their initialisers lay; the card ties them to the text of the program).
  How: a machine of its own (the texts Sh) is proved to say of each call what the model does, whatever order is drawn; the specification's sums are the program's (IC2), and the list into which it puts codes one by one rises and has the members of the program's sorted list (IC3 to IC7).
-/
import Derived.Test.YtdgllbepplldoaaGreatDoorTf
import Derived.Test.YtdgllbepplldoaaGreatDoorTe
import Derived.Test.YtdgllbepplldoaaGreatDoorShF
import Derived.Test.YtdgllbepplldoaaGreatDoorCards
import Derived.Test.YtdgllbepplldoaaGreatDoorTie
import Derived.WalkKit
import Derived.ProofKit
import Derived.OpenShut
import Derived.Deep.DeepHandedRow
import Derived.Deep.DeepWitnessRowRef
set_option linter.all false
namespace Go.Proofs.YtdgllbepplldoaaGreatDoor.walk
open Go Go.Sh
set_option maxRecDepth 100000
/-! TinCodes -/
section
variable {ov:Ov}
theorem call13 (m:Nat) (h:Hos ov) (s:List UInt8) (w:AW) (hl:w.lim≤w.next) :
  ∃ v w',(run Tryz.prog ov (m + 5)).call 13 [.string ⟨⟨s⟩⟩] w .none=.ok (.ret v) w' .none∧∃ v1 l,v=.tuple ⟨[v1,.int .i64 (nearE s)]⟩∧RowsV stC w' v1 l∧(areB s 2 17=true→∀ l0,NearOf s l0→l0=l)∧(areB s 2 17=false→l=[])∧notJunk v1=some v1∧Up w w':=by
 refine call_wp text13 (by simp) (h.o13 _ _) ?_
 have r:(run Tryz.prog ov (m + 4)).call 31 [.string ⟨⟨s⟩⟩,.int .i64 2,.int .i64 17] w .none=.ok (.ret (.bool (areB s 2 17))) w .none:=run31 h.o31 h.o34 h.o23 (m + 2) s 2 17 (by decide) w
 have nil0:RowsV stC w (.slice none 0 0) []:=.inl ⟨rfl,_,_,rfl⟩
 cases ha:areB s 2 17 with
 | false =>
  rw [ha] at r
  have he:nearE s=80:=by unfold nearE; rw [ha]; rfl
  simp [mc13,r,tupV,he]
  exact ⟨[],nil0,rfl,Up.refl _⟩
 | true =>
  rw [ha] at r
  have he:nearE s=0:=by unfold nearE; rw [ha]; rfl
  obtain ⟨l1,l2,_⟩:=are_all ha
  have r11:=run11 h.o11 h.o31 h.o32 h.o34 h.o23 (m + 1) s w
  cases hc:codeB s with
  | true =>
   rw [hc] at r11
   simp [mc13,r,r11,tupV,he]
   refine ⟨_,nil0,fun l0 hN=>?_,Up.refl _⟩
   have:=hN.perm
   rw [near_code hc] at this
   exact List.Perm.eq_nil this
  | false =>
   rw [hc] at r11
   simp [mc13,r,r11,he]
   refine wp_seqX (wp_blockX (loop13a (n1:=w.next) m h hl (Nat.le_refl _) (by omega) _ _ ?_ ?_ ?_ ?_))
   ·simp
   ·simp
   ·simp
   ·intro t w' ⟨hu,D,l,hacc,hin,_,hD⟩
    have hok:=hacc.ok
    simp [hok,tupV]
    refine ⟨l,hacc.rows,fun l0 hN=>near_same hN hin fun x=>?_,hu⟩
    rw [hD]
    constructor
    ·rintro (⟨j,_,h | h⟩ | ⟨j,_,h,_⟩)
     ·exact .inl ⟨j,h⟩
     ·exact .inr ⟨j,h⟩
     ·omega
    ·rintro (⟨j,h⟩ | ⟨j,h⟩)
     ·exact .inl ⟨j,h.lt,.inl h⟩
     ·exact .inl ⟨j,by have:=h.lt; omega,.inr h⟩
theorem run14 (h:Hos ov) (m:Nat) (v v':Value) (l:List (List UInt8)) (hll:l.length≤1000) (w:AW) (hr:RowsV stC w v l) (hr':RowsV stC w v' l):(run Tryz.prog ov (m + 1)).call 14 [v,v'] w .none=.ok (.ret (.bool true)) w .none:=by
 have key:∃ x w',(run Tryz.prog ov (m + 1)).call 14 [v,v'] w .none=.ok (.ret x) w' .none∧x=.bool true∧w'=w:=by
  refine call_wp text14 (by simp) (h.o14 _ _) ?_
  have q1:=len26V (w':=w) hr
  have q2:=len26V (w':=w) hr'
  simp [mc14,q1,q2]
  refine wp_seqX (wp_blockX (wp_rounds (fun i t w'=>w'=w∧tget t 0=v∧tget t 1=v'∧tget t 5=.bool true∧tget t 6=.int .i64 (i:Nat)∧i≤l.length) 2000 (by decide) ?_ ?_))
  ·simp
  ·rintro i t w' ⟨rfl,t0,t1,t5,t6,hi⟩
   by_cases hlt:i < l.length
   ·obtain ⟨y,hy⟩:∃ y,l[i]?=some y:=⟨_,List.getElem?_eq_getElem hlt⟩
    obtain ⟨b,off,sq,cp,e3,hra⟩:=hr.at_ i hlt
    obtain ⟨b',off',sq',cp',e3',hra'⟩:=hr'.at_ i hlt
    have hia:=fun w=>ia26 w ⟨b,off,sq⟩ l.length cp .i64 i hlt
    have hia':=fun w=>ia26 w ⟨b',off',sq'⟩ l.length cp' .i64 i hlt
    have hrd:=row_str hra hy
    have hrd':=row_str hra' hy
    have hlt':(i:Int) < (l.length:Int):=by omega
    have hw1:IntKind.wrap .i64 ((i:Int) + 1)=(i:Int) + 1:=wrap64_in (by omega) (by omega)
    subst e3 e3'
    simp [mc14_l0,t0,t1,t5,t6,q1,hlt',hia,hia',hrd,hrd',hw1]
    omega
   ·have hlt':¬ (i:Int) < (l.length:Int):=by omega
    simp [mc14_l0,t0,t1,t5,t6,q1,hlt',tupV]
 obtain ⟨v,w',h,rfl,rfl⟩:=key
 exact h
structure Has3 (ov:Ov):Prop where
 nr:Nr ov
 hos:Hos ov
 o8:∀ args w,ov 8 args w=none
 h30:HasP ov 30 S30.F
 hq:HasQ ov
theorem run3 (m:Nat) (ho:∀ args w,ov 3 args w=none) (h:Has3 ov) (s:List UInt8) (w:AW) (hl:w.lim≤w.next) (hL:LaidW w) :
  ∃ x w',(run Tryz.prog ov (m + 209)).call 3 [.string ⟨⟨s⟩⟩] w .none=.ok (.ret x) w' .none∧x=.bool true:=by
 refine call_wp text3 (by simp) (ho _ _) ?_
 have hn:=hL.n
 have r8:=run8 h.o8 h.nr.o29 h.nr.o58 h.nr.o59 h.h30 (m + 205) s w hL.sg (by omega)
 have r9:=run9 h.hos.o9 h.hos.o31 h.hos.o32 h.hos.o34 h.hos.o23 (m + 205) s w
 have r10:=S10.call (P:=Tryz.prog) h.nr.h10 (m:=m + 207) (w:=w) ⟨⟨⟨s⟩⟩,rfl,⟨hL.sg,by omega⟩,rfl⟩
 have e10:(⟨⟨s⟩⟩:ByteArray).data.toList=s:=rfl
 rw [e10] at r10
 have r11:=run11 h.hos.o11 h.hos.o31 h.hos.o32 h.hos.o34 h.hos.o23 (m + 205) s w
 obtain ⟨_,w1,c12,v1,l,rfl,hr,hN,hE,hj,u1⟩:=call12 m h.nr s (near_few s) w hl hL.sg (by omega)
 obtain ⟨_,w2,c13,v2,l',rfl,hr2,hN2,hE2,hj2,u2⟩:=call13 (m + 203) h.hos s w1 (by have:=u1.next; have:=u1.lim; omega)
 have hll:l=l':=by
  cases ha:areB s 2 17 with
  | true=>exact hN2 ha l (hN ha)
  | false=>rw [hE ha,hE2 ha]
 subst hll
 have hlen:l.length≤1000:=by
  cases ha:areB s 2 17 with
  | true=>rw [(hN ha).perm.length_eq]; have:=near_few s ha; omega
  | false=>rw [hE ha]; simp
 have r14:=run14 h.hos (m + 207) v1 v2 l hlen w2 (hr.up u2) hr2
 have r15:=ruleQ h.hq ((hL.up u1).up u2) (m + 207)
 simp [mc3,r8,r9,r10,r11,c12,c13,hj,hj2,r14,r15,tupV]
end
open Go Go.Sh Go.ChangeShapes
theorem ty9:tyOk Tryz.prog 6 9=true:=by kernel_rfl
theorem c9:Tryz.prog.cellsOf 9=1:=by kernel_rfl
theorem str_arg {A:AW} {m:Value} (h:ArgT Tryz.prog A.heap A.next 9 m):∃ s:ByteArray,m=.string s:=by
 unfold ArgT at h
 rw [u9] at h
 obtain ⟨s,e,_⟩:=WT.toStr u9 h
 cases e
 exact ⟨s,rfl⟩
theorem start0:(startH laidL).get 0=some (.cells (signL.map fun z=>Value.int .u8 z) 96 true):=by
 show ((((startH []).put 3 (some (.cells [unk] 119 true))).put 1 (some (.cells (pow10.map fun z=>Value.int .u64 z) 225 true))).put 0 (some (.cells (signL.map fun z=>Value.int .u8 z) 96 true))).get 0=_
 rw [get_put,if_pos rfl]
theorem start1:(startH laidL).get 1=some (.cells (pow10.map fun z=>Value.int .u64 z) 225 true):=by
 show ((((startH []).put 3 (some (.cells [unk] 119 true))).put 1 (some (.cells (pow10.map fun z=>Value.int .u64 z) 225 true))).put 0 (some (.cells (signL.map fun z=>Value.int .u8 z) 96 true))).get 1=_
 rw [get_put,if_neg (by decide),get_put,if_pos rfl]
theorem start3:(startH laidL).get 3=some (.cells [unk] 119 true):=by
 show ((((startH []).put 3 (some (.cells [unk] 119 true))).put 1 (some (.cells (pow10.map fun z=>Value.int .u64 z) 225 true))).put 0 (some (.cells (signL.map fun z=>Value.int .u8 z) 96 true))).get 3=_
 rw [get_put,if_neg (by decide),get_put,if_neg (by decide),get_put,if_pos rfl]
theorem topHos:Hos o21:=⟨chN rfl,chN rfl,chN rfl,chN rfl,chN rfl,chN rfl,chN rfl,chN rfl,chN rfl,chN rfl⟩
theorem topHas3:Has3 o21:=⟨topNr,topHos,chN rfl,chH rfl,chW rfl⟩
theorem start_true (A:AW) (ms:List Value) (hl:A.lim=A.next) (hG:Tryz.prog.globals.size≤A.next) (hs:∀ b,b < Tryz.prog.globals.size→A.heap.get b=(startH laidL).get b) (hms:ArgsT Tryz.prog A.heap A.next [9] ms) (hz:∀ (j:Nat) t e a k c,([9]:List TypeId)[j]?=some t→Tryz.prog.underlying t=some (.slice e)→ms[j]?=some (.slice a k c)→k * Tryz.prog.bytesOf e≤reachBytes) :
  ∃ A' x',(run Tryz.prog o21 209).call 3 ms A .none=.ok (.ret (.bool true)) A' x':=by
 rw [globals9] at hG hs
 match ms,hms with
 | [m],hm =>
  obtain ⟨⟨⟨s⟩⟩,rfl⟩:=str_arg hm.1
  obtain ⟨_,w',hc,rfl⟩:=run3 0 (chN rfl) topHas3 s A (Nat.le_of_eq hl) ⟨⟨true,by rw [hs 0 (by decide),start0]⟩,⟨true,by rw [hs 1 (by decide),start1]⟩,⟨true,by rw [hs 3 (by decide),start3]⟩,hG⟩
  exact ⟨w',_,hc⟩
open Go.ChangeShapes Go.WideShapes Go.ChangeAt Go.RowKit Go.Sh
theorem own:ownKnob Tryz.prog.godebug=none:=by kernel_rfl
theorem row0:RowOf Tryz.prog 0 37 96:=.of (by kernel_rfl)
theorem row1:RowOf Tryz.prog 1 20 225:=.of (by kernel_rfl)
theorem row3:RowOf Tryz.prog 3 1 119:=.of (by kernel_rfl)
theorem g0:Tryz.prog.globalNamed "rostellum/tin.signs"=some 0:=by kernel_rfl
theorem g1:Tryz.prog.globalNamed "internal/strconv.uint64pow10"=some 1:=by kernel_rfl
theorem g3:Tryz.prog.globalNamed "strconv.ErrSyntax"=some 3:=by kernel_rfl
theorem t0:(Tryz.prog.globals[0]?).map (·.type)=some 96:=by kernel_rfl
theorem t1:(Tryz.prog.globals[1]?).map (·.type)=some 225:=by kernel_rfl
theorem t3:(Tryz.prog.globals[3]?).map (·.type)=some 119:=by kernel_rfl
theorem size_le {g:Nat} (h:g < 9):g < Tryz.prog.globals.size:=by rw [globals9]; exact h
theorem u96:Tryz.prog.underlying 96=some (.array 37 5):=by kernel_rfl
theorem u225:Tryz.prog.underlying 225=some (.array 20 146):=by kernel_rfl
theorem u146:Tryz.prog.underlying 146=some (.int .u64):=by kernel_rfl
theorem u5:Tryz.prog.underlying 5=some (.int .u8):=by kernel_rfl
theorem u119:Tryz.prog.underlying 119=some (.interface #[("Error",123)]):=by kernel_rfl
theorem c5:Tryz.prog.cellsOf 5=1:=by kernel_rfl
theorem c96:Tryz.prog.cellsOf 96=37:=by kernel_rfl
theorem c146:Tryz.prog.cellsOf 146=1:=by kernel_rfl
theorem c225:Tryz.prog.cellsOf 225=20:=by kernel_rfl
def laidRow:List (String × DataW Unit):=[("math/bits.deBruijn32tab",Rows.laid_math_bits_deBruijn32tab),("math/bits.deBruijn64tab",Rows.laid_math_bits_deBruijn64tab),("internal/strconv.uint64pow10",Rows.laid_internal_strconv_uint64pow10),("unicode/utf8.acceptRanges",Rows.laid_unicode_utf8_acceptRanges),("strconv.ErrRange",Rows.laid_strconv_ErrRange),("strconv.ErrSyntax",Rows.laid_strconv_ErrSyntax),("rostellum/tin.signs",Rows.laid_rostellum_tin_signs),("unicode/utf8.first",Rows.laid_unicode_utf8_first)]
theorem laid_ok {W:World} (hs:W.ShapedOpen Tryz.prog) (hL:laidMet Tryz.prog laidRow W):LaidOk Tryz.prog W laidL:=by
 intro x hx
 unfold laidL at hx
 rcases List.mem_cons.1 hx with rfl | hx
 ·exact laid_tab hs hL (zs:=signL) (.tail _ (.tail _ (.tail _ (.tail _ (.tail _ (.tail _ (.head _))))))) g0 (size_le (by decide)) t0 u96 u5 c5 c96 row0
 rcases List.mem_cons.1 hx with rfl | hx
 ·exact laid_tab hs hL (zs:=pow10) (.tail _ (.tail _ (.head _))) g1 (size_le (by decide)) t1 u225 u146 c146 c225 row1
 rcases List.mem_cons.1 hx with rfl | hx
 ·exact laid_iface hs hL (.tail _ (.tail _ (.tail _ (.tail _ (.tail _ (.head _)))))) g3 (size_le (by decide)) t3 u119 row3
 ·cases hx
theorem kids:Kids Tryz.prog (· < Tryz.prog.types.size):=kids_rows (by kernel_rfl) (by kernel_rfl)
theorem wide:slicesWide Tryz.prog=true:=by kernel_rfl
noncomputable def laidWorld (os:Os):World :=
 let w0:=World.holding Tryz.prog os ⟨#[],#[],[]⟩
 let put (h:Array Obj) (g:Nat) (cs:Array Value):Array Obj:=h.modify g fun
  | .cells _ t frozen=>.cells cs t frozen
  | o=>o
 let ints (k:IntKind) (zs:List Int):Array Value:=(zs.map fun z=>Value.int k z).toArray
 let h:=put w0.heap 0 (ints .u8 signL)
 let h:=put h 1 (ints .u64 pow10)
 let h:=put h 3 #[.iface 250 (.pointer (some ⟨14,0,none⟩))]
 let h:=put h 4 #[.iface 250 (.pointer (some ⟨15,0,none⟩))]
 let h:=put h 5 (ints .u8 [0,1,28,2,29,14,24,3,30,22,20,15,25,17,4,8,31,27,13,23,21,19,16,7,26,12,18,6,11,5,10,9])
 let h:=put h 6 (ints .u8 [0,1,56,2,57,49,28,3,61,58,42,50,38,29,17,4,62,47,59,36,45,43,51,22,53,39,33,30,24,18,12,5,63,55,48,27,60,41,37,16,46,35,44,21,52,32,23,11,54,26,40,15,34,20,31,10,25,14,19,9,13,8,7,6])
 let h:=put h 7 (ints .u8 [240,240,240,240,240,240,240,240,240,240,240,240,240,240,240,240,240,240,240,240,240,240,240,240,240,240,240,240,240,240,240,240,240,240,240,240,240,240,240,240,240,240,240,240,240,240,240,240,240,240,240,240,240,240,240,240,240,240,240,240,240,240,240,240,240,240,240,240,240,240,240,240,240,240,240,240,240,240,240,240,240,240,240,240,240,240,240,240,240,240,240,240,240,240,240,240,240,240,240,240,240,240,240,240,240,240,240,240,240,240,240,240,240,240,240,240,240,240,240,240,240,240,240,240,240,240,240,240,241,241,241,241,241,241,241,241,241,241,241,241,241,241,241,241,241,241,241,241,241,241,241,241,241,241,241,241,241,241,241,241,241,241,241,241,241,241,241,241,241,241,241,241,241,241,241,241,241,241,241,241,241,241,241,241,241,241,241,241,241,241,241,241,241,241,2,2,2,2,2,2,2,2,2,2,2,2,2,2,2,2,2,2,2,2,2,2,2,2,2,2,2,2,2,2,19,3,3,3,3,3,3,3,3,3,3,3,3,35,3,3,52,4,4,4,68,241,241,241,241,241,241,241,241,241,241,241])
 let h:=put h 8 (ints .u8 [128,191,160,191,128,159,144,191,128,143,0,0,0,0,0,0,0,0,0,0,0,0,0,0,0,0,0,0,0,0,0,0])
 { w0 with heap:=(h.push (.cells #[.string ⟨#[105,110,118,97,108,105,100,32,115,121,110,116,97,120]⟩] 252)).push (.cells #[.string ⟨#[118,97,108,117,101,32,111,117,116,32,111,102,32,114,97,110,103,101]⟩] 252) }
theorem laid_met (os:Os) (args:Array Value):laidMet Tryz.prog laidRow ((laidWorld os).forCall (fun _ _=>0) ⟨#[],args,[]⟩).memory :=
 laidMet_of_run' 8 (by kernel_rfl) (by kernel_rfl)
theorem reads (os:Os) {H:Type} (enc:TypeId × Value→H):∃ places,DataW.whole enc Tryz.prog ((laidWorld os).forCall (fun _ _=>0) ⟨#[],#[.string ⟨⟨[]⟩⟩],[]⟩).memory Tryz.f3.params.toList Rows.tinCodesSpec.vars false (#[Value.string ⟨⟨[]⟩⟩]:Array Value).toList 8=some ([.lit (.string [])],[],places) :=
 ⟨[],by kernel_rfl⟩
theorem mem_all {t a:Nat} (h:t ∈ [a]):t=a:=by simpa using h
theorem params3:Tryz.f3.params.toList=[9]:=by kernel_rfl
set_option maxRecDepth 100000 in
theorem contract (H:Type) (enc:TypeId × Value→H) (W:World) (base:Nat) (args:Array Value) (ds gs:List (DataW H)) (before:List MemPlace)
  (hval:∀ (j:Nat) t v,Tryz.f3.params[j]?=some t→args[j]?=some v→Value.okWide Tryz.prog W .any base t v)
  (hW:DataW.Whole enc Tryz.prog Tryz.f3.params.toList Rows.tinCodesSpec.vars false W args.toList ds gs before) {tw:List TypeId} (hz:(DataW.weightsEach Tryz.prog (Tryz.f3.params.toList++tw) (ds++gs)).all (·≤reachBytes)=true) (hL:laidMet Tryz.prog laidRow W) (hs:W.ShapedOpen Tryz.prog) :
  Calls Tryz.prog 3 args W fun e W'=>∃ v,e=.returned v∧Rows.tinCodesSpec.post enc Tryz.prog Tryz.f3 false true false false W args v W':=by
 have hW':=hW
 obtain ⟨vs⟩:=args
 obtain ⟨p,q,hA,hV,rfl,hfz,hnd⟩:=hW
 obtain ⟨rfl,rfl⟩:=trodVars_none hV
 have hA':=hA
 rw [params3] at hA'
 rw [params3] at hz
 obtain ⟨_,hlen⟩:=trodAll_length _ _ _ _ hA'
 have key:=input_sized no_count mixed ok21 (laid_ok hs hL) (d:=6) (ts:=[9]) (f:=3) (m:=209) (fun t ht=>by rcases mem_all ht with rfl; exact ty9) (fun j t v h1 h2=>hval j t v (by rw [← Array.getElem?_toList,params3]; exact h1) (by simpa using h2)) hA' hlen hz start_true
 match ds,hlen with
 | [d1],_ =>
  refine key.mono fun e W' ⟨he,hk⟩=>?_
  subst he
  exact ⟨_,rfl,post_stays (pa:=p) (pv:=[]) hW' (fun _ _ _=>trodAll_cons_mk (shut_bool Tryz.underlying4 _) trodAll_mk0)
   (fun sp hsp=>by
    show DataW.TrodAll enc Tryz.prog W' 0 sp true Tryz.f3.params.toList vs [d1] p
    rw [params3]
    exact args_again kids wide hk [9] vs [d1] p (fun t ht=>by rcases mem_all ht with rfl <;> decide +kernel) hA' (fun x hx=>hW'.lt x (by simpa using hx)) (fun x hx=>hsp x (by simpa using hx)))
   (fun _ _=>rfl) rfl hk (ok_one (by kernel_rfl) rfl (okWide_bool_mk Tryz.underlying4 _))⟩
set_option maxRecDepth 100000 in
theorem lifted (os:Os) (started:os.Started) (H:Type) (enc:TypeId × Value→H) (F:Stop.Interp) :
  ReturnsInHanded {} Tryz.checked os 3 .any ((OpenSpec.ofChange Rows.tinCodesSpec).preRow enc Tryz.prog Tryz.f3 Rows.tinCodesRow.domain false Rows.tinCodesRow.laid) (((OpenSpec.ofChange Rows.tinCodesSpec).at F).post enc Tryz.prog Tryz.f3 false true false false):=by
 obtain ⟨places,hx⟩:=reads os enc
 refine returnsInHanded_of_row (C:=Tryz.checked) (s:=OpenSpec.ofChange Rows.tinCodesSpec) own started (by kernel_rfl) Tryz.func3
  (witness_row_atRef (enc:=enc) (C:=Tryz.checked) false (laidWorld os) #[.string ⟨⟨[]⟩⟩] rfl (by kernel_rfl) (by kernel_rfl) (by kernel_rfl)
   (OpenSpec.preRow_of_cond 8 hx (by kernel_rfl) (fun k hk=>by cases hk) (by kernel_rfl) (laid_met os _))) ?_
 intro W base args ds gs before hval hW _ _ hz hL hs _
 exact contract H enc W base args ds gs before hval hW hz hL hs
theorem said:Rows.TinCodesSaid :=
 OpenClaim.holds_of_cond 3 Tryz.f3 rfl rfl rfl rfl rfl rfl rfl ⟨rfl,rfl,rfl,rfl,rfl⟩ rfl rfl rfl rfl rfl (by kernel_rfl) Tryz.func3 (by kernel_rfl)
  (of_decide_eq_true (by kernel_rfl)) (by unfold Func.isWrapper; first | (rw [if_pos (by decide +kernel)]; kernel_rfl) | (rw [if_neg (by decide +kernel)]; exact ⟨rfl,rfl⟩))
  (fun os started H enc _ F=>by rw [OpenClaim.pre_eq_preRow]; exact lifted os started H enc F)
theorem plain (f:FuncId) (fn:Func) (hf:Tryz.pinned.checked.prog.funcNamed "rostellum/rostellumlaw08.TinCodes"=some f) (hfn:Tryz.pinned.checked.prog.funcs[f]?=some fn) :
  true=Tryz.pinned.checked.prog.looks []∧∀ (j:Nat) t,fn.params[j]?=some t→Tryz.pinned.checked.prog.wantsStandIn t=false:=by
 obtain rfl:f=3:=Option.some.inj ((show Tryz.prog.funcNamed "rostellum/rostellumlaw08.TinCodes"=some 3 by kernel_rfl).symm.trans hf) |>.symm
 obtain rfl:fn=Tryz.f3:=(Option.some.inj (Tryz.func3.symm.trans hfn)).symm
 refine ⟨by kernel_rfl,fun j t ht=>?_⟩
 have h1:t ∈ Tryz.f3.params.toList:=by
  rw [← Array.getElem?_toList] at ht
  exact List.mem_of_getElem? ht
 rw [params3] at h1
 have k9:Tryz.prog.wantsStandIn 9=false:=by kernel_rfl
 rcases mem_all h1 with rfl
 ·exact k9
set_option maxRecDepth 100000 in
theorem card:Rows.TinCodesCardSaid :=
 Claim7.holds_tied_plain_at .later [] _ _ _ _ said (fun _ h=>by cases h) (by kernel_rfl) (fun _ h=>by cases h) tinCodes_row_tie rfl ⟨rfl,rfl⟩ (by kernel_rfl) rfl plain (by kernel_rfl)
end Go.Proofs.YtdgllbepplldoaaGreatDoor.walk
