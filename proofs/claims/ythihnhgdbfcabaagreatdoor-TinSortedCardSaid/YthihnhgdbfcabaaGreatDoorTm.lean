/-
  rostellumlaw08.TinSorted (whatever lengths pods truly have, those of a bundle of Sort differ by at most the band, no pod is in two of them, bundles that are made otherwise are not more, and with one more pod, a wider band or a better measure there are not fewer) answers true whatever the rule, the pods and the numbers are, and they read behind the call as before.
  Conditions: those of the given row alone (its listed variables of the library and of the program hold what their initialisers lay; the card ties them to the text of the program).
  How: a machine of its own (the texts Sh) is proved to say of each call what the model does, whatever order is drawn; both sorts of the library are proved to order (ID, II), the program's sweep is one function of the sorted lengths (JA1, JA4), and no bundles that share nothing are more than its own (JB1, JB2): neither those that the law makes (JB4) nor the old ones, under another rule or beside one more pod.
-/
import Derived.Test.YthihnhgdbfcabaaGreatDoorCards
import Derived.Test.YthihnhgdbfcabaaGreatDoorTie
import Derived.Test.YthihnhgdbfcabaaGreatDoorTl
import Derived.WalkKit
import Derived.ProofKit
import Derived.OpenShut
import Derived.Deep.DeepHandedRow
import Derived.Deep.DeepWitnessRowRef
set_option linter.all false
namespace Go.Proofs.YthihnhgdbfcabaaGreatDoor.walk
open Go.ChangeShapes Go.WideShapes Go.ChangeAt Go.RowKit Go.Sh
theorem own:ownKnob Tryz.prog.godebug=none:=by kernel_rfl
theorem row0:RowOf Tryz.prog 0 37 96:=.of (by kernel_rfl)
theorem row1:RowOf Tryz.prog 1 20 225:=.of (by kernel_rfl)
theorem row3:RowOf Tryz.prog 3 1 119:=.of (by kernel_rfl)
theorem g0:Tryz.prog.globalNamed "rostellum/tin.signs"=some 0:=by kernel_rfl
theorem g1:Tryz.prog.globalNamed "internal/strconv.uint64pow10"=some 1:=by kernel_rfl
theorem g3:Tryz.prog.globalNamed "strconv.ErrSyntax"=some 3:=by kernel_rfl
theorem t0:(Tryz.prog.globals[0]?).map (·.type)=some 96:=by kernel_rfl
theorem t1:(Tryz.prog.globals[1]?).map (·.type)=some 225:=by kernel_rfl
theorem t3:(Tryz.prog.globals[3]?).map (·.type)=some 119:=by kernel_rfl
theorem size_le {g:Nat} (h:g < 9):g < Tryz.prog.globals.size:=by rw [globals9]; exact h
theorem u96:Tryz.prog.underlying 96=some (.array 37 5):=by kernel_rfl
theorem u225:Tryz.prog.underlying 225=some (.array 20 146):=by kernel_rfl
theorem u146:Tryz.prog.underlying 146=some (.int .u64):=by kernel_rfl
theorem u5:Tryz.prog.underlying 5=some (.int .u8):=by kernel_rfl
theorem u119:Tryz.prog.underlying 119=some (.interface #[("Error",123)]):=by kernel_rfl
theorem c5:Tryz.prog.cellsOf 5=1:=by kernel_rfl
theorem c96:Tryz.prog.cellsOf 96=37:=by kernel_rfl
theorem c146:Tryz.prog.cellsOf 146=1:=by kernel_rfl
theorem c225:Tryz.prog.cellsOf 225=20:=by kernel_rfl
def laidRow:List (String × DataW Unit):=[("math/bits.deBruijn32tab",Rows.laid_math_bits_deBruijn32tab),("math/bits.deBruijn64tab",Rows.laid_math_bits_deBruijn64tab),("internal/strconv.uint64pow10",Rows.laid_internal_strconv_uint64pow10),("unicode/utf8.acceptRanges",Rows.laid_unicode_utf8_acceptRanges),("strconv.ErrRange",Rows.laid_strconv_ErrRange),("strconv.ErrSyntax",Rows.laid_strconv_ErrSyntax),("rostellum/tin.signs",Rows.laid_rostellum_tin_signs),("unicode/utf8.first",Rows.laid_unicode_utf8_first)]
theorem laid_ok {W:World} (hs:W.ShapedOpen Tryz.prog) (hL:laidMet Tryz.prog laidRow W):LaidOk Tryz.prog W laidL:=by
 intro x hx
 unfold laidL at hx
 rcases List.mem_cons.1 hx with rfl | hx
 ·exact laid_tab hs hL (zs:=signL) (.tail _ (.tail _ (.tail _ (.tail _ (.tail _ (.tail _ (.head _))))))) g0 (size_le (by decide)) t0 u96 u5 c5 c96 row0
 rcases List.mem_cons.1 hx with rfl | hx
 ·exact laid_tab hs hL (zs:=pow10) (.tail _ (.tail _ (.head _))) g1 (size_le (by decide)) t1 u225 u146 c146 c225 row1
 rcases List.mem_cons.1 hx with rfl | hx
 ·exact laid_iface hs hL (.tail _ (.tail _ (.tail _ (.tail _ (.tail _ (.head _)))))) g3 (size_le (by decide)) t3 u119 row3
 ·cases hx
theorem kids:Kids Tryz.prog (· < Tryz.prog.types.size):=kids_rows (by kernel_rfl) (by kernel_rfl)
theorem wide:slicesWide Tryz.prog=true:=by kernel_rfl
noncomputable def laidWorld (os:Os):World :=
 let w0:=World.holding Tryz.prog os ⟨#[],#[],[]⟩
 let put (h:Array Obj) (g:Nat) (cs:Array Value):Array Obj:=h.modify g fun
  | .cells _ t frozen=>.cells cs t frozen
  | o=>o
 let ints (k:IntKind) (zs:List Int):Array Value:=(zs.map fun z=>Value.int k z).toArray
 let h:=put w0.heap 0 (ints .u8 signL)
 let h:=put h 1 (ints .u64 pow10)
 let h:=put h 3 #[.iface 250 (.pointer (some ⟨14,0,none⟩))]
 let h:=put h 4 #[.iface 250 (.pointer (some ⟨15,0,none⟩))]
 let h:=put h 5 (ints .u8 [0,1,28,2,29,14,24,3,30,22,20,15,25,17,4,8,31,27,13,23,21,19,16,7,26,12,18,6,11,5,10,9])
 let h:=put h 6 (ints .u8 [0,1,56,2,57,49,28,3,61,58,42,50,38,29,17,4,62,47,59,36,45,43,51,22,53,39,33,30,24,18,12,5,63,55,48,27,60,41,37,16,46,35,44,21,52,32,23,11,54,26,40,15,34,20,31,10,25,14,19,9,13,8,7,6])
 let h:=put h 7 (ints .u8 [240,240,240,240,240,240,240,240,240,240,240,240,240,240,240,240,240,240,240,240,240,240,240,240,240,240,240,240,240,240,240,240,240,240,240,240,240,240,240,240,240,240,240,240,240,240,240,240,240,240,240,240,240,240,240,240,240,240,240,240,240,240,240,240,240,240,240,240,240,240,240,240,240,240,240,240,240,240,240,240,240,240,240,240,240,240,240,240,240,240,240,240,240,240,240,240,240,240,240,240,240,240,240,240,240,240,240,240,240,240,240,240,240,240,240,240,240,240,240,240,240,240,240,240,240,240,240,240,241,241,241,241,241,241,241,241,241,241,241,241,241,241,241,241,241,241,241,241,241,241,241,241,241,241,241,241,241,241,241,241,241,241,241,241,241,241,241,241,241,241,241,241,241,241,241,241,241,241,241,241,241,241,241,241,241,241,241,241,241,241,241,241,241,241,2,2,2,2,2,2,2,2,2,2,2,2,2,2,2,2,2,2,2,2,2,2,2,2,2,2,2,2,2,2,19,3,3,3,3,3,3,3,3,3,3,3,3,35,3,3,52,4,4,4,68,241,241,241,241,241,241,241,241,241,241,241])
 let h:=put h 8 (ints .u8 [128,191,160,191,128,159,144,191,128,143,0,0,0,0,0,0,0,0,0,0,0,0,0,0,0,0,0,0,0,0,0,0])
 { w0 with heap:=(h.push (.cells #[.string ⟨#[105,110,118,97,108,105,100,32,115,121,110,116,97,120]⟩] 252)).push (.cells #[.string ⟨#[118,97,108,117,101,32,111,117,116,32,111,102,32,114,97,110,103,101]⟩] 252) }
theorem laid_met (os:Os) (args:Array Value):laidMet Tryz.prog laidRow ((laidWorld os).forCall (fun _ _=>0) ⟨#[],args,[]⟩).memory :=
 laidMet_of_run' 8 (by kernel_rfl) (by kernel_rfl)
theorem reads (os:Os) {H:Type} (enc:TypeId × Value→H):∃ places,DataW.whole enc Tryz.prog ((laidWorld os).forCall (fun _ _=>0) ⟨#[],#[.agg ⟨[.int .i64 0,.int .i64 0,.int .i64 0]⟩,.slice none 0 0,.slice none 0 0],[]⟩).memory Tryz.f7.params.toList Rows.tinSortedSpec.vars false (#[Value.agg ⟨[.int .i64 0,.int .i64 0,.int .i64 0]⟩,.slice none 0 0,.slice none 0 0]:Array Value).toList 8=some ([.agg [.lit (.int .i64 0),.lit (.int .i64 0),.lit (.int .i64 0)],.nil,.nil],[],places) :=
 ⟨[],by kernel_rfl⟩
theorem mem_all {t a b c:Nat} (h:t ∈ [a,b,c]):t=a∨t=b∨t=c:=by simpa using h
theorem params7:Tryz.f7.params.toList=[32,33,33]:=by kernel_rfl
set_option maxRecDepth 100000 in
theorem contract (H:Type) (enc:TypeId × Value→H) (W:World) (base:Nat) (args:Array Value) (ds gs:List (DataW H)) (before:List MemPlace)
  (hval:∀ (j:Nat) t v,Tryz.f7.params[j]?=some t→args[j]?=some v→Value.okWide Tryz.prog W .any base t v)
  (hW:DataW.Whole enc Tryz.prog Tryz.f7.params.toList Rows.tinSortedSpec.vars false W args.toList ds gs before) {tw:List TypeId} (hz:(DataW.weightsEach Tryz.prog (Tryz.f7.params.toList++tw) (ds++gs)).all (·≤reachBytes)=true) (hL:laidMet Tryz.prog laidRow W) (hs:W.ShapedOpen Tryz.prog) :
  Calls Tryz.prog 7 args W fun e W'=>∃ v,e=.returned v∧Rows.tinSortedSpec.post enc Tryz.prog Tryz.f7 false true false false W args v W':=by
 have hW':=hW
 obtain ⟨vs⟩:=args
 obtain ⟨p,q,hA,hV,rfl,hfz,hnd⟩:=hW
 obtain ⟨rfl,rfl⟩:=trodVars_none hV
 have hA':=hA
 rw [params7] at hA'
 rw [params7] at hz
 obtain ⟨_,hlen⟩:=trodAll_length _ _ _ _ hA'
 have key:=input_sized no_count mixed ok77 (laid_ok hs hL) (d:=6) (ts:=[32,33,33]) (f:=7) (m:=211) (fun t ht=>by rcases mem_all ht with rfl | rfl | rfl; exact ty32; exact ty33; exact ty33) (fun j t v h1 h2=>hval j t v (by rw [← Array.getElem?_toList,params7]; exact h1) (by simpa using h2)) hA' hlen hz start_true
 match ds,hlen with
 | [d1,d2,d3],_ =>
  refine key.mono fun e W' ⟨he,hk⟩=>?_
  subst he
  exact ⟨_,rfl,post_stays (pa:=p) (pv:=[]) hW' (fun _ _ _=>trodAll_cons_mk (shut_bool Tryz.underlying4 _) trodAll_mk0)
   (fun sp hsp=>by
    show DataW.TrodAll enc Tryz.prog W' 0 sp true Tryz.f7.params.toList vs [d1,d2,d3] p
    rw [params7]
    exact args_again kids wide hk [32,33,33] vs [d1,d2,d3] p (fun t ht=>by rcases mem_all ht with rfl | rfl | rfl <;> decide +kernel) hA' (fun x hx=>hW'.lt x (by simpa using hx)) (fun x hx=>hsp x (by simpa using hx)))
   (fun _ _=>rfl) rfl hk (ok_one (by kernel_rfl) rfl (okWide_bool_mk Tryz.underlying4 _))⟩
set_option maxRecDepth 100000 in
theorem lifted (os:Os) (started:os.Started) (H:Type) (enc:TypeId × Value→H) (F:Stop.Interp) :
  ReturnsInHanded {} Tryz.checked os 7 .any ((OpenSpec.ofChange Rows.tinSortedSpec).preRow enc Tryz.prog Tryz.f7 Rows.tinSortedRow.domain false Rows.tinSortedRow.laid) (((OpenSpec.ofChange Rows.tinSortedSpec).at F).post enc Tryz.prog Tryz.f7 false true false false):=by
 obtain ⟨places,hx⟩:=reads os enc
 refine returnsInHanded_of_row (C:=Tryz.checked) (s:=OpenSpec.ofChange Rows.tinSortedSpec) own started (by kernel_rfl) Tryz.func7
  (witness_row_atRef (enc:=enc) (C:=Tryz.checked) false (laidWorld os) #[.agg ⟨[.int .i64 0,.int .i64 0,.int .i64 0]⟩,.slice none 0 0,.slice none 0 0] rfl (by kernel_rfl) (by kernel_rfl) (by kernel_rfl)
   (OpenSpec.preRow_of_cond 8 hx (by kernel_rfl) (fun k hk=>by cases hk) (by kernel_rfl) (laid_met os _))) ?_
 intro W base args ds gs before hval hW _ _ hz hL hs _
 exact contract H enc W base args ds gs before hval hW hz hL hs
theorem said:Rows.TinSortedSaid :=
 OpenClaim.holds_of_cond 7 Tryz.f7 rfl rfl rfl rfl rfl rfl rfl ⟨rfl,rfl,rfl,rfl,rfl⟩ rfl rfl rfl rfl rfl (by kernel_rfl) Tryz.func7 (by kernel_rfl)
  (of_decide_eq_true (by kernel_rfl)) (by unfold Func.isWrapper; first | (rw [if_pos (by decide +kernel)]; kernel_rfl) | (rw [if_neg (by decide +kernel)]; exact ⟨rfl,rfl⟩))
  (fun os started H enc _ F=>by rw [OpenClaim.pre_eq_preRow]; exact lifted os started H enc F)
theorem plain (f:FuncId) (fn:Func) (hf:Tryz.pinned.checked.prog.funcNamed "rostellum/rostellumlaw08.TinSorted"=some f) (hfn:Tryz.pinned.checked.prog.funcs[f]?=some fn) :
  true=Tryz.pinned.checked.prog.looks []∧∀ (j:Nat) t,fn.params[j]?=some t→Tryz.pinned.checked.prog.wantsStandIn t=false:=by
 obtain rfl:f=7:=Option.some.inj ((show Tryz.prog.funcNamed "rostellum/rostellumlaw08.TinSorted"=some 7 by kernel_rfl).symm.trans hf) |>.symm
 obtain rfl:fn=Tryz.f7:=(Option.some.inj (Tryz.func7.symm.trans hfn)).symm
 refine ⟨by kernel_rfl,fun j t ht=>?_⟩
 have h1:t ∈ Tryz.f7.params.toList:=by
  rw [← Array.getElem?_toList] at ht
  exact List.mem_of_getElem? ht
 rw [params7] at h1
 have k32:Tryz.prog.wantsStandIn 32=false:=by kernel_rfl
 have k33:Tryz.prog.wantsStandIn 33=false:=by kernel_rfl
 rcases mem_all h1 with rfl | rfl | rfl
 ·exact k32
 ·exact k33
 ·exact k33
set_option maxRecDepth 100000 in
theorem card:Rows.TinSortedCardSaid :=
 Claim7.holds_tied_plain_at .later [] _ _ _ _ said (fun _ h=>by cases h) (by kernel_rfl) (fun _ h=>by cases h) tinSorted_row_tie rfl ⟨rfl,rfl⟩ (by kernel_rfl) rfl plain (by kernel_rfl)
end Go.Proofs.YthihnhgdbfcabaaGreatDoor.walk
