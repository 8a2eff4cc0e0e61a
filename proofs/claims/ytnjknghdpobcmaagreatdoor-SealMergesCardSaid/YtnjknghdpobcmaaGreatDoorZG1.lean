/- Part of a proof: see the text with the theorem. -/
import Derived.Test.YtnjknghdpobcmaaGreatDoorCards
import Derived.Test.YtnjknghdpobcmaaGreatDoorTie
import Derived.Test.YtnjknghdpobcmaaGreatDoorZGA
import Derived.WalkKit
import Derived.ProofKit
import Derived.OpenShut
import Derived.Deep.DeepHandedRow
import Derived.Deep.DeepWitnessRowRef
set_option linter.all false
namespace Go.Proofs.YtnjknghdpobcmaaGreatDoor.walk
open Go.ChangeShapes Go.WideShapes Go.ChangeAt Go.RowKit Go.Sh
theorem own:ownKnob Tryz.prog.godebug=none:=by kernel_rfl
theorem row0:RowOf Tryz.prog 0 3 170:=.of (by kernel_rfl)
theorem row2:RowOf Tryz.prog 2 20 227:=.of (by kernel_rfl)
theorem g0:Tryz.prog.globalNamed "rostellum/seal.kindWords"=some 0:=by kernel_rfl
theorem g2:Tryz.prog.globalNamed "internal/strconv.uint64pow10"=some 2:=by kernel_rfl
theorem t0:(Tryz.prog.globals[0]?).map (·.type)=some 170:=by kernel_rfl
theorem t2:(Tryz.prog.globals[2]?).map (·.type)=some 227:=by kernel_rfl
theorem size_le {g:Nat} (h:g < 9):g < Tryz.prog.globals.size:=by rw [globals9]; exact h
theorem u227:Tryz.prog.underlying 227=some (.array 20 187):=by kernel_rfl
theorem u187:Tryz.prog.underlying 187=some (.int .u64):=by kernel_rfl
theorem c187:Tryz.prog.cellsOf 187=1:=by kernel_rfl
theorem c227:Tryz.prog.cellsOf 227=20:=by kernel_rfl
theorem words_dat:datC Tryz.prog 5 170 Rows.laid_rostellum_seal_kindWords=some wordsL:=by kernel_rfl
def laidRow:List (String × DataW Unit):=[("math/bits.deBruijn32tab",Rows.laid_math_bits_deBruijn32tab),("math/bits.deBruijn64tab",Rows.laid_math_bits_deBruijn64tab),("internal/strconv.uint64pow10",Rows.laid_internal_strconv_uint64pow10),("unicode/utf8.acceptRanges",Rows.laid_unicode_utf8_acceptRanges),("strconv.ErrRange",Rows.laid_strconv_ErrRange),("strconv.ErrSyntax",Rows.laid_strconv_ErrSyntax),("rostellum/seal.kindWords",Rows.laid_rostellum_seal_kindWords),("unicode/utf8.first",Rows.laid_unicode_utf8_first)]
theorem laid_ok {W:World} (hs:W.ShapedOpen Tryz.prog) (hL:laidMet Tryz.prog laidRow W):LaidOk Tryz.prog W laidL:=by
 intro x hx
 unfold laidL at hx
 rcases List.mem_cons.1 hx with rfl | hx
 ·exact laid_plain hs hL (.tail _ (.tail _ (.tail _ (.tail _ (.tail _ (.tail _ (.head _))))))) g0 (size_le (by decide)) t0 words_dat (by kernel_rfl) row0
 rcases List.mem_cons.1 hx with rfl | hx
 ·exact laid_tab hs hL (zs:=pow10) (.tail _ (.tail _ (.head _))) g2 (size_le (by decide)) t2 u227 u187 c187 c227 row2
 ·cases hx
theorem kids:Kids Tryz.prog (· < Tryz.prog.types.size):=kids_rows (by kernel_rfl) (by kernel_rfl)
theorem wide:slicesWide Tryz.prog=true:=by kernel_rfl
noncomputable def laidWorld (os:Os):World :=
 let w0:=World.holding Tryz.prog os ⟨#[],#[],[]⟩
 let put (h:Array Obj) (g:Nat) (cs:Array Value):Array Obj:=h.modify g fun
  | .cells _ t frozen=>.cells cs t frozen
  | o=>o
 let ints (k:IntKind) (zs:List Int):Array Value:=(zs.map fun z=>Value.int k z).toArray
 let h:=put w0.heap 0 wordsL.toArray
 let h:=put h 2 (ints .u64 pow10)
 let h:=put h 3 #[.iface 242 (.pointer (some ⟨14,0,none⟩))]
 let h:=put h 4 #[.iface 242 (.pointer (some ⟨15,0,none⟩))]
 let h:=put h 5 (ints .u8 [240,240,240,240,240,240,240,240,240,240,240,240,240,240,240,240,240,240,240,240,240,240,240,240,240,240,240,240,240,240,240,240,240,240,240,240,240,240,240,240,240,240,240,240,240,240,240,240,240,240,240,240,240,240,240,240,240,240,240,240,240,240,240,240,240,240,240,240,240,240,240,240,240,240,240,240,240,240,240,240,240,240,240,240,240,240,240,240,240,240,240,240,240,240,240,240,240,240,240,240,240,240,240,240,240,240,240,240,240,240,240,240,240,240,240,240,240,240,240,240,240,240,240,240,240,240,240,240,241,241,241,241,241,241,241,241,241,241,241,241,241,241,241,241,241,241,241,241,241,241,241,241,241,241,241,241,241,241,241,241,241,241,241,241,241,241,241,241,241,241,241,241,241,241,241,241,241,241,241,241,241,241,241,241,241,241,241,241,241,241,241,241,241,241,2,2,2,2,2,2,2,2,2,2,2,2,2,2,2,2,2,2,2,2,2,2,2,2,2,2,2,2,2,2,19,3,3,3,3,3,3,3,3,3,3,3,3,35,3,3,52,4,4,4,68,241,241,241,241,241,241,241,241,241,241,241])
 let h:=put h 6 (ints .u8 [128,191,160,191,128,159,144,191,128,143,0,0,0,0,0,0,0,0,0,0,0,0,0,0,0,0,0,0,0,0,0,0])
 let h:=put h 7 (ints .u8 [0,1,28,2,29,14,24,3,30,22,20,15,25,17,4,8,31,27,13,23,21,19,16,7,26,12,18,6,11,5,10,9])
 let h:=put h 8 (ints .u8 [0,1,56,2,57,49,28,3,61,58,42,50,38,29,17,4,62,47,59,36,45,43,51,22,53,39,33,30,24,18,12,5,63,55,48,27,60,41,37,16,46,35,44,21,52,32,23,11,54,26,40,15,34,20,31,10,25,14,19,9,13,8,7,6])
 { w0 with heap:=(h.push (.cells #[.string ⟨#[105,110,118,97,108,105,100,32,115,121,110,116,97,120]⟩] 244)).push (.cells #[.string ⟨#[118,97,108,117,101,32,111,117,116,32,111,102,32,114,97,110,103,101]⟩] 244) }
theorem laid_met (os:Os) (args:Array Value):laidMet Tryz.prog laidRow ((laidWorld os).forCall (fun _ _=>0) ⟨#[],args,[]⟩).memory :=
 laidMet_of_run' 8 (by kernel_rfl) (by kernel_rfl)
theorem reads (os:Os) {H:Type} (enc:TypeId × Value→H):∃ places,DataW.whole enc Tryz.prog ((laidWorld os).forCall (fun _ _=>0) ⟨#[],#[.slice none 0 0,.slice none 0 0],[]⟩).memory Tryz.f3.params.toList Rows.sealMergesSpec.vars false (#[Value.slice none 0 0,.slice none 0 0]:Array Value).toList 8=some ([.nil,.nil],[],places) :=
 ⟨[],by kernel_rfl⟩
theorem mem_all {t a b:Nat} (h:t ∈ [a,b]):t=a∨t=b:=by simpa using h
theorem params3:Tryz.f3.params.toList=[22,22]:=by kernel_rfl
set_option maxRecDepth 100000 in
theorem contract (H:Type) (enc:TypeId × Value→H) (W:World) (base:Nat) (args:Array Value) (ds gs:List (DataW H)) (before:List MemPlace)
  (hval:∀ (j:Nat) t v,Tryz.f3.params[j]?=some t→args[j]?=some v→Value.okWide Tryz.prog W .any base t v)
  (hW:DataW.Whole enc Tryz.prog Tryz.f3.params.toList Rows.sealMergesSpec.vars false W args.toList ds gs before) {tw:List TypeId} (hz:(DataW.weightsEach Tryz.prog (Tryz.f3.params.toList++tw) (ds++gs)).all (·≤reachBytes)=true) (hL:laidMet Tryz.prog laidRow W) (hs:W.ShapedOpen Tryz.prog) :
  Calls Tryz.prog 3 args W fun e W'=>∃ v,e=.returned v∧Rows.sealMergesSpec.post enc Tryz.prog Tryz.f3 false true false false W args v W':=by
 have hW':=hW
 obtain ⟨vs⟩:=args
 obtain ⟨p,q,hA,hV,rfl,hfz,hnd⟩:=hW
 obtain ⟨rfl,rfl⟩:=trodVars_none hV
 have hA':=hA
 rw [params3] at hA'
 rw [params3] at hz
 obtain ⟨_,hlen⟩:=trodAll_length _ _ _ _ hA'
 have key:=input_sized no_count mixed okq64 (laid_ok hs hL) (d:=6) (ts:=[22,22]) (f:=3) (m:=212) (fun t ht=>by rcases mem_all ht with rfl | rfl; exact ty22; exact ty22) (fun j t v h1 h2=>hval j t v (by rw [← Array.getElem?_toList,params3]; exact h1) (by simpa using h2)) hA' hlen hz start_true
 match ds,hlen with
 | [d1,d2],_ =>
  refine key.mono fun e W' ⟨he,hk⟩=>?_
  subst he
  exact ⟨_,rfl,post_stays (pa:=p) (pv:=[]) hW' (fun _ _ _=>trodAll_cons_mk (shut_bool Tryz.underlying4 _) trodAll_mk0)
   (fun sp hsp=>by
    show DataW.TrodAll enc Tryz.prog W' 0 sp true Tryz.f3.params.toList vs [d1,d2] p
    rw [params3]
    exact args_again kids wide hk [22,22] vs [d1,d2] p (fun t ht=>by rcases mem_all ht with rfl | rfl <;> decide +kernel) hA' (fun x hx=>hW'.lt x (by simpa using hx)) (fun x hx=>hsp x (by simpa using hx)))
   (fun _ _=>rfl) rfl hk (ok_one (by kernel_rfl) rfl (okWide_bool_mk Tryz.underlying4 _))⟩
end Go.Proofs.YtnjknghdpobcmaaGreatDoor.walk
