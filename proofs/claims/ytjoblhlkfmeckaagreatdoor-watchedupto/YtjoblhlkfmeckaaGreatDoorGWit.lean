import Derived.Test.YtjoblhlkfmeckaaGreatDoorQ30
import Derived.Test.YtjoblhlkfmeckaaGreatDoorQ03
import Derived.Lib.LaidIn
import Derived.Deep.DeepWitnessRowRef
import Derived.Carry
import Derived.Conc.Holds
import Derived.JoinedCond
set_option maxRecDepth 100000
set_option linter.unusedVariables false
set_option linter.unusedSimpArgs false
open Go.Proofs.Tryz renaming prog → ly,underlying3 → po,checked → zf,f3 → rf
open Bool renaming false → vp,true → s7
open Go renaming trodAll_cons_mk → dy,Value → tj
open Go.Proofs.YtjoblhlkfmeckaaGreatDoor.Rows.OpenSpec renaming upto → jx
open Go.ChangeShapes renaming trodAll_cons → bh
open Go.Proofs.YtjoblhlkfmeckaaGreatDoor.Rows renaming watchedSpec → w8
open Go.DataW renaming trod_int → zj
open Go.Frame renaming enter → bz
open Go.Value renaming int → rl,string → pt,slice → cf,bool → gf
open Go.IntKind renaming i64 → tz
open Go.Proofs.Tryz
theorem Ncl{p:Prop}(h:p:=by
 exact WideElems.Trod_stays Aa Aa (of_decide_eq_true Aa) hT (fun x hx=>same x (hl x hx)) (fun x hx=>by simpa using hl x hx)):p:=h
namespace Go.Proofs.YtjoblhlkfmeckaaGreatDoor
open Go.ChangeShapes Go.WideShapes Go.ChangeAt Go.RowKit Go.Pair Go.Conc
theorem own:ownKnob prog.godebug=none:=Aa
noncomputable def Q4(os:Os):World:=
 let w0:=World.holding ly os ⟨#[],#[],[]⟩
 let put (h:Array Obj) (g:Nat) (cs:Array tj):Array Obj:=h.modify g fun
  | .cells _ t frozen=>.cells cs t frozen
  | o=>o
 let h0:=put w0.heap 5 Ii
 let h1:=put h0 6 (Lib.firstTab.map fun z=>Value.int .u8 z).toArray
 let h2:=put h1 7 ((List.range 16).flatMap fun i=>[Value.int .u8 (Lib.accLo i),Value.int .u8 (Lib.accHi i)]).toArray
 let h3:=put h2 2 #[pt ⟨#[]⟩,pt ⟨#[40,116,98,56,56,52,41]⟩,pt ⟨#[40,116,98,116,56,56,52,41]⟩]
 let h4:=put h3 0 #[pt ⟨#[]⟩,pt ⟨#[]⟩,pt ⟨#[]⟩,pt ⟨#[]⟩,pt ⟨#[40,52,52,116,98,41]⟩,pt ⟨#[40,52,52,116,98,116,41]⟩,pt ⟨#[]⟩,pt ⟨#[40,52,52,116,52,41]⟩,pt ⟨#[40,52,52,116,52,41]⟩,pt ⟨#[]⟩,pt ⟨#[40,52,52,116,98,52,41]⟩,pt ⟨#[40,52,52,116,98,52,41]⟩,pt ⟨#[]⟩,pt ⟨#[40,52,52,116,63,41]⟩,pt ⟨#[40,52,52,116,63,41]⟩,pt ⟨#[]⟩,pt ⟨#[40,52,52,116,63,41]⟩,pt ⟨#[40,52,52,116,63,41]⟩,pt ⟨#[]⟩,pt ⟨#[40,52,52,116,63,41]⟩,pt ⟨#[40,52,52,116,63,41]⟩,pt ⟨#[]⟩,pt ⟨#[40,52,52,41]⟩,pt ⟨#[40,52,52,41]⟩]
 let h5:=put h4 3 #[pt ⟨#[]⟩,pt ⟨#[]⟩,pt ⟨#[]⟩,pt ⟨#[]⟩,pt ⟨#[40,52,56,52,116,41]⟩,pt ⟨#[40,52,56,52,116,41]⟩,pt ⟨#[]⟩,pt ⟨#[40,52,56,52,41]⟩,pt ⟨#[40,52,56,52,41]⟩,pt ⟨#[]⟩,pt ⟨#[40,52,56,52,40,56,56,52,52,41,41]⟩,pt ⟨#[40,52,56,52,40,56,56,52,52,41,41]⟩,pt ⟨#[]⟩,pt ⟨#[40,52,56,52,98,40,56,56,52,52,41,41]⟩,pt ⟨#[40,52,56,52,98,116,40,56,56,52,52,41,41]⟩,pt ⟨#[]⟩,pt ⟨#[40,52,56,52,40,56,56,52,52,41,41]⟩,pt ⟨#[40,52,56,52,40,56,56,52,52,41,41]⟩,pt ⟨#[]⟩,pt ⟨#[40,52,56,52,91,116,93,41]⟩,pt ⟨#[40,52,56,52,91,116,93,41]⟩,pt ⟨#[]⟩,pt ⟨#[40,52,56,52,41]⟩,pt ⟨#[40,52,56,52,41]⟩]
 let h6:=put h5 4 #[cf none 0 0,cf (some ⟨13,0,none⟩) 2 2,cf (some ⟨14,0,none⟩) 3 3,cf (some ⟨15,0,none⟩) 1 1]
 {w0 with heap:=((h6.push (.cells #[rl tz 0,gf vp,rl tz 1,rl tz 1,gf s7,rl tz 4] 276)).push (.cells #[rl tz 0,gf vp,rl tz 2,rl tz 1,gf vp,rl tz 2,rl tz 1,gf s7,rl tz 4] 276)).push (.cells #[rl tz 0,gf vp,rl tz 3] 276) }
section
variable {H:Type} {enc:TypeId×tj->H}
theorem Ug{a:Assume}{C:Checked}{os:Os}{f:FuncId}{fn:Func}{s:OpenSpec}{F:Stop.Interp}{conds:List PathCond}{apart fresh handsOn again:Bool}{laid:List (String×DataW Unit)}(own:ownKnob C.prog.godebug=none)(started:os.Started)(hfn:C.prog.funcs[f]? = some fn)(witness:∃(w:World) (tape:Tape) (i:Input),w.os=os/\(w.forCall tape i).Shaped C.prog/\i.vars = []/\Input.okWide C.prog (w.forCall tape i) .any w.heap.size f i /\
   s.preRow enc C.prog fn conds apart laid (w.forCall tape i).memory i.args/\a.holds C.prog (lone (bz C.prog f i.args .normal) [] (w.forCall tape i)))(contract:∀(W:World) (base:Nat) (args:Array tj) (ds gs:List (DataW H)) (before:List MemPlace),
   (∀(j:Nat) t v,fn.params[j]? = some t->args[j]? = some v->Value.okWide C.prog W .any base t v)->DataW.Whole enc C.prog fn.params.toList s.vars apart W args.toList ds gs before->(∀k,s.cond=some k->k H (ds++gs)=s7)->laidMetH C.prog laid W->W.ShapedOpen C.prog ->
   EA C.prog (fun v W'=>Ed W W'->(s.at F).post enc C.prog fn apart fresh handsOn again W args v W') (fun _=>False) (G (bz C.prog f args .normal) []) W) :
  ReturnsInLeavingWide a C os f .any (s.preRow enc C.prog fn conds apart laid) ((s.at F).post enc C.prog fn apart fresh handsOn again):=by
 refine returnsInLeavingWide_of_good own started witness fun w tape i _ hsh _ E6 hpre _=>?_
 obtain⟨_,_,_,fn',hfn',_,_,_,_,hval⟩:=E6
 obtain rfl:fn'=fn:=aC (hfn'.symm.trans hfn)
 obtain⟨⟨hp,hl⟩,hz⟩:=hpre
 obtain⟨ds,gs,before,hw,hc,hk⟩:=OpenSpec.pre_parts hp
 obtain⟨N,last,o,w',t',r1,r2,r3,v,rfl,hp,rest⟩:=(contract (w.forCall tape i) w.heap.size i.args ds gs before hval (DataW.Whole.of_heap (w':=w.forCall tape i) Ac hw) hk (hl.of_heap (w':=w.forCall tape i) Ac) hsh).run
 exact⟨N,last,_,w',t',r1,r2,r3,v,rfl,ChangeSpec.post_blind (hp.2 hp.1),rest⟩
end
theorem CC(H:Type)(enc:TypeId×tj->H)(W:World)(base:Nat)(args:Array tj)(ds gs:List (DataW H))(before:List MemPlace)(hval:∀(j:Nat) t v,f3.params[j]? = some t->args[j]? = some v->Value.okWide ly W .any base t v)(hW:DataW.Whole enc ly f3.params.toList Rows.watchedSpec.vars vp W args.toList ds gs before)(hk:Rows.uptoSmall H (ds++gs)=s7)(hL:laidMetH ly Rows.watchedUptoRow.laid W)(hSh:W.ShapedOpen ly) :
  EA ly (fun v W'=>Ed W W'->Rows.watchedSpec.post enc ly rf vp s7 vp vp W args v W') (fun _=>False) (G (bz ly 3 args .normal) []) W:=by
 have hM:laidMet ly Rows.watchedUptoRow.laid W:=hL
 have hW':=hW
 obtain⟨p,q,hA0,hV,rfl,hfz,hnd⟩:=hW
 have hA:DataW.TrodAll enc ly W 0 (fun _=>s7) s7 f3.params.toList args.toList ds p:=hA0
 rw [params3] at hA hval
 obtain⟨v0,vs0,d0,ds0,p0,q0,hargs,rfl,rfl,h0,r0⟩:=bh hA
 obtain⟨v1,vs1,d1,ds1,p1,q1,hargs1,rfl,rfl,h1,r1⟩:=bh r0
 obtain⟨v2,vs2,d2,ds2,p2,q2,hargs2,rfl,rfl,h2,r2⟩:=bh r1
 obtain⟨v3,vs3,d3,ds3,p3,q3,hargs3,rfl,rfl,h3,r3⟩:=bh r2
 obtain⟨rfl,rfl,rfl⟩:=trodAll_nil r3
 subst hargs1 hargs2 hargs3
 obtain rfl:args=#[v0,v1,v2,v3]:=by cases args;simp_all
 obtain⟨rfl,rfl⟩:=trodVars_none hV
 have Cg:∀x∈p0++(p1++(p2++(p3 ++ []))),x.block<W.heap.size:=fun x hx=>by simpa using hW'.lt x (by simpa using hx)
 have hbulk:Rows.uptoBulk d0<=1048576:=by
  have h:Rows.uptoBulkAll ([d0,d1,d2,d3] ++ [])<=1048576:=of_decide_eq_true hk
  simp only [bU,Rows.uptoBulkAll] at h
  omega
 have h0k:=h0
 have h1k:=h1
 have h2k:=h2
 have h3k:=h3
 clear hA0
 obtain⟨sa,sn,sc,rfl⟩:=okWide_slice underlying22 (hval 0 22 v0 rfl rfl)
 obtain⟨n1,rfl⟩:=okWide_int po (hval 1 3 v1 rfl rfl)
 obtain⟨n2,rfl⟩:=okWide_int po (hval 2 3 v2 rfl rfl)
 obtain⟨n3,rfl⟩:=okWide_int po (hval 3 3 v3 rfl rfl)
 obtain⟨fuel0,hf0⟩:=h0
 obtain⟨fuel1,hf1⟩:=h1
 obtain⟨fuel2,hf2⟩:=h2
 obtain⟨fuel3,hf3⟩:=h3
 obtain⟨z1,e1,_,hz1⟩:=zj po hf1
 obtain⟨z2,e2,_,hz2⟩:=zj po hf2
 obtain⟨z3,e3,_,hz3⟩:=zj po hf3
 cases e1
 cases e2
 cases e3
 obtain⟨hsn,hasks⟩:=SA (y:=(d0,p0)) hf0 (fun x hx=>Cg x (dZ _ (by simpa using hx))) hbulk
 have hpost:∀w',W.heap.size<=w'.heap.size->(∀i,i<W.heap.size->w'.heap[i]? = W.heap[i]?)->(Ed W w'->Rows.watchedSpec.post enc ly rf vp s7 vp vp W #[cf sa sn sc,rl tz n1,rl tz n2,rl tz n3] (gf s7) w'):=by
  intro w' Di old hs
  have same:∀x:MemPlace,x.block<W.heap.size->W.sameAt w' x:=fun x hx=>by
   cases x with
   | cell b o=>exact World.cell?_of_block (w:=W) (old b hx)
   | map b=>exact old b hx
  have e1:Rows.watchedSpec.fn H ([d0,d1,d2,d3] ++ []) = { results:=[.lit (.bool s7)],args:=[d0,d1,d2,d3] }:=rfl
  have keep:∀{t:TypeId} {v:tj} {d:DataW H} {pp:List MemPlace},(t=22∨t=3)->DataW.Trod enc ly W 0 (fun _=>s7) s7 t v d pp->(∀x∈pp,x.block<W.heap.size)->DataW.Trod enc ly w' 0 (fun x=>decide (x<W.heap.size)) s7 t v d pp:=fun ht hT hl=>by
   rcases ht with rfl|rfl
   ·exact Ncl
   ·exact Ncl
  have k0:=keep (.inl rfl) h0k fun x hx=>Cg x (by simp [hx])
  have k1:=keep (.inr rfl) h1k fun x hx=>Cg x (by simp [hx])
  have k2:=keep (.inr rfl) h2k fun x hx=>Cg x (by simp [hx])
  have k3:=keep (.inr rfl) h3k fun x hx=>Cg x (by simp [hx])
  refine⟨_,_,_,[],p0++(p1++(p2++(p3 ++ []))),[],hW',?_,?_,?_,⟨hs.1,hs.2,fun i hi=>?_⟩,fun h=>by cases h⟩
  ·rw [e1];exact trodAll_mk1 (shut_bool underlying4 _)
  ·rw [e1];exact dy k0 (dy k1 (dy k2 (dy k3 trodAll_mk0)))
  ·rw [e1];rfl
  ·rw [old i hi]
   cases W.heap[i]? with
   | none=>rfl
   | some o=>cases o <;> simp
 have D1:=Yc (Post:=fun v W'=>Ed W W'->Rows.watchedSpec.post enc ly rf vp s7 vp vp W #[cf sa sn sc,rl tz n1,rl tz n2,rl tz n3] v W') (BW hM hSh) (cap:=sc) (bounds_i64 hz1) (bounds_i64 hz2) (bounds_i64 hz3) Ab hasks hpost
 rw [enter_at (c:=b3) _ func3 rfl]
 exact D1
abbrev Xp:Array tj:=#[cf none 0 0,rl tz 0,rl tz 0,rl tz 0]
theorem IQ(os:Os):laidMet ly Rows.watchedUptoRow.laid ((Q4 os).forCall (fun _ _=>0) ⟨#[],Xp,[]⟩).memory:=
 (LaidIn.of_run (l:=[("unicode/utf8.acceptRanges",Rows.laid_unicode_utf8_acceptRanges),("orchard/value.letters",Rows.laid_orchard_value_letters),("orchard/message.requests",Rows.laid_orchard_message_requests),("orchard/message.answers",Rows.laid_orchard_message_answers),("orchard/file.schemas",Rows.laid_orchard_file_schemas),("orchard/watch.tellings",Rows.laid_orchard_watch_tellings),("unicode/utf8.first",Rows.laid_unicode_utf8_first)]) [7,5,0,3,2,4,6,13,14,15] 8 Aa Aa Aa Aa).met
theorem YZ(os:Os){H:Type}(enc:TypeId×tj->H):∃places,DataW.whole enc ly ((Q4 os).forCall (fun _ _=>0) ⟨#[],Xp,[]⟩).memory f3.params.toList Rows.watchedSpec.vars vp Xp.toList 8=some ([.nil,.lit (.int tz 0),.lit (.int tz 0),.lit (.int tz 0)],[],places):=
 ⟨[],Aa⟩
theorem TP(os:Os)(started:os.Started)(H:Type)(enc:TypeId×tj->H)(F:Stop.Interp) :
  ReturnsInLeavingWide {} zf os 3 .any ((jx w8).preRow enc ly rf Rows.watchedUptoRow.domain vp Rows.watchedUptoRow.laid) (((jx w8).at F).post enc ly rf vp s7 vp vp):=by
 obtain⟨places,hx⟩:=YZ os enc
 refine Ug (C:=zf) (s:=jx w8) own started func3
  (witness_row_atRef (enc:=enc) (C:=zf) vp (Q4 os) Xp rfl Aa Aa Aa
   (OpenSpec.preRow_of_cond 8 hx Aa (fun k hk=>by cases hk;kernel_rfl) Aa (IQ os))) ?_
 intro W base args ds gs before hval hW hcond hL hSh
 exact CC H enc W base args ds gs before hval hW (hcond _ rfl) hL hSh
end Go.Proofs.YtjoblhlkfmeckaaGreatDoor
