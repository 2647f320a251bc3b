package marlin_test

import (
	"crypto/sha256"
	"encoding/hex"
	"math/big"
	"strings"
	"testing"

	"marlinspike/api"
	"marlinspike/fr"
	"marlinspike/keys"
	"marlinspike/marlin"
	"marlinspike/proof"
	"marlinspike/r1cs"
	"marlinspike/srs"
)

// What follows was worked out apart from the program, by the document's words: by
// numbers of any length, from X on, each key and proof from the circuit to its bytes.

// The generators' coordinates, by 16: of G2 each one A and B.
const (
	gen1X  = "8848defe740a67c8fc6225bf87ff5485951e2caa9d41bb188282c8bd37cb5cd5481512ffcd394eeab9b16eb21be9ef"
	gen1Y  = "1914a69c5102eff1f674f5d30afeec4bd7fb348ca3e52d96d182ad44fb82305c2fe3d3634a9591afd82de55559c8ea6"
	gen2XA = "6f72205595a839df693176b247c2fa251f7e02a29061e50540dc9e1c2bf1957bf1bab2288c257c2cb36b58f2418bc9"
	gen2XB = "138c24b2b4e17888beed0a9802aac837cdea39890effe00072f754ecb0152dd6cb524f281298966dbaeca23d3e462b8"
	gen2YA = "16235fdea6c3faf2a83d3730f6ab2c033ef6c2739002946f7dc48e4688bca1af1c9b417d58220817e0dc644b5e7d916"
	gen2YB = "707ac6cc7d192827fc54eb83267f3bed8511bd3c74f63a1ea75eabb66476769c8786f2af2a75166f33142379b4963c"
)

// Two great scalars.
const (
	great1 = "123456789abcdef0fedcba98765432100112233445566778899aabbccddeeff"
	great2 = "fedcba9876543210123456789abcdefffeeddccbbaa99887766554433221100"
)

// Of x x = y by the setup of 2 and 3, of the degree 12, the key; and of 1, 9, 3 by the
// draws 1 to 19 the proof.
const (
	keyOfSquare = `
	0000000400000002000000020002000c
	41252b781171f507db36291b433a1f911a46543890a20ca9712e11f66a5d216e63d817bd8d96cef715abc604dcf6ec2e
	417c2e424cbdbf1ee9b46e77501f7a42a33065ec23b70eaff560a3764ac1305d1de691498793026bb60e88cfe266bf9f0093660a719c197fb32dde0327ead3a456bfafde84471ed4cd9d719666b6b48b6fa52990b62f905cb7d8d5aa28b1d746
	408848defe740a67c8fc6225bf87ff5485951e2caa9d41bb188282c8bd37cb5cd5481512ffcd394eeab9b16eb21be9ef
	408848defe740a67c8fc6225bf87ff5485951e2caa9d41bb188282c8bd37cb5cd5481512ffcd394eeab9b16eb21be9ef
	408848defe740a67c8fc6225bf87ff5485951e2caa9d41bb188282c8bd37cb5cd5481512ffcd394eeab9b16eb21be9ef
	00fba0b89e7a713de2ca41090ee6e9c837d189690b9244c661614bd0fc6007b4e8fcbaee880b5028f4839f1206d40dea
	00fba0b89e7a713de2ca41090ee6e9c837d189690b9244c661614bd0fc6007b4e8fcbaee880b5028f4839f1206d40dea
	40ed453141939e91056edb5a4b5452ed7e61f7f3dd2a4b7ee90e97c9a2301955880661656781dc90857aed6d6a416390
	005069991cd13f9883067e54acae9e0dbf76e29756370b6b7db61ef82e9c491751bb6c979d47ef1172da5ce90f5e166e
	005069991cd13f9883067e54acae9e0dbf76e29756370b6b7db61ef82e9c491751bb6c979d47ef1172da5ce90f5e166e
	403d81ba2b29e9b6a94336ec10cac53a7e0f95d6f19a41073cc1cbb258e1970297a5746c5c99b089a390231f3294b9b2
`
	proofOfSquare = `
	419cd666ccd6878cc552f88b45edb42d1ad52d5260772868da46bf69732b0cca3c44d224d33fa1054e66b49813df8ca5
	006328f4eb3e3437bc36f7cd10f542c0dda37f9ba7e7154f346e0fc8b0fc87b1a563ba5271c40f9427145f33aea91ced
	014e07d175f2eaa721a39b061c1cd3e59c30b45c9e97c4c1b6ad2e4bdfa29941adccec0ffe5441ea9de88caf1da0fa52
	4051afb46168e06ef4449e3369395e4f3990c72bba14ad605721ed8b6f4f3732403a2ffbd59ddbbeeea70c6043df7a87
	4141e767813ac69597c816b4f470ea80a790be62f2562400b39c85d55c55cd04beac80408578843359a02c8ccaf9ace2
	40d9fde76d4783d45ea99c6bd6f5196b2c06facee97aba0c5df4585467c75c8c8b0703983e7b50f64a5e5890086581bd
	41196893a22543255455aa1d439908eea0b63c4626f562216e7b2ad512e6c25e9d0cafa4ca548e8b0c5e38b5882ef55c
	012fb9af03d7aeef7572d10cf3fd30a10431fcad307754e235fc5bfe1db9e416a7e7ece485c2c60cec4eaef8bfab0224
	003c42b7b16f149a14794eff022c3deabb4a52455fb3b765ccdddedbffeece750958160a0e18c83e7510df81a1d32499
	416a439e92e88713bf15e2ed95e1ba9726eeb54272ee7e316ea23e2ff0b3d557abd2a177175bc0c3da8b813a6554de6b
	00ceedc23ff491c439a526c8c5dc813cd44f9e47dbd0e5183d9ac93f71722440bc968ecfe05d80e4b97286734ea23e13
	02dd519a36b99b04b4a5508ce06572be88f8fbdd8db7b2a6b55d1c72a4332301
	05641533d7bce987ba40ac0cee99b1dfac613f60b97a4c4b3b250a758c2b414d
	0783849ede47ebcf210d0598c78f660e24b2c65d2b476b8e00cb731e92b8c054
	04e1b60e7baeedc9542ca04fa1a0560df624d6f33fcfb63f1f8d769fa09421f7
	0516cdd8ceeb57fe4461260c98be59f7e1879bcdeb532985ee9bc74423a84bb3
	0300ce6377a4dc646e572619999b4cf87346d42405291c3263e5f096d92237df
	0a6c6c82d7f066e0577995a2edc79672f5d1834d03881e369ea75b2148c4fb5a
	0000000000000000000000000000000000000000000000000000000000000001
	0000000000000000000000000000000000000000000000000000000000000001
	0000000000000000000000000000000000000000000000000000000000000001
	00e4ba70ce68322f8ce0744addaa325a98c45d7faf0c552f000bcf6ccbbe80bb
	00e4ba70ce68322f8ce0744addaa325a98c45d7faf0c552f000bcf6ccbbe80bb
	05b075a7bfb326682a8d9a1f2970d6481faaf4ba257356e0307b2d381c449f51
	08d8d29688b9fa6a0e40905e005849ce4f10f4480f14aa703efc4e342f670c45
	08d8d29688b9fa6a0e40905e005849ce4f10f4480f14aa703efc4e342f670c45
	00b60eb4f7f664cd0551b343e52e1ac903f55e9744ae6adc060f65a7038893ea
	0be1199bb48bfeaa528ab9957a7b04fc9d9909665da994c37c56a3a211d425da
	0ffe0cdfcbde0c44de46a0ade64d64b03588d7a9113f4cd9079f44259281d640
	10afa58851e0815659a76b0944e4c0e8cde71b2253f6bde03ab8562db1e0e64b
	010d633f005963357efe50770829d788e03a68fef51f6cf85b105c07169edddfe52764e016ba67311db6bd8c8d50447d
	007b108615b3f4ab9e9d2154de3021be21d093ab7bc08592d2bd14ee66b379d9216119d45874fe46ac504130521ece1b
`
)

// Of x x x + x + 5 = y by the setup of both great scalars, of the degree 25, the key; and of
// 1, 35, 3, 9, 27 by powers of 19 the proof.
const (
	keyOfCube = `
	00000008000000020000000400020019
	005d868de99008ea45b505ea92f5f06784cd764647c331d51bbea54d76b1f1bdf9966e74143eb29f9bf0dd6fdcab7b78
	40c00ff1c0530ee4539e64e473b627dde8c542031b09313921c28630a4b6345c699a1d5a5756a2a383080d8bd1449d64005d4ad6eeba9cbc626dd874a6f50694bcdc8c3ddc2bcf2121359bf1312326f2607da7f8f52ad80710fb3f0202ecd4fa
	0067c6cd0d25328ce37f5f35c8c49001871cb93403bf3929cadc9b2a53a873f6889765860cf06784220fd1985043d864
	014e93fc555993284df25a582c42f475851349e1b28aab536cc7de84f0bf8f038141a127d597203dc5bb6f3a683a456e
	0067c6cd0d25328ce37f5f35c8c49001871cb93403bf3929cadc9b2a53a873f6889765860cf06784220fd1985043d864
	00b24f77acb465b6e3a900f781b7e2af89c4ac20e0fa308951a4329e955fcb58ba5fcd9849e208687a3d624569f8a951
	40ec58bf5b04675e040958c0d5f67efa48e959b8d36de6e908c36a29e5e48a2964500a06e7733cadfb04aec91433aae5
	00480cd4ccdbb32e683b0c286b13ecb6eab3c2027bfc2bfd8d35b508f46bc4c4e5d89b531b43beb66c54ed815073521c
	40f6119df47bff443e9ae51ae85fee76cd8c6c2f70ef8d5629cd108c57e39dcf1c1ba5b43bce9751d77fd62d2516859b
	0010834b6383f90e71f76e68b813403838afa3af7cff54bc31340f44d4a081596deef8b0df5b581fcbc4773e6c2036ac
	00c9c283a81865a4de4e34e01d74457bf2870963503b250ff427c6fbd39372205b60741822393be44ed4aba1071533e1
`
	proofOfCube = `
	00a583adb66c52a22385fbf8b66b388be8302e6a3f4c4f0145d14b5a62f3d1a37373d4449e6baab690b808b826e3cf58
	40036bae79046be917b03ce4adf84a8f701685f34f49b1b97f722ebe9634e404a38dbc54ededdfe7bf5f48eba0585855
	414216eaf3ad863d9268af740af0595f28b0a75edca0cd5949effc1768ee992a521c55b7ae8a2a3be9319ad0fb875145
	40285e2d4c69f35648a8dbd3d6f85dc737b214276d8ec15332fb865a4976f9080736c941c1274f02c9ef4138718dc997
	01adf6c2b9f551d191071ab6a5209fd4b007b0bc9d95000e4dfc999bbdae7c710b1abf1c72d62ec4ac0a7ef354f10c3a
	01382d67dd3708d36d26980ecad9ae6680d47bcde083d678fbd07f41ef7550dee1e5ba5e9a03ba4ac3f9965b9b64e925
	416537d17a0b7fb23ce41c7620f8e0d37f73295465d27db2e7286f8205e6da09e79d14d12302fdded563be2fc9f550fb
	417744dab97739e9c7e9a6a6ff9d499b488d88b15db5ac369413e754152574f0aa60a010fab2137df601f1145af29f58
	001f08580f68b58fe91e4418cdd5d71cc54ad4a602b383202128db355f44f786eae2f8a9a768e7a66d506d8c8cab8b95
	002813a3162127d53b408a8c9cf15b84e83feca8067668e1798e829d586fd54161b0690af6ab7905a5f0566c98c164e5
	40fdde306af2bf8a460438ba5df71ff3885843244a15a791db76f6e9190d6302a15b9712211bbe2dc3812eef761b2ae6
	01aa136daf09580328146f6fdf527486eeff3f25f3b04c61b39da54b343f4672
	008ac42d5f955c464b3aa00f700efba6b5a9ab169dfef0e8b1b0226bd5af54d0
	0d81b82272280c445eedb33fa677a6742ab4deaa8f813807cade8bd54f5c86bf
	116e8f70fcdee975dc3363c2dbe68bc4661a481346a00ee6b8e219123a30e6df
	0c020f868e120ffa56c1c450f6dffe2da5979fd9d4c506d9d96bbc2364d9f295
	1046000cc4b1d604eff4614a7bbe51bdd05053615aa16ddd4002ce287c064b28
	0332f926a43fcf396a3d6184c13781a5582d52ea668898cfd204383f9283df69
	11534eff4bcf70074af85abff456f2e2f543c5c7c64cd98bb462c248ac4aa2ac
	11bf73612de10f7351be338a47e210a39e252ac5f7e361d92a2607353aed7881
	11534eff4bcf70074af85abff456f2e2f543c5c7c64cd98bb462c248ac4aa2ac
	02de521efabd94212530816529d990e7800b479c5015737ef8f544b5968b5791
	0478a978076cedc3934885ad8e0f9bcb034be780668b09beb8843880187a8758
	06e82a57c43d7b7bf9ec21196acfa9e0eb35781cffa06a7c5b2bbcc59bbf7cea
	10b1c2f6a63ec32fb943d3a735ebec1e1e7691128002ae70c7edf896b2d16af3
	00ca5b1516aa22113f2076ed02f29d699811127bec92590dc0b445f2326a13d0
	0c92c95fe835bbce25e27602373d0e5cf3c440b8a72fd78fb431f50bca49ee79
	00cab261d8380f42334243b744f56f535d987541c7d373523960b463be0b6763
	05973a3a13ea12fab5ebdd0ee4f0af878feb32492129fbfc74db93f79146d00b
	00014f9350add2f71b8f4f487ed63acb16f623d77adc8f5a6d6bdf8c0f643057
	0015337999abba0ee0df644cb7b21691d7d97da6e0dc035404158f99bbfd52c9cf25292124e07b40cbff311685976bd7
	00d46c020a0b17360562945c6894a1124b4fa0713831aed5c04f68a24b8adc6c5820da527ba8292787cbe78343ad3b12
`
)

// apart is a proof that was worked out: the even task of a sketch (or, of no rows, x x = y
// of 3, or of -3, and of -1 ones x x x + x + 5 = y), both scalars of the setup, its degree,
// which draws, and of the key's bytes, and the proof's, the sums by SHA-256.
type apart struct {
	sketch
	t, g        string
	d           int
	draws       int
	key, proven string
}

func allApart() []apart {
	return []apart{
		{sketch{}, "2", "3", 12, 4, "fceb06d5fb8d7556c5ad273b97ef2d9906e256e7982f62fc0f0a31180aae74d3", "7e7bc2f95896e639ce9b7abce1da5e59f0e268f1978d6c726559f6477d393cef"},
		{sketch{}, "2", "3", 12, 0, "fceb06d5fb8d7556c5ad273b97ef2d9906e256e7982f62fc0f0a31180aae74d3", "fcb64896ad4c0ce00aa27c549b89b7f252d4c8cf8e6e377b4a2837f58647fbd7"},
		{sketch{}, "2", "3", 13, 1, "8f0087cbbf1e18002bed2e708a50a61a5802502d91fe5193f3f025ebc12fd81a", "223d4e0c519a59c1ae8d7390d3cdecc63f4a2b57b6a1abf9644410c9b182bd2d"},
		{sketch{}, "12ab655e9a2ca55660b44d1e5c37b00159aa76fed00000010a11800000000000", "12ab655e9a2ca55660b44d1e5c37b00159aa76fed00000010a11800000000000", 12, 2, "ccc57530270532751c8725f547dfb4b01651f3a17b97643fdf0285b345a1fc15", "877e2f4c3cca301f519651dd4e34dc1b74c5ce2daf695f696b3c358471051ea4"},
		{sketch{}, "123456789abcdef0fedcba98765432100112233445566778899aabbccddeeff", "fedcba9876543210123456789abcdefffeeddccbbaa99887766554433221100", 77, 3, "e40eb3ab5214704beabbe1ecb60f93c4c66e6a77e64a65081a87631ded28014f", "0e75593fb42bb26c7452e9e9c5a0fd8f1d3169f78e53c4f2dd2eeba88408e02c"},
		{sketch{}, "1", "5", 16384, 3, "625bd55c93e58bb9bc9e5e779af03fc4f8e18d3ba5ab39ec1291dacdeea36091", "ecd1ed707b8fbe274bf7ffc522661a76a8ebb07a83567acda3c5484bebf7b9cf"},
		{sketch{}, "a", "3", 12, 4, "d7d870c7589093ba79504b9a40b465043f18f4e661fa3eea7a69b72bd726e597", "6133e4012ea68a1847ea330ad1dbbb6b5bb5a0a3e7963ac02ffdc9e5e7a7b88c"},
		{sketch{cols: -1}, "2", "3", 12, 4, "fceb06d5fb8d7556c5ad273b97ef2d9906e256e7982f62fc0f0a31180aae74d3", "a7827c127178bd5d414fcd5e37b52fc5d34ae830affcd62369093bf4136b53fe"},
		{sketch{rows: -1}, "fedcba9876543210123456789abcdefffeeddccbbaa99887766554433221100", "123456789abcdef0fedcba98765432100112233445566778899aabbccddeeff", 24, 3, "07e81b22446d3f762a238294c556ebea5cb921ae436e46a16ec574f3d5599f33", "ab2db32c77a122fc2992dbd099595719bdf3486bc82efb2a061f7a9e4016fed0"},
		{sketch{rows: -1}, "1", "1", 300, 0, "a82eb6e3bf157668606356f3ac5baf6fc167f89153bf52628ec9fd775cbf14cb", "772d065c1965ed506d2afbe451979aa096c13263fc3f955287382e0024d3c35c"},
		{sketch{rows: -1}, "2", "12ab655e9a2ca55660b44d1e5c37b00159aa76fed00000010a117fffffffffff", 25, 4, "b46d7dde69a5c26c6da2e7f68c3d63b50cf6db55c363403bf196948f40476609", "ea5443b518543176eef6aff97997173370abbdf8004bd92ef9a0bcb15d95f881"},
		{sketch{rows: -1}, "12ab655e9a2ca55660b44d1e5c37b00159aa76fed00000010a117ffffa557966", "59", 24, 3, "5f5d253fd7d3c46d5512d9789c47761fb65c871c8347c9529297f8a2ee208a61", "1b4e9ee7340e9b9cbc9d86e5b123ea4ccd084b16e29c1366237fbe6dcbaf1740"},
		{sketch{1, 1, 1, 0, 0, 0}, "123456789abcdef0fedcba98765432100112233445566778899aabbccddeeff", "fedcba9876543210123456789abcdefffeeddccbbaa99887766554433221100", 12, 3, "941c1193daa5b2c281572a26af99787de2d8e496c1017f9d17e5a901416309fd", "e8db8b399437a7fb4669b96c99e204906506410cf429d49f28ec4c7187e74bd5"},
		{sketch{1, 1, 1, 0, 0, 0}, "fedcba9876543210123456789abcdefffeeddccbbaa99887766554433221100", "3", 15, 3, "c8370508680e2cfbffab8ac0bd38173a46d8436835bf6e9528272bd60704d67d", "a98cedbab1d8366d189f95d8ad0bb680adc81d5400c609b7174d416e84350ec7"},
		{sketch{1, 1, 1, 1, 1, 1}, "12ab655e9a2ca55660b44d1e5c37b00159aa76fed00000010a11800000000000", "7", 13, 0, "3b9994c53e559fb1951055fb5ba32fa6da2348a4a13a21e832ccd2e4f23faab6", "a4c248aa8f771de7c4e08976f690d5b399320193a8c7100d35bbd7210dac6023"},
		{sketch{1, 3, 2, 1, 1, 1}, "2", "12ab655e9a2ca55660b44d1e5c37b00159aa76fed00000010a11800000000000", 15, 4, "5096ae0afade7d84762785d341fb6794b69aa90128ce80895ce8689afe81ae0b", "d696b10b408e5726c36771af8024aaec558e2785b105ec5c6bef2e94eb2fdc02"},
		{sketch{1, 3, 2, 1, 1, 1}, "123456789abcdef0fedcba98765432100112233445566778899aabbccddeeff", "fedcba9876543210123456789abcdefffeeddccbbaa99887766554433221100", 13, 3, "ae11bde0d0f6e121c9ed7c648a6f51268e7689ab04cb3993986552f869e2356d", "699208b34fb35baf36c68c05fb6df7e7c05f328d371626034c138c462b3f77e1"},
		{sketch{1, 5, 5, 3, 2, 5}, "7", "1", 48, 2, "e86b66bd03c59e092a0c6d02d87cda272badcfeab3a424ae02c71b53b276cb58", "4d9331371440f294fe0003e74246fd763a1e8acb3e0148b95b237cc3bfc6df8e"},
		{sketch{1, 6, 1, 6, 6, 6}, "123456789abcdef0fedcba98765432100112233445566778899aabbccddeeff", "fedcba9876543210123456789abcdefffeeddccbbaa99887766554433221100", 65, 3, "286eb0be01486d93afb3913f1cee59d8550bcb49d69ecae9f1f7970d6bd599b9", "4222256eca1aa2f1e5acd009a20cf00bc9c97998c5bf9726a86c9bdb84011788"},
		{sketch{1, 6, 1, 6, 6, 6}, "fedcba9876543210123456789abcdefffeeddccbbaa99887766554433221100", "3", 48, 3, "ad74861248e3b2cd30af686c2bcd64f20aa549572d69e5dfcd99bae6d0d0f957", "d9a8508bbeff533d7a9a6c8e7a3f19df63b8fc7b009254e33feba393e7905778"},
		{sketch{5, 1, 1, 5, 0, 2}, "12ab655e9a2ca55660b44d1e5c37b00159aa76fed00000010a11800000000000", "7", 48, 1, "8060ae554644f13f711707dc15b7292f7e351f6f4c98eba11d86d0c91a019709", "fddc146988a1507c5a7f6d1ecd62b78df4f46708712707c22e79f7732e49b88a"},
		{sketch{2, 2, 1, 2, 1, 3}, "2", "12ab655e9a2ca55660b44d1e5c37b00159aa76fed00000010a11800000000000", 13, 3, "c4d7df060c25cf27fb42a5fe285376cb0166d7cca6a7f1055176521841b61d21", "228700c2f1ab8cf0851a2f154158b39a89e689eaaf71878fba711c9fabc46209"},
		{sketch{2, 2, 1, 2, 1, 3}, "123456789abcdef0fedcba98765432100112233445566778899aabbccddeeff", "fedcba9876543210123456789abcdefffeeddccbbaa99887766554433221100", 15, 3, "59c56bbbdcfe4f366ec10b22cc347c32bd5efbca7a428642cf52679aa313841f", "e51d360a11d6ccfa3e0d3b7ef85938255f980d7658ef4fd156d7fe3de318acac"},
		{sketch{2, 2, 2, 4, 4, 4}, "7", "1", 27, 0, "20884e218aa66ee5cde84ba96724b4f67a95eba2e8a73317d95f4386da51235b", "2ca4955b2c74138523bac81a385a0428b70e7bba5362dce29f9e60434901ec18"},
		{sketch{3, 4, 4, 0, 5, 6}, "123456789abcdef0fedcba98765432100112233445566778899aabbccddeeff", "fedcba9876543210123456789abcdefffeeddccbbaa99887766554433221100", 48, 4, "4e07ed162eda712c13565d266df0611915084c91ddeee3db2bc4492d59648acd", "6f4bb46e179d843fff155da6aebca1eec36af05574a2a79e56491042624e47f3"},
		{sketch{3, 4, 4, 0, 5, 6}, "fedcba9876543210123456789abcdefffeeddccbbaa99887766554433221100", "3", 49, 3, "94254bcfffc05e12da3be3725fd3d84c6ce3bad5ba1b4a1421b38d4c000e3bfd", "e0436525116bcee5a61440e34a3267a28f80a2e2903fc77cb6646f69e46a01a0"},
		{sketch{3, 4, 1, 5, 0, 6}, "12ab655e9a2ca55660b44d1e5c37b00159aa76fed00000010a11800000000000", "7", 65, 2, "6e4164589fa046a377b3b38de0c7efef57db0c0287900026ae948c430e4c014c", "f103aeac2666d4cd688af68e5c87c519075310f404f9f1dcaad4a3b29d9e7e0f"},
		{sketch{3, 4, 2, 5, 6, 0}, "2", "12ab655e9a2ca55660b44d1e5c37b00159aa76fed00000010a11800000000000", 48, 3, "51f8084398429e6f382ec568bfe7ef640608b0301cf2729a84dfef9745fd3b39", "35149d854b48181f549ba03401e7f8afe9a1f59c7eb3d9f742cea3f06c960ce3"},
		{sketch{3, 4, 2, 5, 6, 0}, "123456789abcdef0fedcba98765432100112233445566778899aabbccddeeff", "fedcba9876543210123456789abcdefffeeddccbbaa99887766554433221100", 48, 3, "f435c49b47349cf9175956d11a108ecebfe541b45d6a6ce94d960a9eb6e93f87", "a794eaf30fd22bea2e448e1909f9446fc98bff97fc6ecc21ccc8b0d02dd11284"},
		{sketch{5, 6, 3, 0, 0, 0}, "7", "1", 17, 1, "2155f0b3e2d31944e7324a28562310159c080f925dc0afb862c6a73edfca1a97", "19979e95d011e2003fd6e7a0faca2cc8b2180eade58600bfde2fee82bc3bffb2"},
		{sketch{6, 5, 5, 15, 16, 15}, "123456789abcdef0fedcba98765432100112233445566778899aabbccddeeff", "fedcba9876543210123456789abcdefffeeddccbbaa99887766554433221100", 195, 3, "c88401eb62154ba28cfe4cf299658bcdf1bc426d32cbc3c911fe4b66a1e884df", "5ae9ef1c7ffe1bf11fd374dcec74747ba23913897784fa4694633c27945978f6"},
		{sketch{6, 5, 5, 15, 16, 15}, "fedcba9876543210123456789abcdefffeeddccbbaa99887766554433221100", "3", 195, 3, "f3c730fca96d277967aee460052805bb79cfd2949c55b95d4161b899e77ddd1f", "1ffe6384ecfc7dc69545b90abc9a9e6e7a1813f6a35c5896067db0352192d09c"},
		{sketch{7, 9, 3, 12, 11, 9}, "12ab655e9a2ca55660b44d1e5c37b00159aa76fed00000010a11800000000000", "7", 96, 0, "a99530287e0a156ab898f3d64e1113c963432fd89c2fb65c404354f8eb479428", "7a3ba2c40d776b536de4d3cbc7a54a8ad601211c0db928792bd32d8cae3bdcf5"},
		{sketch{8, 9, 7, 8, 9, 7}, "2", "12ab655e9a2ca55660b44d1e5c37b00159aa76fed00000010a11800000000000", 113, 4, "b6664d8ffd344ea3cfa35ff0619facc6e2100a0754f0f38c6450e3268dd25cad", "58049c9e52436da94545f29cd52f580c902db10057b41ee449bc765c8c9d5d30"},
		{sketch{8, 9, 7, 8, 9, 7}, "123456789abcdef0fedcba98765432100112233445566778899aabbccddeeff", "fedcba9876543210123456789abcdefffeeddccbbaa99887766554433221100", 97, 3, "08361b3bead3559d1446b31c2fb18ebdd5a2077eeef9157400e437b8fd5ca8d7", "fc4b0578c0cddb6ce31831fdcc2cad3e507683bc4a260e26d40348f5ccaa52f8"},
		{sketch{17, 12, 4, 17, 1, 15}, "7", "1", 192, 2, "1b2989557770ca262cf94a7b65314fffb47cbfedbe1c18eb225be6c98e46bbd2", "1a9ed0abb1c2b0dbfd00f11c6a216cdab1f8de65b3aa8166010c9afb3554337d"},
		{sketch{33, 20, 9, 2, 1, 0}, "123456789abcdef0fedcba98765432100112233445566778899aabbccddeeff", "fedcba9876543210123456789abcdefffeeddccbbaa99887766554433221100", 129, 3, "ebbc858cbb839fb446b6d6ca865d252147e4c126010e8fbac00f06b02992e668", "5bc790e38559699e1ee79e8980c2ff81758bd6a59f439750183974358bbb277e"},
		{sketch{33, 20, 9, 2, 1, 0}, "fedcba9876543210123456789abcdefffeeddccbbaa99887766554433221100", "3", 128, 3, "c5da89c543918d8b97b0f11f494e1d8e4b5c847818d027ad690d7f5023620bac", "e4d7db16941f8d58e3a75849aad1fc502f5d096b9b4f325c40eaffc86c06f3a6"},
		{sketch{60, 40, 3, 2, 1, 2}, "12ab655e9a2ca55660b44d1e5c37b00159aa76fed00000010a11800000000000", "7", 131, 1, "ef81493ec3dc09ad4d798df237940569d3e43ff636b33af9e05de217fab88a96", "bb32ab415f8f948b9b00dda64061bc58fa0a35832937a874c5b19a77a41b7afe"},
		{sketch{40, 20, 16, 30, 20, 10}, "2", "12ab655e9a2ca55660b44d1e5c37b00159aa76fed00000010a11800000000000", 192, 3, "dd0b9796b32e9959d2b8376cebb6c261e52220f04f90a3d1879d624b927a1fdd", "e9def60033fb98e6ec51469c7a33c3311a7c4af3c3b7ceacf9d11af9f4590f48"},
		{sketch{40, 20, 16, 30, 20, 10}, "123456789abcdef0fedcba98765432100112233445566778899aabbccddeeff", "fedcba9876543210123456789abcdefffeeddccbbaa99887766554433221100", 195, 3, "319f5e13ee7eaa4ab374d021207657dff80c3e59439c0bfd40803c7c16ee1f3c", "8bbba81ed50efb3cfa1d6b234bff414a6c1f3966d87f007e1dbf54eb028aa1e8"},
		{sketch{9, 30, 1, 16, 16, 8}, "7", "1", 113, 0, "4fc7beda1e8a0f55242547818ed58ff55b778a86459750b954c8d05d2c31e3ce", "853fbd427de37868b485be477f58b2ae2da97263c4990eb66cb6103d9cb8d447"},
		{sketch{100, 90, 33, 200, 129, 50}, "123456789abcdef0fedcba98765432100112233445566778899aabbccddeeff", "fedcba9876543210123456789abcdefffeeddccbbaa99887766554433221100", 1536, 3, "e1c0faa4a07b83ab6e10fcaa5b181c2d1cca1416a00beea003e3d3c2a22af1eb", "7d988d67d0faee0ee861e79417dd4e4a5c3e5e59c0a3ef6e3bde1cfbc9b49b48"},
		{sketch{100, 90, 1, 60, 40, 10}, "123456789abcdef0fedcba98765432100112233445566778899aabbccddeeff", "fedcba9876543210123456789abcdefffeeddccbbaa99887766554433221100", 1000, 3, "5f89c586cd0a71ff9dfdbee6835c8d2b6c0eb7c2356e37e02dddfc1fb07d90ec", "27d3f5d733cebd52b1326e55ec4e1954a27d5cbd9abe35d4d223a9bccc27c77a"},
		{sketch{1000, 1024, 1, 1, 1, 2}, "123456789abcdef0fedcba98765432100112233445566778899aabbccddeeff", "fedcba9876543210123456789abcdefffeeddccbbaa99887766554433221100", 2048, 3, "78cf2917fe859483d0e66c092eb3cf93185814eb6deeb2b6c752666d4d168340", "8c17278f67f8f50710d81183ec9a5ed8aae965d2eef52b0c9324249d16535346"},
		{sketch{3, 1024, 1000, 1000, 900, 1000}, "123456789abcdef0fedcba98765432100112233445566778899aabbccddeeff", "fedcba9876543210123456789abcdefffeeddccbbaa99887766554433221100", 6144, 3, "122f167e484b0b347d737aa5c9c5a47b507b4fecb36752e768c57c5bf4e54ada", "5c7529cfffb82758d38e0cea45414f213369665bfc04c54b6c7e11b459f7be12"},
		{sketch{1000, 700, 200, 1900, 1500, 900}, "123456789abcdef0fedcba98765432100112233445566778899aabbccddeeff", "fedcba9876543210123456789abcdefffeeddccbbaa99887766554433221100", 12288, 3, "c42c7e1d08a2017d15b61b3a6190c1c56257b67adfe3996fd9d13e440087cd69", "77bfb8af1969d00f7104a19314b95159da2207a9ae21ea47c7f4edf6a716e676"},
	}
}

// task is what a proof is of.
func (x apart) task() task {
	switch {
	case x.rows == 0 && x.cols == 0:
		return square()
	case x.rows == 0:
		l := square()
		l.z[2] = whole(-3)
		return l
	case x.rows == -1:
		return cube()
	}
	return x.even()
}

// drawn are its draws.
func (x apart) drawn() (d []*big.Int) {
	count := drawsFor(x.task().c)
	switch x.draws {
	case 0, 1, 2:
		return repeat([]*big.Int{whole(0), whole(1), minus(1)}[x.draws], count)
	case 3:
		return powersOf19(count)
	}
	return counting(count)
}

// powersOf19 are draws.
func powersOf19(count int) (d []*big.Int) {
	for i := range count {
		d = append(d, raised(whole(19), 50*(i+1)))
	}
	return d
}

// setup is that of both scalars. To make one takes long: the great ones are part of one, and
// those of 1 are the same point over and over.
func (x apart) setup(t *testing.T, long *srs.SRS) *srs.SRS {
	t.Helper()
	switch {
	case x.t == "1":
		return ones(number(x.g), x.d)
	case x.t == great1 && x.g == great2 && x.d <= long.Degree():
		return trimmed(t, long, x.d)
	}
	return made(t, number(x.t), number(x.g), x.d)
}

// name tells what a proof is of.
func (x apart) name() string {
	return what(x.sketch, " by ", len(x.t), " and ", len(x.g), " digits, of the degree ", x.d, ", by the draws ", x.draws)
}

// wantSum fails if bytes' sum by SHA-256 is not this.
func wantSum(t *testing.T, what string, b []byte, wanted string) {
	t.Helper()
	sum := sha256.Sum256(b)
	if got := hex.EncodeToString(sum[:]); got != wanted {
		t.Errorf("%s: %d bytes: %s, not %s", what, len(b), got, wanted)
	}
}

// digits are the bytes of a text of digits.
func digits(text string) []byte {
	b, e := hex.DecodeString(strings.Join(strings.Fields(text), ""))
	if e != nil {
		panic(e)
	}
	return b
}

// What the tests hold the program against is held against what was worked out apart.
func TestModel(t *testing.T) {
	l := allApart()
	together(len(l), func(i int) {
		x := l[i]
		if n, _, m := sizesOf(x.task().c); n > 64 || m > 32 || x.d > 1000 {
			return // word by word it takes long
		}
		w := expsOf(number(x.t), number(x.g), x.d).provenBy(t, x.task(), x.drawn())
		wantSum(t, x.name()+", the key", w.k.text(), x.key)
		wantSum(t, x.name()+", the proof", w.p.text(), x.proven)
		if e := w.question().verdict(); e != api.OK {
			t.Errorf("%s: by the chapter's words it is %v", x.name(), e)
		}
	})
}

func TestToldApart(t *testing.T) {
	l, long := allApart(), made(t, number(great1), number(great2), 12288)
	together(len(l), func(i int) {
		x := l[len(l)-1-i] // the greatest ones ahead
		l, s := x.task(), x.setup(t, long)
		k := keyOf(t, x.name(), s, l.c)
		text, e := k.Bytes()
		if e != api.OK {
			t.Errorf("%s: %v", x.name(), e)
		}
		wantSum(t, x.name()+", the key", text, x.key)
		p := proveOf(t, x.name(), s, l, x.drawn())
		wantSum(t, x.name()+", the proof", p.Bytes(), x.proven)
		if e := marlin.Verify(k, els(l.z[:k.Inputs]), p); e != api.OK {
			t.Errorf("%s: Verify: %v", x.name(), e)
		}
		if x.d < 1000 {
			wantByBytes(t, x, s, text)
		}
	})
}

// wantByBytes fails if the calls that take bytes do not tell the same.
func wantByBytes(t *testing.T, x apart, s *srs.SRS, key []byte) {
	t.Helper()
	l := x.task()
	setup, e := s.Bytes()
	circuit, wrong := r1cs.Bytes(l.c)
	if e != api.OK || wrong != api.OK {
		t.Errorf("%s: %v, %v", x.name(), e, wrong)
	}
	again, e := marlin.Index(setup, circuit)
	if string(again) != string(key) || e != api.OK {
		t.Errorf("%s: Index: %x, %v", x.name(), again, e)
	}
	b, e := marlin.ProveBytes(setup, circuit, textOfScalars(l.z...), textOfScalars(x.drawn()...))
	if e != api.OK {
		t.Errorf("%s: ProveBytes: %v", x.name(), e)
	}
	wantSum(t, x.name()+", the proof's bytes", b, x.proven)
	if e := marlin.VerifyBytes(key, textOfScalars(l.z[:l.c.Inputs]...), b); e != api.OK {
		t.Errorf("%s: VerifyBytes: %v", x.name(), e)
	}
}

// The two whose bytes stand here are told so, and accepted.
func TestReadApart(t *testing.T) {
	for i, c := range []struct {
		task
		t, g       *big.Int
		d          int
		draws      []*big.Int
		key, bytes string
	}{
		{square(), whole(2), whole(3), 12, counting(19), keyOfSquare, proofOfSquare},
		{cube(), number(great1), number(great2), 25, powersOf19(27), keyOfCube, proofOfCube},
	} {
		w := expsOf(c.t, c.g, c.d).provenBy(t, c.task, c.draws)
		if string(w.k.text()) != string(digits(c.key)) || string(w.p.text()) != string(digits(c.bytes)) {
			t.Errorf("%d: by the chapters' words they have other bytes", i)
		}
		wantProof(t, what("the example ", i), proveOf(t, what("the example ", i), made(t, c.t, c.g, c.d), c.task, c.draws), w.p)
		k, e := keys.Get(digits(c.key))
		p, wrong := proof.Get(digits(c.bytes))
		if e != api.OK || wrong != api.OK {
			t.Fatalf("%d: %v, %v", i, e, wrong)
		}
		in := els(c.z[:2])
		if e := marlin.Verify(k, in, p); e != api.OK {
			t.Errorf("%d: Verify: %v", i, e)
		}
		if e := marlin.VerifyBytes(digits(c.key), textOfScalars(c.z[:2]...), digits(c.bytes)); e != api.OK {
			t.Errorf("%d: VerifyBytes: %v", i, e)
		}
		in[1] = in[1].Sub(fr.Of(1))
		if e := marlin.Verify(k, in, p); e != api.ErrReject {
			t.Errorf("%d, of another input: Verify: %v", i, e)
		}
	}
}
